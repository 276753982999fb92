/-
  The law TreePaths, walked.
-/
import Derived.Test.YtbdlkglngjjpjaaHeirs
set_option linter.unusedVariables false
set_option linter.unusedSimpArgs false
namespace Go.Proofs.Ytbdlkglngjjpjaa
open Go Go.RowKit

theorem infoS : (Try.prog.info? 42).map (fun i => (i.zero, i.size, i.bytes)) = some (some (.agg (Array.replicate 17 (.bool false))), 17, 17) := by kernel_rfl
theorem run_zero {t : TypeId} {Z : Array Value} {s b : Nat} (h : (Try.prog.info? t).map (fun i => (i.zero, i.size, i.bytes)) = some (some (.agg Z), s, b)) (w : World) : (zeroValue t).run Try.prog w = .ok (.agg Z) w := by
  obtain ⟨i, hi, hz, _, _⟩ := info_parts h
  simp [zeroValue, typeInfo, go_sem, hi, hz]
theorem makeS : ∃ Z : Array Value, (∀ w : World, (zeroValue 42).run Try.prog w = .ok (.agg Z) w) ∧ ∀ w : World, (w.alloc (.cells Z 42)).rowIs w.heap.size 42 17 (fun _ => .bool false) :=
  ⟨_, run_zero infoS, fun w => ⟨_, heap_new _ _, by simp, fun i hi => by simp [hi]⟩⟩
section
variable {W w w' : World} {B K b : Nat} {t : Tr} {f f' : Nat → Value} {v : Value} {L : List Int}
/-- an array beside the tree, and the numbers of a path -/
structure PK (W w : World) (B K b : Nat) (t : Tr) (f : Nat → Value) (v : Value) (L : List Int) : Prop where
  o : T1 W w B t
  arr : w.rowIs K 42 17 f
  p : OwnI b w v L
  ge : W.heap.size ≤ K
theorem PK.below (h : PK W w B K b t f v L) (hb : Below w.heap.size w w') : PK W w' B K b t f v L :=
  ⟨h.o.below hb, (KT.ofBelow (Ts := []) hb).row h.arr (by simp), h.p.below hb, h.ge⟩
theorem PK.set (h : PK W w B K b t f v L) (i : Nat) (u : Value) : PK W (w.setCell ⟨K, i, none⟩ u) B K b t (fun j => if j = i then u else f j) v L := by
  have hk : Kept (· = K) w (w.setCell ⟨K, i, none⟩ u) := Kept.setCell (S := (· = K)) (p := ⟨K, i, none⟩) (Kept.refl _ w) rfl _
  have ht : ∀ k, k = K → Typ w [42] k := by
    rintro k rfl
    obtain ⟨c, hb, _⟩ := h.arr
    exact ⟨c, _, _, hb, by simp⟩
  exact ⟨h.o.kt ⟨_, hk, ht⟩ (below_kept h.o.low hk (fun k e => by subst e; exact h.ge)) (by decide), h.arr.set i u, own_kept2 h.p hk ht (by decide), h.ge⟩
theorem PK.congr (h : PK W w B K b t f v L) (hf : ∀ i, i < 17 → f i = f' i) : PK W w B K b t f' v L := ⟨h.o, h.arr.congr hf, h.p, h.ge⟩
/-- which groups are marked -/
def inF (P : List Nat) (j : Nat) (x : Nat) : Value := .bool (decide (x ∈ P.take j))
theorem inF_next {P : List Nat} {j z : Nat} (hj : j < P.length) (hz : P.getD j 0 = z) : ∀ i, i < 17 → (if i = z then Value.bool true else inF P j i) = inF P (j + 1) i := by
  intro i _
  have hg : P[j] = z := by
    rw [List.getD_eq_getElem?_getD, List.getElem?_eq_getElem hj] at hz
    exact hz
  unfold inF
  rw [List.take_succ_eq_append_getElem hj, hg]
  by_cases e : i = z
  · subst e
    rw [if_pos rfl, decide_eq_true (by simp)]
  · rw [if_neg e]
    congr 1
    by_cases h2 : i ∈ P.take j
    · rw [decide_eq_true h2, decide_eq_true (List.mem_append_left _ h2)]
    · rw [decide_eq_false h2, decide_eq_false (fun h3 => by
        rcases List.mem_append.1 h3 with h3 | h3
        · exact h2 h3
        · exact e (List.mem_singleton.1 h3))]
theorem T1.drewN (h : T1 W w B t) (m : Nat) : T1 W (w.drewN m) B t := h.below (below_drewN (Below.refl _ w) m)
theorem PK.drew (h : PK W w B K b t f v L) : PK W w.drew B K b t f v L := h.below (Below.refl _ w).drew
theorem PK.ca (h : PK W w B K b t f v L) {i : Nat} (hi : i < 17) : w.cell? ⟨K, i, none⟩ = some (f i) := h.arr.cell hi
theorem pBelow (h : PK W w B K b t f v L) {x y : Int} {q : Bool} (hq : belowF t x y = q) :
    Calls Try.prog 22 #[.pointer (some ⟨B, 0, none⟩), .int .i64 x, .int .i64 y] w fun e w' => e = .returned (.bool q) ∧ PK W w' B K b t f v L := by
  refine (cBelow hq h.o.tq).mono ?_
  rintro e w' ⟨rfl, hb⟩
  exact ⟨rfl, h.below hb⟩
theorem PK.cp {bb o n cap j : Nat} (h : PK W w B K bb t f (.slice (some ⟨b, o, none⟩) n cap) L) (hl : L.length = n) (hj : j < n) : w.cell? ⟨b, o + j, none⟩ = some (.int .i64 (pk L j)) := by
  have h1 := h.p.shows.form
  rw [hl] at h1
  obtain ⟨ao, c, e, _, hat⟩ := h1
  cases e
  obtain ⟨b', o', e, h2⟩ := hat j hj
  cases e
  exact h2
theorem bring_small {z n : Nat} (h : z < n) : bring (z : Int) n = z := by
  unfold bring
  rw [Int.emod_eq_of_lt (by omega) (by omega)]
  omega
end
set_option maxHeartbeats 8000000 in
set_option maxRecDepth 100000 in
theorem walkPaths (u : Value) (l : List Wt) (W : World) (hs : ShowW W u l) : Calls Try.prog 4 #[u] W fun e W' => e = .returned (.bool true) ∧ Below W.heap.size W W' := by
  obtain ⟨Z, hzero, hZ⟩ := makeS
  have HZ := Lib.hid hZ
  have HS := Lib.hid hs
  clear hs hZ
  go_enter Try.func4, Try.ntmps4
  go_wp2_with fail
  refine (works W).mono ?_
  rintro e w0 ⟨rfl, hb0⟩
  have HB0 := Lib.hid hb0
  have HS0 := Lib.hid (HS.out.below hb0)
  clear hb0
  go_wp2_with fail
  refine (cGrown u l w0 HS0.out).mono ?_
  rintro e w1 ⟨B, t, rfl, h1⟩
  have H1 := Lib.hid h1
  have HI := Lib.hid h1.ti
  obtain ⟨N, hN⟩ : ∃ N, t.n = N := ⟨_, rfl⟩
  have HN := Lib.hid hN
  have hN16 : 1 ≤ N ∧ N ≤ 16 := by have := h1.ti.n1; omega
  clear h1 HS HS0 hN
  go_wp2_with fail
  refine (cMany H1.out.tq).mono ?_
  rintro e w2 ⟨rfl, rfl⟩
  rw [HN.out]
  go_wp2_with fail
  refine (cMany H1.out.tq).mono ?_
  rintro e w2 ⟨rfl, rfl⟩
  rw [HN.out]
  go_wp2
  go_loopw [4] (fun i wr => ∃ g : Nat, 1 ≤ g ∧ g ≤ N + 1 ∧ i = .int .i64 g ∧ Hid (T1 w0 wr B t)) (fun i _ => N + 1 - (intOf i).toNat)
  case atStart => exact ⟨1, by omega, by omega, rfl, H1⟩
  case round =>
    clear H1
    obtain ⟨g, hg1, hg2, rfl, HT⟩ := hrel
    go_wp2_with fail
    refine (cMany HT.out.tq).mono ?_
    rintro e w2 ⟨rfl, rfl⟩
    rw [HN.out]
    by_cases hlt : g ≤ N
    · have HG : Hid (1 ≤ g ∧ g ≤ t.n) := Lib.hid (by rw [HN.out]; exact ⟨hg1, hlt⟩)
      obtain ⟨P, hP⟩ : ∃ P, path t g = P := ⟨_, rfl⟩
      have HP := Lib.hid hP
      obtain ⟨L, hL⟩ : ∃ L, ints P = L := ⟨_, rfl⟩
      have HL := Lib.hid hL
      have HPL : Hid (ints (path t (nu t.n (g : Int))) = L) := Lib.hid (by rw [nu_yes HG.out, hP]; exact hL)
      obtain ⟨n, hn⟩ : ∃ n, P.length = n := ⟨_, rfl⟩
      have HPN := Lib.hid hn
      have HLEN : Hid (L.length = n) := Lib.hid (by rw [← hL, List.length_map]; exact hn)
      have HD : Hid ((path t (nu t.n (g : Int))).length = n) := Lib.hid (by rw [nu_yes HG.out, hP]; exact hn)
      have hn1 : 1 ≤ n ∧ n ≤ 8 := by
        have h1 := path_pos HI.out HG.out.1 HG.out.2
        have h2 := HI.out.dep g HG.out.2
        rw [hP, hn] at h1 h2
        exact ⟨h1, h2⟩
      clear hP hL hn
      go_wp2_with fail
      refine (cPath HPL.out HT.out.tq).mono ?_
      rintro e w3 ⟨ao, cap, rfl, hown, hb⟩
      have H3 := Lib.hid (And.intro (HT.out.below hb) hown)
      rw [HLEN.out] at H3 ⊢
      clear hown hb
      go_wp2_with fail
      refine (cDepth HD.out H3.out.1.tq).mono ?_
      rintro e w4 ⟨rfl, hb⟩
      have H4 := Lib.hid (And.intro (H3.out.1.below hb) (H3.out.2.below hb))
      have hsh := (H3.out.2.below hb).shows.form
      rw [HLEN.out] at hsh
      obtain ⟨ao', cap', e, hcap, hat⟩ := hsh
      cases e
      obtain ⟨b, o, rfl, hc0⟩ := hat 0 (by omega)
      obtain ⟨b', o', e, hcl⟩ := hat (n - 1) (by omega)
      cases e
      have hg0 : pk L 0 = (g : Int) := by
        rw [← HL.out, pk_ints, ← HP.out, path_first HI.out HG.out.1 HG.out.2]
      have hgl : pk L (n - 1) = 1 := by
        have h1 := path_last HI.out g HG.out.1 HG.out.2
        rw [HP.out, HPN.out] at h1
        rw [← HL.out, pk_ints, h1]
        rfl
      rw [hg0, Nat.add_zero] at hc0
      rw [hgl] at hcl
      obtain ⟨m, hm⟩ : ∃ m, n - 1 = m := ⟨_, rfl⟩
      rw [hm] at hcl
      have hnm : (n : Int) - 1 = m := by omega
      have hmn : m < n := by omega
      have HP0 : Hid (∀ wx, Below w4.heap.size w4 wx → wx.rowIs w4.heap.size 42 17 (fun _ => .bool false) → PK w0 wx B w4.heap.size w2.heap.size t (inF P 0) (.slice (some ⟨b, o, none⟩) n cap) L) := Lib.hid (fun wx h1 h2 => by
        have hL := H4.out.2.below h1
        exact ⟨H4.out.1.below h1, h2.congr (fun i _ => by unfold inF; simp), hL, H4.out.1.low.size⟩)
      have HZ4 : Hid ((w4.alloc (.cells Z 42)).rowIs w4.heap.size 42 17 (fun _ => .bool false)) := Lib.hid (HZ.out w4)
      clear hat hg0 hgl hm H3
      go_wp2
      obtain ⟨K, hK⟩ : ∃ K, w4.heap.size = K := ⟨_, rfl⟩
      have H5 : Hid (PK w0 (w4.alloc (.cells Z 42)) B K w2.heap.size t (inF P 0) (.slice (some ⟨b, o, none⟩) n cap) L) := Lib.hid (by rw [← hK]; exact HP0.out _ (below_one (Below.refl _ _) _) HZ4.out)
      rw [hK]
      obtain ⟨w5, hw5⟩ : ∃ w5, w4.alloc (.cells Z 42) = w5 := ⟨_, rfl⟩
      rw [hw5] at H5 ⊢
      clear hw5 hK HP0 HZ4 H4 hc0 hcl
      go_loopw [7] (fun i wr => ∃ j : Nat, j ≤ n ∧ i = .int .i64 j ∧ Hid (PK w0 wr B K w2.heap.size t (inF P j) (.slice (some ⟨b, o, none⟩) n cap) L)) (fun i _ => n - (intOf i).toNat)
      case atStart => exact ⟨0, Nat.zero_le _, rfl, H5⟩
      case round =>
        clear H5
        obtain ⟨j, hj, rfl, HPK⟩ := hrel
        by_cases hjl : j < n
        · obtain ⟨z, hz⟩ : ∃ z, P.getD j 0 = z := ⟨_, rfl⟩
          have HZJ := Lib.hid hz
          have hzr := path_in_range HI.out HG.out.1 HG.out.2 (j := j) (by rw [HP.out, HPN.out]; exact hjl)
          rw [HP.out, hz, HN.out] at hzr
          have hz17 : z < 17 := by omega
          have cp := HPK.out.cp HLEN.out hjl
          rw [← HL.out, pk_ints, hz] at cp
          have ca := HPK.out.ca hz17
          have fa := HPK.out.arr.frozen z
          have HBR : Hid (bring (z : Int) 17 = z) := Lib.hid (bring_small hz17)
          have H7 : Hid (PK w0 (wr.setCell ⟨K, z, none⟩ (.bool true)) B K w2.heap.size t (inF P (j + 1)) (.slice (some ⟨b, o, none⟩) n cap) L) := Lib.hid ((HPK.out.set z (.bool true)).congr (inF_next (by rw [HPN.out]; exact hjl) hz))
          obtain ⟨vz, hvz⟩ : ∃ vz, inF P j z = vz := ⟨_, rfl⟩
          rw [hvz] at ca
          clear hz hvz
          go_wp2_with fail
          refine (cBringN (z : Int) 17 17 rfl (by decide) _).mono ?_
          rintro e w6 ⟨rfl, rfl⟩
          rw [HBR.out]
          go_wp2_with fail
          obtain ⟨w7, hw7⟩ : ∃ w7, w6.setCell ⟨K, z, none⟩ (.bool true) = w7 := ⟨_, rfl⟩
          rw [hw7] at H7 ⊢
          clear hw7 ca fa cp HPK
          by_cases hj0 : 0 < j
          · obtain ⟨i, hi⟩ : ∃ i, j = i + 1 := ⟨j - 1, by omega⟩
            have hji : (j : Int) - 1 = i := by omega
            have hin : i < n := by omega
            obtain ⟨y, hy⟩ : ∃ y, P.getD i 0 = y := ⟨_, rfl⟩
            have hnx := path_next HI.out g HG.out.1 HG.out.2 i (by rw [HP.out, HPN.out]; omega)
            rw [HP.out, ← hi, HZJ.out, hy] at hnx
            have hyr := path_in_range HI.out HG.out.1 HG.out.2 (j := i) (by rw [HP.out, HPN.out]; exact hin)
            rw [HP.out, hy] at hyr
            have HUY : Hid (((t.up (nu t.n (y : Int)) : Nat) : Int) = z) := Lib.hid (by rw [nu_yes hyr, hnx.1])
            have cz := H7.out.cp HLEN.out hjl
            rw [← HL.out, pk_ints, HZJ.out] at cz
            have cy := H7.out.cp HLEN.out hin
            rw [← HL.out, pk_ints, hy] at cy
            have hzz : ((z : Int) != (z : Int)) = false := by simp
            have hyz : decide (y ≤ z) = false := decide_eq_false (by omega)
            have hyz2 : decide ((y : Int) ≤ (z : Int)) = false := decide_eq_false (by omega)
            have hd1 : decide ((0 : Int) < (j : Int)) = true := decide_eq_true (by omega)
            have hd2 : decide (0 < j) = true := decide_eq_true (by omega)
            clear hnx hyr hy hi
            go_quiet ((go_at_call 21; exact Calls.quiet_of_same (cParent (H7.out.o.drewN _).tq (y : Int) z HUY.out)))
            go_wp2
            go_roundw
            case rel => exact ⟨j + 1, by omega, by go_num, Lib.hid (H7.out.below (below_drewN (Below.refl _ _) _))⟩
            case measure => simp [intOf]; omega
          · have hd1 : decide ((0 : Int) < (j : Int)) = false := decide_eq_false (by omega)
            have hd2 : decide (0 < j) = false := decide_eq_false hj0
            go_quiet (fail)
            go_wp2
            go_roundw
            case rel => exact ⟨j + 1, by omega, by go_num, Lib.hid (H7.out.below (below_drewN (Below.refl _ _) _))⟩
            case measure => simp [intOf]; omega
        · obtain rfl : j = n := by omega
          have H8 : Hid (PK w0 wr B K w2.heap.size t (fun x => .bool (decide (x ∈ P))) (.slice (some ⟨b, o, none⟩) j cap) L) := Lib.hid (HPK.out.congr (fun i _ => by unfold inF; rw [List.take_of_length_le (by rw [HPN.out]; exact Nat.le_refl _)]))
          clear HPK
          go_wp2
          go_loopw [8] (fun i wr => ∃ h : Nat, 1 ≤ h ∧ h ≤ 17 ∧ i = .int .i64 h ∧ Hid (PK w0 wr B K w2.heap.size t (fun x => .bool (decide (x ∈ P))) (.slice (some ⟨b, o, none⟩) j cap) L)) (fun i _ => 17 - (intOf i).toNat)
          case atStart => exact ⟨1, by omega, by omega, rfl, H8⟩
          case round =>
            clear H8
            obtain ⟨h, hh1, hh2, rfl, HQ⟩ := hrel
            by_cases hh17 : h < 17
            · obtain ⟨q, hq⟩ : ∃ q, decide (h ∈ P) = q := ⟨_, rfl⟩
              have HB : Hid (belowF t (g : Int) (h : Int) = q) := Lib.hid (by
                unfold belowF
                rw [nu_yes HG.out, HP.out, ← hq]
                by_cases e : h ∈ P
                · rw [decide_eq_true e, decide_eq_true (mem_ints.2 ⟨h, e, rfl⟩)]
                · rw [decide_eq_false e, decide_eq_false (fun e2 => by
                    obtain ⟨x, h1, h2⟩ := mem_ints.1 e2
                    obtain rfl : x = h := by omega
                    exact e h1)])
              have HCA : Hid (∀ w', PK w0 w' B K w2.heap.size t (fun x => .bool (decide (x ∈ P))) (.slice (some ⟨b, o, none⟩) j cap) L → w'.cell? ⟨K, h, none⟩ = some (.bool q)) := Lib.hid (fun w' h1 => by rw [← hq]; exact h1.ca hh17)
              have hd := HQ.out.drew
              clear hq
              go_wp2
              go_region_held3 (fun w' => w'.cell? ⟨K, h, none⟩ = some (.bool q))
                (first | exact HCA.out _ (by assumption))
                (first
                  | (go_at_call 22; refine (pBelow (by assumption) HB.out).mono ?_; rintro e wN ⟨rfl, bN⟩))
              all_goals
                have H9 := Lib.hid bN
                clear bN hd
                go_wp2
                go_roundw
                case rel => exact ⟨h + 1, by omega, by omega, by go_num, H9⟩
                case measure => simp [intOf]; omega
            · obtain rfl : h = 17 := by omega
              rw [show ((17 : Nat) : Int) = 17 from rfl]
              go_wp2
              go_roundw
              case rel => exact ⟨g + 1, by omega, by omega, by go_num, Lib.hid HQ.out.o⟩
              case measure => simp [intOf]; omega
    · obtain rfl : g = N + 1 := by omega
      have HB := Lib.hid (below_then HB0.out HT.out.low)
      go_wp2
      go_ret
      exact ⟨rfl, HB.out⟩
end Go.Proofs.Ytbdlkglngjjpjaa
