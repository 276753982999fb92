/-
  PickWindows: picks are fair just if each processor stands in each window.
-/
import Derived.Test.YtkbehjkfeoffmaaWin
import Derived.Test.YtkbehjkfeoffmaaRound
set_option linter.unusedVariables false
set_option linter.unusedSimpArgs false
namespace Go.Proofs.Ytkbehjkfeoffmaa
open Go Go.RowKit

/-- processor c stands among j picks from a on -/
def hasC (l : List Int) (c : Nat) (a j : Nat) : Bool := (List.range j).any fun i => pk l (a + i) == (c : Int)
/-- .. each of the first n, in the window of m from a on -/
def allC (l : List Int) (m a n : Nat) : Bool := (List.range n).all fun c => hasC l c a m
/-- .. in each window that begins below a -/
def allW (l : List Int) (n m a : Nat) : Bool := (List.range a).all fun a => allC l m a n
theorem hasC_succ (l : List Int) (c a j : Nat) : hasC l c a (j + 1) = (hasC l c a j || (pk l (a + j) == (c : Int))) := by simp [hasC, List.range_succ]
theorem allC_succ (l : List Int) (m a n : Nat) : allC l m a (n + 1) = (allC l m a n && hasC l n a m) := by simp [allC, List.range_succ]
theorem allW_succ (l : List Int) (n m a : Nat) : allW l n m (a + 1) = (allW l n m a && allC l m a n) := by simp [allW, List.range_succ]
theorem fair_all (l : List Int) (n m : Nat) (h1 : 1 ≤ n) (h8 : n ≤ 8) (hm : 1 ≤ m) : fairF l n m = allW l n m (l.length + 1 - m) := by
  rw [Bool.eq_iff_iff]
  have e1 : fairF l n m = true ↔ ∀ c : Nat, c < n → gapF l c < m := by
    unfold fairF
    rw [decide_eq_true_iff]
    constructor
    · rintro ⟨_, _, _, h⟩ c hc
      have := h c (by omega)
      omega
    · intro h
      refine ⟨by omega, by omega, by omega, fun c hc => ?_⟩
      have := h c (by omega)
      omega
  have e2 : allW l n m (l.length + 1 - m) = true ↔ ∀ a, a < l.length + 1 - m → ∀ c, c < n → ∃ i, i < m ∧ pk l (a + i) = (c : Int) := by
    simp [allW, allC, hasC]
  rw [e1, e2]
  constructor
  · intro h a ha c hc
    exact (gapF_window l c m hm).1 (h c hc) a (by omega)
  · intro h c hc
    exact (gapF_window l c m hm).2 (fun a ha => h a (by omega) c hc)
theorem show_cell {w : World} {g K cp : Nat} {l : List Int} (h : ShowI w (.slice (some ⟨g, 0, none⟩) K cp) l) (hl : l.length = K) {j : Nat} (hj : j < K) : w.cell? ⟨g, j, none⟩ = some (.int .i64 (pk l j)) := by
  obtain ⟨ao, cap, e, _, hc⟩ := h.form
  cases e
  obtain ⟨b, o, e2, h2⟩ := hc j (by omega)
  cases e2
  rwa [Nat.zero_add] at h2
/-- the picks, brought below 5 -/
def brs (a : List Int) (k : Nat) : List Int := (List.range k).map fun j => (bring (pk a j) 5 : Int)
theorem brs_succ (a : List Int) (k : Nat) : brs a (k + 1) = brs a k ++ [(bring (pk a k) 5 : Int)] := by simp [brs, List.range_succ]
theorem brs_length (a : List Int) (k : Nat) : (brs a k).length = k := by simp [brs]
set_option maxHeartbeats 16000000 in
set_option maxRecDepth 100000 in
theorem walkWindows (u : Value) (A : List Int) (x y : Int) (W : World) (hs : ShowI W u A) :
    Calls Try.prog 7 #[u, .int .i64 x, .int .i64 y] W fun e W' => e = .returned (.bool true) ∧ Below W.heap.size W W' := by
  obtain ⟨ao, cap, rfl, hcap, hat⟩ := hs.form
  clear hs
  have hb5 := bring_lt x 5 (by decide)
  obtain ⟨X, hX⟩ : ∃ X, bring x 5 = X := ⟨_, rfl⟩
  rw [hX] at hb5
  have HX : Hid (bring x 5 = X) := Lib.hid hX
  clear hX
  have hb12 := bring_lt y 12 (by decide)
  obtain ⟨Y, hY⟩ : ∃ Y, bring y 12 = Y := ⟨_, rfl⟩
  rw [hY] at hb12
  have HY : Hid (bring y 12 = Y) := Lib.hid hY
  clear hY
  obtain ⟨n, hn⟩ : ∃ n : Nat, 1 + (X : Int) = (n : Int) := ⟨1 + X, by omega⟩
  obtain ⟨m, hm⟩ : ∃ m : Nat, 1 + (Y : Int) = (m : Int) := ⟨1 + Y, by omega⟩
  have hn1 : 1 ≤ n := by omega
  have hn5 : n ≤ 5 := by omega
  have hm1 : 1 ≤ m := by omega
  have hm12 : m ≤ 12 := by omega
  obtain ⟨i0, hi_, hz0, hz1_, hz2⟩ := info_parts infoI
  go_enter Try.func7, Try.ntmps7
  go_wp2
  go_loopw [7, 8] (fun v a wr => ∃ k : Nat, k ≤ A.length ∧ k ≤ 60 ∧ a = .int .i64 k ∧ wr.ownsRow W.heap.size 3 1 v k (nms (brs A k)) ∧ Below W.heap.size W wr) (fun v a _ => A.length - (intOf a).toNat)
  case atStart => exact ⟨0, by omega, by omega, rfl, World.ownsRow_nil _ _ _ _, Below.refl _ _⟩
  case round =>
    obtain ⟨k, hk, hk60, rfl, hown, hb⟩ := hrel
    by_cases hlt : k < A.length
    · by_cases h60 : k < 60
      · obtain ⟨b1, o1, rfl, c1⟩ := hat k hlt
        have d1 := (hb.cell (p := ⟨b1, o1 + k, none⟩) (World.block_lt_of_cell? W _ c1)).trans c1
        have HS := Lib.hid (brs_succ A k)
        generalize pk A k = z at d1 HS
        have hz1 := hb.size
        obtain ⟨xs, hxs⟩ : ∃ xs, nms (brs A k) = xs := ⟨_, rfl⟩
        rw [hxs] at hown
        have HXS := Lib.hid hxs
        clear hxs c1 hn hm
        go_wp2_with fail
        refine (cBring z 5 _ (by decide) (by decide)).mono ?_
        rintro e w5 ⟨rfl, rfl⟩
        obtain ⟨q, hq⟩ : ∃ q, bring z 5 = q := ⟨_, rfl⟩
        rw [hq] at HS ⊢
        clear hq
        go_wp2_with (at_builtin; refine wpList_append_own _ (by rfl) _ _ 27 (by rfl) _ 3 i0 (.int .i64 0) 1 8 Try.underlying27 hi_ hz0 hz1_ hz2 (by rfl) (by decide) _ k xs (by rfl) (hown.alloc _) ⟨w5.heap.size, 0, none⟩ 1 1 [.int .i64 (q : Int)] (by rfl) (by rfl) (cell_one_new _ _ _) (by intro u hu; simp at hu; subst hu; rfl) (by unfold maxLen; omega) (by omega) (by rw [size_alloc]; omega) ?_)
        intro v' w6 hown6 hg6 _
        have hb6 := (below_one hb _).grown hg6 (by rw [size_alloc]; omega) (own_ge hown)
        go_wp2
        go_roundw
        case rel => exact ⟨k + 1, by omega, by omega, by go_num, by rw [HS.out]; simpa [nms, ← HXS.out] using hown6, hb6⟩
        case measure => simp [intOf]; omega
      · have h60' : 60 ≤ k := by omega
        have hsI := own_i hown
        have hll : (brs A k).length = k := brs_length A k
        have HFA := Lib.hid (fair_all (brs A k) n m hn1 (by omega) hm1)
        obtain ⟨l, hl⟩ : ∃ l, brs A k = l := ⟨_, rfl⟩
        rw [hl] at hsI hll HFA
        rw [hll] at HFA
        have HLL := Lib.hid hll
        have hform := own_form hown
        clear hown hl hll hat
        rcases hform with ⟨rfl, h0⟩ | ⟨g, cp, rfl, hcp, _⟩
        · exact absurd h0 (by omega)
        · go_wp2_with fail
          refine (cBring x 5 _ (by decide) (by decide)).mono ?_
          rintro e _ ⟨rfl, rfl⟩
          rw [HX.out]
          go_wp2_with fail
          refine (cBring y 12 _ (by decide) (by decide)).mono ?_
          rintro e _ ⟨rfl, rfl⟩
          rw [HY.out]
          go_wp2
          clear hn hm HX HY hb5 hb12
          go_loopw [9, 10] (fun v z wr => ∃ (a : Nat) (q : Bool), a ≤ k + 1 - m ∧ z = .int .i64 a ∧ v = .bool q ∧ Hid (allW l n m a = q) ∧ ShowI wr (.slice (some ⟨g, 0, none⟩) k cp) l ∧ Below W.heap.size W wr) (fun v z _ => k + 1 - (intOf z).toNat)
          case atStart => exact ⟨0, true, by omega, rfl, rfl, Lib.hid rfl, hsI, hb⟩
          case round =>
            clear hsI hb
            obtain ⟨a, q, ha, rfl, rfl, HA, hsa, hba⟩ := hrel
            by_cases haw : a + m ≤ k
            · have haw' : ((a : Int) + (m : Int)) ≤ (k : Int) := by omega
              have HAS := Lib.hid (allW_succ l n m a)
              have HSA := Lib.hid hsa
              clear hsa
              go_wp2
              go_loopw [9, 11] (fun v z wr => ∃ (c : Nat) (q : Bool), c ≤ n ∧ z = .int .i64 c ∧ v = .bool q ∧ Hid ((allW l n m a && allC l m a c) = q) ∧ ShowI wr (.slice (some ⟨g, 0, none⟩) k cp) l ∧ Below W.heap.size W wr) (fun v z _ => n - (intOf z).toNat)
              case atStart => exact ⟨0, q, by omega, rfl, rfl, Lib.hid (by rw [HA.out]; simp [allC]), HSA.out, hba⟩
              case round =>
                clear hba HSA HA
                obtain ⟨c, q1, hc, rfl, rfl, HC, hsc, hbc⟩ := hrel
                by_cases hcn : c < n
                · have HCS := Lib.hid (allC_succ l m a c)
                  have HSC := Lib.hid hsc
                  clear hsc
                  go_wp2
                  go_loopw [12, 13] (fun v z wr => ∃ (j : Nat) (q : Bool), j ≤ m ∧ z = .int .i64 ((a : Int) + (j : Int)) ∧ v = .bool q ∧ Hid (hasC l c a j = q) ∧ ShowI wr (.slice (some ⟨g, 0, none⟩) k cp) l ∧ Below W.heap.size W wr) (fun v z _ => a + m - (intOf z).toNat)
                  case atStart => exact ⟨0, false, by omega, by simp, rfl, Lib.hid rfl, HSC.out, hbc⟩
                  case round =>
                    clear hbc HSC
                    obtain ⟨j, q2, hj, rfl, rfl, HJ, hsj, hbj⟩ := hrel
                    by_cases hjm : j < m
                    · have d1 : wr.cell? ⟨g, a + j, none⟩ = some (.int .i64 (pk l (a + j))) := show_cell hsj HLL.out (by omega)
                      have HJS := Lib.hid (hasC_succ l c a j)
                      have HSJ := Lib.hid hsj
                      have hlt2 : ((a : Int) + (j : Int)) < (a : Int) + (m : Int) := by omega
                      obtain ⟨t, ht⟩ : ∃ t, a + j = t := ⟨_, rfl⟩
                      have hti : (a : Int) + (j : Int) = (t : Int) := by omega
                      have htk : t < k := by omega
                      have hta : (t : Int) < (a : Int) + (m : Int) := by omega
                      rw [ht] at d1 HJS
                      have HT2 : Hid ((t : Int) + 1 = (a : Int) + ((j + 1 : Nat) : Int)) := Lib.hid (by omega)
                      have HTT := Lib.hid hti
                      rw [hti]
                      clear hsj hti hlt2 ht
                      cases q2
                      · generalize pk l t = z at d1 HJS
                        by_cases hz : z = (c : Int)
                        · subst hz
                          have HJ1 : Hid (hasC l c a (j + 1) = true) := Lib.hid (by rw [HJS.out, HJ.out]; simp)
                          go_wp2
                          go_roundw
                          case rel => exact ⟨j + 1, true, by omega, by rw [HT2.out], rfl, HJ1, HSJ.out, hbj⟩
                          case measure => simp [intOf]; omega
                        · have hze : (z == (c : Int)) = false := by simpa using hz
                          have HJ1 : Hid (hasC l c a (j + 1) = false) := Lib.hid (by rw [HJS.out, HJ.out]; simpa using hz)
                          clear hz
                          go_wp2
                          go_roundw
                          case rel => exact ⟨j + 1, false, by omega, by rw [HT2.out], rfl, HJ1, HSJ.out, hbj⟩
                          case measure => simp [intOf]; omega
                      · have HJ1 : Hid (hasC l c a (j + 1) = true) := Lib.hid (by rw [HJS.out, HJ.out]; simp)
                        clear d1
                        go_wp2
                        go_roundw
                        case rel => exact ⟨j + 1, true, by omega, by rw [HT2.out], rfl, HJ1, HSJ.out, hbj⟩
                        case measure => simp [intOf]; omega
                    · obtain rfl : j = m := by omega
                      have HC1 : Hid ((allW l n j a && allC l j a (c + 1)) = (q1 && q2)) := Lib.hid (by rw [HCS.out, ← Bool.and_assoc, HC.out, HJ.out])
                      have HSJ := Lib.hid hsj
                      clear hsj
                      cases q1
                      · go_wp2
                        go_roundw
                        case rel => exact ⟨c + 1, false, by omega, by go_num, rfl, HC1, HSJ.out, hbj⟩
                        case measure => simp [intOf]; omega
                      · go_wp2
                        go_roundw
                        case rel => exact ⟨c + 1, q2, by omega, by go_num, rfl, Lib.hid (by have := HC1.out; simpa using this), HSJ.out, hbj⟩
                        case measure => simp [intOf]; omega
                · obtain rfl : c = n := by omega
                  have HSC := Lib.hid hsc
                  clear hsc
                  go_wp2
                  go_roundw
                  case rel => exact ⟨a + 1, q1, by omega, by go_num, rfl, Lib.hid (by rw [HAS.out, HC.out]), HSC.out, hbc⟩
                  case measure => simp [intOf]; omega
            · have haw' : ¬ ((a : Int) + (m : Int)) ≤ (k : Int) := by omega
              have hae : a = k + 1 - m := by omega
              have HF : Hid (fairF l n m = q) := Lib.hid (by rw [HFA.out, ← hae, HA.out])
              have hqq : (q == q) = true := by cases q <;> rfl
              have hcall := vFair _ l n m q HF.out _ hsa
              clear hsa hae
              go_wp2_with fail
              refine hcall.mono ?_
              rintro e w7 ⟨rfl, hb7⟩
              go_wp2_with fail
              refine (works _).mono ?_
              rintro e w8 ⟨rfl, hb8⟩
              go_wp2
              go_ret
              exact ⟨rfl, below_then (below_then hba hb7) hb8⟩
    · skip
      have hsI := own_i hown
      have hll : (brs A k).length = k := brs_length A k
      have HFA := Lib.hid (fair_all (brs A k) n m hn1 (by omega) hm1)
      obtain ⟨l, hl⟩ : ∃ l, brs A k = l := ⟨_, rfl⟩
      rw [hl] at hsI hll HFA
      rw [hll] at HFA
      have HLL := Lib.hid hll
      have hform := own_form hown
      clear hown hl hll hat
      rcases hform with ⟨rfl, h0⟩ | ⟨g, cp, rfl, hcp, _⟩
      · subst h0
        have HF : Hid (fairF l n m = true) := Lib.hid (by rw [HFA.out, show 0 + 1 - m = 0 by omega]; rfl)
        have hcall := fun w (hw : ShowI w (.slice none 0 0) l) => vFair _ l n m true HF.out w hw
        have HSI := Lib.hid hsI
        have hm0 : ¬ (m : Int) ≤ 0 := by omega
        clear hsI
        go_wp2_with fail
        refine (cBring x 5 _ (by decide) (by decide)).mono ?_
        rintro e _ ⟨rfl, rfl⟩
        rw [HX.out]
        go_wp2_with fail
        refine (cBring y 12 _ (by decide) (by decide)).mono ?_
        rintro e _ ⟨rfl, rfl⟩
        rw [HY.out]
        go_wp2
        clear hn hm HX HY hb5 hb12
        go_loopw [9, 10] (fun v z wr => z = .int .i64 0 ∧ v = .bool true ∧ ShowI wr (.slice none 0 0) l ∧ Below W.heap.size W wr) (fun v z _ => 0)
        case atStart => exact ⟨rfl, rfl, HSI.out, hb⟩
        case round =>
          clear hb
          obtain ⟨rfl, rfl, hsa, hba⟩ := hrel
          have hc7 := hcall _ hsa
          clear hcall hsa
          go_wp2_with fail
          refine hc7.mono ?_
          rintro e w7 ⟨rfl, hb7⟩
          go_wp2_with fail
          refine (works _).mono ?_
          rintro e w8 ⟨rfl, hb8⟩
          go_wp2
          go_ret
          exact ⟨rfl, below_then (below_then hba hb7) hb8⟩
      · go_wp2_with fail
        refine (cBring x 5 _ (by decide) (by decide)).mono ?_
        rintro e _ ⟨rfl, rfl⟩
        rw [HX.out]
        go_wp2_with fail
        refine (cBring y 12 _ (by decide) (by decide)).mono ?_
        rintro e _ ⟨rfl, rfl⟩
        rw [HY.out]
        go_wp2
        clear hn hm HX HY hb5 hb12
        go_loopw [9, 10] (fun v z wr => ∃ (a : Nat) (q : Bool), a ≤ k + 1 - m ∧ z = .int .i64 a ∧ v = .bool q ∧ Hid (allW l n m a = q) ∧ ShowI wr (.slice (some ⟨g, 0, none⟩) k cp) l ∧ Below W.heap.size W wr) (fun v z _ => k + 1 - (intOf z).toNat)
        case atStart => exact ⟨0, true, by omega, rfl, rfl, Lib.hid rfl, hsI, hb⟩
        case round =>
          clear hsI hb
          obtain ⟨a, q, ha, rfl, rfl, HA, hsa, hba⟩ := hrel
          by_cases haw : a + m ≤ k
          · have haw' : ((a : Int) + (m : Int)) ≤ (k : Int) := by omega
            have HAS := Lib.hid (allW_succ l n m a)
            have HSA := Lib.hid hsa
            clear hsa
            go_wp2
            go_loopw [9, 11] (fun v z wr => ∃ (c : Nat) (q : Bool), c ≤ n ∧ z = .int .i64 c ∧ v = .bool q ∧ Hid ((allW l n m a && allC l m a c) = q) ∧ ShowI wr (.slice (some ⟨g, 0, none⟩) k cp) l ∧ Below W.heap.size W wr) (fun v z _ => n - (intOf z).toNat)
            case atStart => exact ⟨0, q, by omega, rfl, rfl, Lib.hid (by rw [HA.out]; simp [allC]), HSA.out, hba⟩
            case round =>
              clear hba HSA HA
              obtain ⟨c, q1, hc, rfl, rfl, HC, hsc, hbc⟩ := hrel
              by_cases hcn : c < n
              · have HCS := Lib.hid (allC_succ l m a c)
                have HSC := Lib.hid hsc
                clear hsc
                go_wp2
                go_loopw [12, 13] (fun v z wr => ∃ (j : Nat) (q : Bool), j ≤ m ∧ z = .int .i64 ((a : Int) + (j : Int)) ∧ v = .bool q ∧ Hid (hasC l c a j = q) ∧ ShowI wr (.slice (some ⟨g, 0, none⟩) k cp) l ∧ Below W.heap.size W wr) (fun v z _ => a + m - (intOf z).toNat)
                case atStart => exact ⟨0, false, by omega, by simp, rfl, Lib.hid rfl, HSC.out, hbc⟩
                case round =>
                  clear hbc HSC
                  obtain ⟨j, q2, hj, rfl, rfl, HJ, hsj, hbj⟩ := hrel
                  by_cases hjm : j < m
                  · have d1 : wr.cell? ⟨g, a + j, none⟩ = some (.int .i64 (pk l (a + j))) := show_cell hsj HLL.out (by omega)
                    have HJS := Lib.hid (hasC_succ l c a j)
                    have HSJ := Lib.hid hsj
                    have hlt2 : ((a : Int) + (j : Int)) < (a : Int) + (m : Int) := by omega
                    obtain ⟨t, ht⟩ : ∃ t, a + j = t := ⟨_, rfl⟩
                    have hti : (a : Int) + (j : Int) = (t : Int) := by omega
                    have htk : t < k := by omega
                    have hta : (t : Int) < (a : Int) + (m : Int) := by omega
                    rw [ht] at d1 HJS
                    have HT2 : Hid ((t : Int) + 1 = (a : Int) + ((j + 1 : Nat) : Int)) := Lib.hid (by omega)
                    have HTT := Lib.hid hti
                    rw [hti]
                    clear hsj hti hlt2 ht
                    cases q2
                    · generalize pk l t = z at d1 HJS
                      by_cases hz : z = (c : Int)
                      · subst hz
                        have HJ1 : Hid (hasC l c a (j + 1) = true) := Lib.hid (by rw [HJS.out, HJ.out]; simp)
                        go_wp2
                        go_roundw
                        case rel => exact ⟨j + 1, true, by omega, by rw [HT2.out], rfl, HJ1, HSJ.out, hbj⟩
                        case measure => simp [intOf]; omega
                      · have hze : (z == (c : Int)) = false := by simpa using hz
                        have HJ1 : Hid (hasC l c a (j + 1) = false) := Lib.hid (by rw [HJS.out, HJ.out]; simpa using hz)
                        clear hz
                        go_wp2
                        go_roundw
                        case rel => exact ⟨j + 1, false, by omega, by rw [HT2.out], rfl, HJ1, HSJ.out, hbj⟩
                        case measure => simp [intOf]; omega
                    · have HJ1 : Hid (hasC l c a (j + 1) = true) := Lib.hid (by rw [HJS.out, HJ.out]; simp)
                      clear d1
                      go_wp2
                      go_roundw
                      case rel => exact ⟨j + 1, true, by omega, by rw [HT2.out], rfl, HJ1, HSJ.out, hbj⟩
                      case measure => simp [intOf]; omega
                  · obtain rfl : j = m := by omega
                    have HC1 : Hid ((allW l n j a && allC l j a (c + 1)) = (q1 && q2)) := Lib.hid (by rw [HCS.out, ← Bool.and_assoc, HC.out, HJ.out])
                    have HSJ := Lib.hid hsj
                    clear hsj
                    cases q1
                    · go_wp2
                      go_roundw
                      case rel => exact ⟨c + 1, false, by omega, by go_num, rfl, HC1, HSJ.out, hbj⟩
                      case measure => simp [intOf]; omega
                    · go_wp2
                      go_roundw
                      case rel => exact ⟨c + 1, q2, by omega, by go_num, rfl, Lib.hid (by have := HC1.out; simpa using this), HSJ.out, hbj⟩
                      case measure => simp [intOf]; omega
              · obtain rfl : c = n := by omega
                have HSC := Lib.hid hsc
                clear hsc
                go_wp2
                go_roundw
                case rel => exact ⟨a + 1, q1, by omega, by go_num, rfl, Lib.hid (by rw [HAS.out, HC.out]), HSC.out, hbc⟩
                case measure => simp [intOf]; omega
          · have haw' : ¬ ((a : Int) + (m : Int)) ≤ (k : Int) := by omega
            have hae : a = k + 1 - m := by omega
            have HF : Hid (fairF l n m = q) := Lib.hid (by rw [HFA.out, ← hae, HA.out])
            have hqq : (q == q) = true := by cases q <;> rfl
            have hcall := vFair _ l n m q HF.out _ hsa
            clear hsa hae
            go_wp2_with fail
            refine hcall.mono ?_
            rintro e w7 ⟨rfl, hb7⟩
            go_wp2_with fail
            refine (works _).mono ?_
            rintro e w8 ⟨rfl, hb8⟩
            go_wp2
            go_ret
            exact ⟨rfl, below_then (below_then hba hb7) hb8⟩
end Go.Proofs.Ytkbehjkfeoffmaa
