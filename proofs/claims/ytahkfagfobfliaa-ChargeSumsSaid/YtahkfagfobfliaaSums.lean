/-
  The law ChargeSums, walked.
-/
import Derived.Test.YtahkfagfobfliaaArr
set_option linter.unusedVariables false
set_option linter.unusedSimpArgs false
namespace Go.Proofs.Ytahkfagfobfliaa
open Go Go.RowKit

/-- what is charged to x of what the first m groups own -/
def sumTo (own : Nat → Int) (x : Nat) : Nat → Int
  | 0 => 0
  | m + 1 => sumTo own x m + (if (x : Int) ∈ pth (m + 1) then own (m + 1) else 0)
def updI (f : Nat → Int) (g : Nat) (v : Int) (i : Nat) : Int := if i = g then v else f i
theorem sumTo_upd (own : Nat → Int) (x g : Nat) (v : Int) (m : Nat) : sumTo (updI own g v) x m = sumTo own x m + (if 1 ≤ g ∧ g ≤ m ∧ (x : Int) ∈ pth g then v - own g else 0) := by
  induction m with
  | zero => rw [if_neg (by omega)]; rfl
  | succ m ih =>
    rw [sumTo, sumTo, ih]
    by_cases e : m + 1 = g
    · subst e
      rw [if_neg (show ¬ (1 ≤ m + 1 ∧ m + 1 ≤ m ∧ (x : Int) ∈ pth (m + 1)) by omega)]
      by_cases hx : (x : Int) ∈ pth (m + 1)
      · rw [if_pos hx, if_pos hx, if_pos ⟨by omega, by omega, hx⟩]
        simp only [updI, if_pos]
        try omega
      · rw [if_neg hx, if_neg hx, if_neg (by simp [hx])]
    · have h1 : updI own g v (m + 1) = own (m + 1) := by simp [updI, e]
      rw [h1]
      have hiff : (1 ≤ g ∧ g ≤ m + 1 ∧ (x : Int) ∈ pth g) ↔ (1 ≤ g ∧ g ≤ m ∧ (x : Int) ∈ pth g) := ⟨fun h => ⟨h.1, by omega, h.2.2⟩, fun h => ⟨h.1, by omega, h.2.2⟩⟩
      simp only [hiff]
      exact Int.add_right_comm _ _ _
theorem sumTo_nonneg {own : Nat → Int} (h : ∀ i, 0 ≤ own i) (x m : Nat) : 0 ≤ sumTo own x m := by
  induction m with
  | zero => simp [sumTo]
  | succ m ih =>
    have := h (m + 1)
    rw [sumTo]
    split <;> omega
theorem sumTo_mono {own : Nat → Int} (h : ∀ i, 0 ≤ own i) (x : Nat) {m k : Nat} (hm : m ≤ k) : sumTo own x m ≤ sumTo own x k := by
  induction k with
  | zero => obtain rfl : m = 0 := by omega
            exact Int.le_refl _
  | succ k ih =>
    by_cases e : m = k + 1
    · subst e; exact Int.le_refl _
    · have h1 := ih (by omega)
      have h2 := h (k + 1)
      rw [sumTo]
      split <;> omega
theorem sumTo_ge {own : Nat → Int} (h : ∀ i, 0 ≤ own i) {x g m : Nat} (h1 : 1 ≤ g) (h2 : g ≤ m) (hx : (x : Int) ∈ pth g) : own g ≤ sumTo own x m := by
  obtain ⟨j, rfl⟩ : ∃ j, g = j + 1 := ⟨g - 1, by omega⟩
  have h3 := sumTo_mono h x h2
  have h4 := sumTo_nonneg h x j
  rw [sumTo, if_pos hx] at h3
  omega
structure SumI (t : Ct) (own : Nat → Int) : Prop where
  p : ∀ i, 0 ≤ own i
  s : ∀ x, 1 ≤ x → x ≤ 16 → t.us x = sumTo own x 16
theorem SumI.new : SumI noC (fun _ => 0) := ⟨fun _ => by omega, fun x _ _ => by
  have : ∀ m, sumTo (fun _ => 0) x m = 0 := by
    intro m
    induction m with
    | zero => rfl
    | succ m ih => rw [sumTo, ih]; split <;> rfl
  rw [this]
  rfl⟩
theorem SumI.all {t : Ct} {own : Nat → Int} (h : SumI t own) {z : Nat} (h1 : 1 ≤ z) (h2 : z < 17) (n : Int) (hv : 0 ≤ own z + n) : SumI (t.all (pth z) n) (updI own z (own z + n)) := by
  refine ⟨fun i => ?_, fun x hx1 hx2 => ?_⟩
  · unfold updI
    split
    · exact hv
    · exact h.p i
  · rw [all_us, sumTo_upd, h.s x hx1 hx2]
    by_cases hx : (x : Int) ∈ pth z
    · rw [if_pos hx, if_pos ⟨h1, by omega, hx⟩]; omega
    · rw [if_neg hx, if_neg (by simp [hx])]; omega
theorem pth_self : ∀ z, z < 17 → 1 ≤ z → (z : Int) ∈ pth z := by decide
theorem SumI.own_le {t : Ct} {own : Nat → Int} (h : SumI t own) (hc : CI t) {z : Nat} (h1 : 1 ≤ z) (h2 : z < 17) : 0 ≤ own z ∧ own z ≤ 9007199254740991 := by
  have h3 := sumTo_ge h.p h1 (show z ≤ 16 by omega) (pth_self z h2 h1)
  have h4 := (hc.u z h1 (by omega)).2
  rw [h.s z h1 (by omega)] at h4
  exact ⟨h.p z, by omega⟩
/-- what a group owns can be taken back -/
theorem SumI.back {t : Ct} {own : Nat → Int} (h : SumI t own) {z : Nat} (h1 : 1 ≤ z) (h2 : z < 17) {n : Int} (hn : n ≤ own z) : ∀ i, i < (pth z).length → n ≤ t.us (pk (pth z) i).toNat := by
  intro i hi
  obtain ⟨k, hk, k1, k2, _⟩ := (pth_is h1 h2).next hi
  have hm : (k : Int) ∈ pth z := by rw [← hk, ← pk_at _ _ hi]; exact List.getElem_mem hi
  have := sumTo_ge h.p h1 (show z ≤ 16 by omega) hm
  rw [hk, Int.toNat_natCast, h.s k k1 k2]
  omega
def ownF (own : Nat → Int) (x : Nat) : Value := .int .i64 (own x)
theorem ownF_upd (own : Nat → Int) (z : Nat) (v : Int) (j : Nat) : (if j = z then Value.int .i64 v else ownF own j) = ownF (updI own z v) j := by
  unfold ownF updI
  by_cases e : j = z
  · rw [if_pos e, if_pos e]
  · rw [if_neg e, if_neg e]
theorem mem_take_next (l : List Int) {i : Nat} (hi : i < l.length) (x : Int) : x ∈ l.take (i + 1) ↔ x ∈ l.take i ∨ pk l i = x := by
  rw [List.take_succ_eq_append_getElem hi, pk_at l i hi, List.mem_append, List.mem_singleton]
  constructor
  · rintro (h | h)
    · exact .inl h
    · exact .inr h.symm
  · rintro (h | h)
    · exact .inl h
    · exact .inr h.symm
theorem isN_small {n : Nat} (h : n < 10000) : isN (n : Int) := by unfold isN; omega
set_option maxHeartbeats 16000000 in
set_option maxRecDepth 100000 in
theorem walkSums (u : Value) (l : List Dq) (W : World) (hs : ShowD W u l) : Calls Try.prog 6 #[u] W fun e W' => e = .returned (.bool true) ∧ Below W.heap.size W W' := by
  obtain ⟨ao, cap, rfl, hcap, hat⟩ := hs
  obtain ⟨ZN, hzeroN, hZN⟩ := makeN
  have HZN := Lib.hid hZN
  clear hZN
  go_enter Try.func6, Try.ntmps6
  go_wp2_with fail
  refine (oNew _).mono ?_
  rintro e w1 ⟨B, g, rfl, h1⟩
  have HU0 : Hid (UK W (w1.alloc (.cells ZN 34)) B g noC w1.heap.size (ownF fun _ => 0)) := Lib.hid ⟨h1.alloc _, HZN.out w1, h1.low.size⟩
  clear h1
  go_wp2
  obtain ⟨U, hU⟩ : ∃ U, w1.heap.size = U := ⟨_, rfl⟩
  obtain ⟨w2, hw2⟩ : ∃ w2, w1.alloc (.cells ZN 34) = w2 := ⟨_, rfl⟩
  rw [hw2, hU] at HU0
  simp only [hw2, hU]
  clear hw2 hU
  go_loopw [5] (fun i wr => ∃ k : Nat, k ≤ l.length ∧ k ≤ 100 ∧ i = .int .i64 k ∧ Hid (∃ t own, UK W wr B g t U (ownF own) ∧ SumI t own)) (fun i _ => l.length - (intOf i).toNat)
  case atStart => exact ⟨0, by omega, by omega, rfl, Lib.hid ⟨_, _, HU0.out, SumI.new⟩⟩
  case round =>
    clear HU0
    obtain ⟨k, hk, hk100, rfl, HS⟩ := hrel
    obtain ⟨t, own, ht, hsum⟩ := HS.out
    have HT := Lib.hid ht
    have HI := Lib.hid hsum
    clear ht hsum HS
    by_cases hgo : k < l.length ∧ k < 100
    · obtain ⟨hlt, hlt2⟩ := hgo
      obtain ⟨b1, o1, p, rfl, hcall⟩ := hat k hlt
      have d0 := cell_keep HT.out.o.low hcall.k
      have d1 := cell_keep HT.out.o.low hcall.a
      have d2 := cell_keep HT.out.o.low hcall.n
      clear hcall
      generalize (dq l k).kind = kd at d0
      generalize (dq l k).a = x at d1
      generalize (dq l k).n = n at d2
      obtain ⟨q, hq⟩ : ∃ q, bring kd 3 = q := ⟨_, rfl⟩
      have HQ := Lib.hid hq
      have hq3 : q < 3 := by rw [← hq]; exact bring_lt kd 3 (by decide)
      obtain ⟨y, hy⟩ : ∃ y, bring x 16 = y := ⟨_, rfl⟩
      have HY := Lib.hid hy
      have hy16 : y < 16 := by rw [← hy]; exact bring_lt x 16 (by decide)
      obtain ⟨m, hm⟩ : ∃ m, bring n 500 = m := ⟨_, rfl⟩
      have HM := Lib.hid hm
      have hm5 : m < 500 := by rw [← hm]; exact bring_lt n 500 (by decide)
      clear hq hy hm
      go_wp2_with fail
      refine (cBringN x 16 16 rfl (by decide) _).mono ?_
      rintro e wy ⟨rfl, rfl⟩
      rw [HY.out]
      go_wp2_with fail
      refine (cBringN n 500 500 rfl (by decide) _).mono ?_
      rintro e wy2 ⟨rfl, rfl⟩
      rw [HM.out]
      go_wp2_with fail
      refine (cBringN kd 3 3 rfl (by decide) _).mono ?_
      rintro e wy3 ⟨rfl, rfl⟩
      rw [HQ.out]
      clear HQ HM
      obtain ⟨z, hz⟩ : ∃ z, y + 1 = z := ⟨_, rfl⟩
      have hz1 : 1 ≤ z ∧ z < 17 := by omega
      have hw1 : (1 + (y : Int)) = (z : Int) := by omega
      have hw2 : (z : Int) - 1 = (y : Int) := by omega
      have HP : Hid (bring (y : Int) 16 + 1 = z) := Lib.hid (by rw [bring_small hy16]; exact hz)
      have HPI := Lib.hid (pth_is hz1.1 hz1.2)
      have HPA := Lib.hid (pth_ask (n := (m : Int)) hz1.1 hz1.2 (isN_small (by omega)))
      have HN := Lib.hid (isN_small (n := m) (by omega))
      clear hz
      rcases (by omega : q = 0 ∨ q = 1 ∨ q = 2) with rfl | rfl | rfl
      · obtain ⟨m2, hm2⟩ : ∃ m, bring n 5000 = m := ⟨_, rfl⟩
        have HM2 := Lib.hid hm2
        have hm25 : m2 < 5000 := by rw [← hm2]; exact bring_lt n 5000 (by decide)
        have HR : Hid (LmIs t (z : Int) (m2 : Int) 0 (t.lim z m2)) := Lib.hid (.ok z rfl hz1.1 (by omega) (isN_small (by omega)))
        clear hm2
        go_wp2_with fail
        refine (cBringN n 5000 5000 rfl (by decide) _).mono ?_
        rintro e wy4 ⟨rfl, rfl⟩
        rw [HM2.out]
        go_wp2_with fail
        refine (oLimit HT.out.o HR.out).mono ?_
        rintro e w5 ⟨rfl, h5, k5⟩
        have H5 := Lib.hid (HT.out.kt h5 k5)
        clear h5 k5 d0 d1 d2
        go_wp2
        go_roundw
        case rel => exact ⟨k + 1, by omega, by omega, by go_num, Lib.hid ⟨_, _, H5.out, HI.out.p, fun x h1 h2 => HI.out.s x h1 h2⟩⟩
        case measure => simp [intOf]; omega
      · go_wp2_with fail
        refine (cPth (y : Int) z HP.out _).mono ?_
        rintro e w5 ⟨v, rfl, ho, hb5⟩
        have HT5 := Lib.hid (HT.out.below hb5)
        have HCT := Lib.hid HT.out.o.ci
        have HST := Lib.hid (HT5.out.o.own ho)
        clear ho hb5 d0 d1 d2
        obtain ⟨ra, er, t', hr⟩ := TryIs.ex t (pth z) (m : Int) 0 (fun _ => ⟨HPI.out, HN.out⟩)
        have HR := Lib.hid hr
        have HR2 : Hid ((er = 120 ∧ t' = t) ∨ (er = 0 ∧ t' = t.all (pth z) m)) := Lib.hid (by
          cases hr with
          | bad h => exact absurd rfl h
          | full _ _ _ _ _ _ _ => exact .inl ⟨rfl, rfl⟩
          | ok _ _ _ _ => exact .inr ⟨rfl, rfl⟩)
        clear hr
        go_wp2_with fail
        refine (oTry HT5.out.o HPA.out HR.out HST.out).mono ?_
        rintro e w6 ⟨rfl, h6, k6⟩
        have H6 := Lib.hid (HT5.out.kt h6 k6)
        clear h6 k6 HST HT5 HT HR
        rcases HR2.out with ⟨rfl, rfl⟩ | ⟨rfl, rfl⟩
        · clear HR2
          go_wp2
          go_roundw
          case rel => exact ⟨k + 1, by omega, by omega, by go_num, Lib.hid ⟨_, _, H6.out, HI.out⟩⟩
          case measure => simp [intOf]; omega
        · clear HR2
          have cu := H6.out.cu hz1.2
          have fu := H6.out.u.frozen z
          have hb := HI.out.own_le HCT.out hz1.1 hz1.2
          have hwr : IntKind.i64.wrap (own z + (m : Int)) = own z + (m : Int) := IntWalk.i64_in _ (by omega)
          have H7 : Hid (UK W (World.setCell _ ⟨U, z, none⟩ (.int .i64 (own z + (m : Int)))) B g (t.all (pth z) m) U (ownF (updI own z (own z + m)))) := Lib.hid (H6.out.setU z _ (ownF_upd own z _))
          have HI7 := Lib.hid (HI.out.all hz1.1 hz1.2 (m : Int) (by omega))
          unfold ownF at cu
          generalize own z = O at cu hwr H7 HI7 hb
          clear hb
          go_wp2
          go_roundw
          case rel => exact ⟨k + 1, by omega, by omega, by go_num, Lib.hid ⟨_, _, H7.out, HI7.out⟩⟩
          case measure => simp [intOf]; omega
      · have cu := HT.out.cu hz1.2
        unfold ownF at cu
        have HCT := Lib.hid HT.out.o.ci
        by_cases hge : (m : Int) ≤ own z
        · have HR : Hid (BkIs 0 t (pth z) (m : Int) 0 (t.all (pth z) (-(m : Int)))) := Lib.hid (.ok rfl HPI.out HN.out (HI.out.back hz1.1 hz1.2 hge))
          have hb := HI.out.own_le HCT.out hz1.1 hz1.2
          have hwr : IntKind.i64.wrap (own z - (m : Int)) = own z - (m : Int) := IntWalk.i64_in _ (by omega)
          have HI7 : Hid (SumI (t.all (pth z) (-(m : Int))) (updI own z (own z - (m : Int)))) := Lib.hid (by
            have h9 := HI.out.all hz1.1 hz1.2 (-(m : Int)) (by omega)
            rwa [← Int.sub_eq_add_neg] at h9)
          have HSET : Hid (∀ w9, UK W w9 B g (t.all (pth z) (-(m : Int))) U (ownF own) → UK W (w9.setCell ⟨U, z, none⟩ (.int .i64 (own z - (m : Int)))) B g (t.all (pth z) (-(m : Int))) U (ownF (updI own z (own z - (m : Int))))) := Lib.hid (fun w9 h9 => h9.setU z _ (ownF_upd own z _))
          obtain ⟨O, hO⟩ : ∃ O, own z = O := ⟨_, rfl⟩
          have HO := Lib.hid hO
          rw [hO] at cu hge hwr HI7 HSET
          clear hb hO
          go_wp2_with fail
          refine (cPth (y : Int) z HP.out _).mono ?_
          rintro e w5 ⟨v, rfl, ho, hb5⟩
          have HT5 := Lib.hid (HT.out.below hb5)
          have HST := Lib.hid (HT5.out.o.own ho)
          clear ho hb5 d0 d1 d2 cu
          go_wp2_with fail
          refine (oBack HT5.out.o HPA.out HR.out HST.out).mono ?_
          rintro e w6 ⟨rfl, h6, k6⟩
          have H6 := Lib.hid (HT5.out.kt h6 k6)
          have cu := H6.out.cu hz1.2
          unfold ownF at cu
          rw [HO.out] at cu
          have fu := H6.out.u.frozen z
          have H7 := Lib.hid (HSET.out _ H6.out)
          clear h6 k6 HST HT5 HT HR HSET HO
          go_wp2
          go_roundw
          case rel => exact ⟨k + 1, by omega, by omega, by go_num, Lib.hid ⟨_, _, H7.out, HI7.out⟩⟩
          case measure => simp [intOf]; omega
        · generalize own z = O at cu hge
          clear d0 d1 d2
          go_wp2
          go_roundw
          case rel => exact ⟨k + 1, by omega, by omega, by go_num, Lib.hid ⟨_, _, HT.out, HI.out⟩⟩
          case measure => simp [intOf]; omega
    · by_cases hlt : k < l.length
      · obtain rfl : k = 100 := by omega
        rw [show ((100 : Nat) : Int) = 100 from rfl]
        have HT0 := Lib.hid HT.out
        clear HT
        go_wp2
        go_loopw [10] (fun i wr => ∃ j : Nat, 1 ≤ j ∧ j ≤ 17 ∧ i = .int .i64 j ∧ Hid (UK W wr B g t U (ownF own))) (fun i _ => 17 - (intOf i).toNat)
        case atStart => exact ⟨1, by omega, by omega, rfl, HT0⟩
        case round =>
          clear HT0
          obtain ⟨j, hj1, hj2, rfl, HU⟩ := hrel
          by_cases hj : j < 17
          · go_wp2
            try simp only [show decide ((j : Int) < 17) = true from decide_eq_true (by omega)]
            go_loopw [11, 12] (fun s i wr => ∃ h : Nat, h ≤ 16 ∧ i = .int .i64 ((h : Int) + 1) ∧ s = .int .i64 (sumTo own j h) ∧ Hid (UK W wr B g t U (ownF own))) (fun _ i _ => 17 - (intOf i).toNat)
            case atStart => exact ⟨0, by omega, by first | rfl | go_num, rfl, HU⟩
            case round =>
              clear HU
              obtain ⟨h, hh, rfl, rfl, HU⟩ := hrel
              by_cases hh16 : h < 16
              · have hlt17 : (h : Int) + 1 < 17 := by omega
                have hw2 : (h : Int) + 1 - 1 = (h : Int) := by omega
                have HP : Hid (bring (h : Int) 16 + 1 = h + 1) := Lib.hid (by rw [bring_small hh16])
                have HPI := Lib.hid (pth_is (z := h + 1) (by omega) (by omega))
                have HSN : Hid (sumTo own j h + (if (j : Int) ∈ pth (h + 1) then own (h + 1) else 0) = sumTo own j (h + 1)) := Lib.hid rfl
                have HB : Hid (0 ≤ sumTo own j h ∧ 0 ≤ own (h + 1) ∧ own (h + 1) ≤ 9007199254740991 ∧ sumTo own j h ≤ 9007199254740991) := Lib.hid (by
                  have a1 := sumTo_nonneg HI.out.p j h
                  have a2 := HI.out.own_le HU.out.o.ci (z := h + 1) (by omega) (by omega)
                  have a3 := sumTo_mono HI.out.p j (show h ≤ 16 by omega)
                  have a4 := (HU.out.o.ci.u j hj1 (by omega)).2
                  rw [HI.out.s j hj1 (by omega)] at a4
                  exact ⟨a1, a2.1, a2.2, by omega⟩)
                go_wp2_with fail
                refine (cPth (h : Int) (h + 1) HP.out _).mono ?_
                rintro e wp ⟨v, rfl, ho, hbp⟩
                have HU2 := Lib.hid (HU.out.below hbp)
                have HSH := Lib.hid ho.shows
                clear ho hbp HU HP
                obtain ⟨pb, po, pc, rfl, hpc⟩ := show_some HSH.out HPI.out.n1
                have hpl := HPI.out.n2
                obtain ⟨S, hS⟩ : ∃ S, sumTo own j h = S := ⟨_, rfl⟩
                rw [hS] at HSN HB ⊢
                clear hS
                obtain ⟨pl, hpl2⟩ : ∃ pl, pth (h + 1) = pl := ⟨_, rfl⟩
                rw [hpl2] at HPI HSN HSH hpl hpc ⊢
                clear hpl2
                go_wp2
                try simp only [show decide ((h : Int) + 1 < 17) = true from decide_eq_true (by omega)]
                go_loopw [11, 14] (fun s i wr => ∃ m : Nat, m ≤ pl.length ∧ i = .int .i64 m ∧ s = .int .i64 (S + (if (j : Int) ∈ pl.take m then own (h + 1) else 0)) ∧ wr = wp) (fun _ i _ => pl.length - (intOf i).toNat)
                case atStart => exact ⟨0, by omega, rfl, by simp, rfl⟩
                case round =>
                  obtain ⟨m, hm, rfl, rfl, rfl⟩ := hrel
                  by_cases hml : m < pl.length
                  · have cp := show_cell HSH.out hml
                    have HTN := Lib.hid (mem_take_next pl hml (j : Int))
                    have HDD := Lib.hid (HPI.out.d m hml)
                    by_cases heq : pk pl m = (j : Int)
                    · have hnot : ¬ (j : Int) ∈ pl.take m := by rw [← heq]; exact HDD.out
                      have hyes : (j : Int) ∈ pl.take (m + 1) := HTN.out.2 (.inr heq)
                      have HY : Hid ((if (j : Int) ∈ pl.take (m + 1) then own (h + 1) else 0) = own (h + 1)) := Lib.hid (if_pos hyes)
                      have hq : (pk pl m == (j : Int)) = true := by simp [heq]
                      have cu := HU2.out.cu (show h + 1 < 17 by omega)
                      have hwr : IntKind.i64.wrap (S + own (h + 1)) = S + own (h + 1) := IntWalk.i64_in _ (by have := HB.out; omega)
                      rw [if_neg hnot, Int.add_zero]
                      unfold ownF at cu
                      generalize own (h + 1) = O at *
                      generalize pk pl m = y at *
                      clear hnot hyes HTN HDD heq
                      go_wp2
                      go_roundw
                      case rel => exact ⟨m + 1, by omega, by go_num, by rw [HY.out], by first | rfl | trivial⟩
                      case measure => simp [intOf]; omega
                    · have HY : Hid ((if (j : Int) ∈ pl.take (m + 1) then own (h + 1) else 0) = if (j : Int) ∈ pl.take m then own (h + 1) else 0) := Lib.hid (by
                        by_cases h0 : (j : Int) ∈ pl.take m
                        · rw [if_pos h0, if_pos (HTN.out.2 (.inl h0))]
                        · rw [if_neg h0, if_neg (fun h9 => (HTN.out.1 h9).elim h0 heq)])
                      have hq : (pk pl m == (j : Int)) = false := by simp [heq]
                      generalize (if (j : Int) ∈ pl.take m then own (h + 1) else 0) = A at *
                      generalize pk pl m = y at *
                      clear HTN HDD heq
                      go_wp2
                      go_roundw
                      case rel => exact ⟨m + 1, by omega, by go_num, by rw [HY.out], by first | rfl | trivial⟩
                      case measure => simp [intOf]; omega
                  · obtain rfl : m = pl.length := by omega
                    rw [List.take_length, HSN.out]
                    go_wp2
                    go_roundw
                    case rel => exact ⟨h + 1, by omega, by go_num, rfl, HU2⟩
                    case measure => simp [intOf]; omega
              · obtain rfl : h = 16 := by omega
                have HV : Hid (usedF t (j : Int) = sumTo own j 16) := Lib.hid (by rw [usedF_at hj1 (by omega)]; exact HI.out.s j hj1 (by omega))
                generalize sumTo own j 16 = S at *
                have hne : (S != S) = false := by simp
                rw [show ((16 : Nat) : Int) + 1 = 17 from rfl]
                go_wp2_with fail
                refine (cUsed HU.out.o.cv _ _ HV.out).mono ?_
                rintro e wq ⟨rfl, rfl⟩
                go_wp2
                go_roundw
                case rel => exact ⟨j + 1, by omega, by omega, by go_num, HU⟩
                case measure => simp [intOf]; omega
          · obtain rfl : j = 17 := by omega
            rw [show ((17 : Nat) : Int) = 17 from rfl]
            go_wp2_with fail
            refine (works _).mono ?_
            rintro e w4 ⟨rfl, hb⟩
            have HB4 := Lib.hid (below_then HU.out.o.low hb)
            clear hb
            go_wp2
            go_ret
            exact ⟨rfl, HB4.out⟩
      · obtain rfl : k = l.length := by omega
        have HT0 := Lib.hid HT.out
        clear HT
        go_wp2
        go_loopw [10] (fun i wr => ∃ j : Nat, 1 ≤ j ∧ j ≤ 17 ∧ i = .int .i64 j ∧ Hid (UK W wr B g t U (ownF own))) (fun i _ => 17 - (intOf i).toNat)
        case atStart => exact ⟨1, by omega, by omega, rfl, HT0⟩
        case round =>
          clear HT0
          obtain ⟨j, hj1, hj2, rfl, HU⟩ := hrel
          by_cases hj : j < 17
          · go_wp2
            try simp only [show decide ((j : Int) < 17) = true from decide_eq_true (by omega)]
            go_loopw [11, 12] (fun s i wr => ∃ h : Nat, h ≤ 16 ∧ i = .int .i64 ((h : Int) + 1) ∧ s = .int .i64 (sumTo own j h) ∧ Hid (UK W wr B g t U (ownF own))) (fun _ i _ => 17 - (intOf i).toNat)
            case atStart => exact ⟨0, by omega, by first | rfl | go_num, rfl, HU⟩
            case round =>
              clear HU
              obtain ⟨h, hh, rfl, rfl, HU⟩ := hrel
              by_cases hh16 : h < 16
              · have hlt17 : (h : Int) + 1 < 17 := by omega
                have hw2 : (h : Int) + 1 - 1 = (h : Int) := by omega
                have HP : Hid (bring (h : Int) 16 + 1 = h + 1) := Lib.hid (by rw [bring_small hh16])
                have HPI := Lib.hid (pth_is (z := h + 1) (by omega) (by omega))
                have HSN : Hid (sumTo own j h + (if (j : Int) ∈ pth (h + 1) then own (h + 1) else 0) = sumTo own j (h + 1)) := Lib.hid rfl
                have HB : Hid (0 ≤ sumTo own j h ∧ 0 ≤ own (h + 1) ∧ own (h + 1) ≤ 9007199254740991 ∧ sumTo own j h ≤ 9007199254740991) := Lib.hid (by
                  have a1 := sumTo_nonneg HI.out.p j h
                  have a2 := HI.out.own_le HU.out.o.ci (z := h + 1) (by omega) (by omega)
                  have a3 := sumTo_mono HI.out.p j (show h ≤ 16 by omega)
                  have a4 := (HU.out.o.ci.u j hj1 (by omega)).2
                  rw [HI.out.s j hj1 (by omega)] at a4
                  exact ⟨a1, a2.1, a2.2, by omega⟩)
                go_wp2_with fail
                refine (cPth (h : Int) (h + 1) HP.out _).mono ?_
                rintro e wp ⟨v, rfl, ho, hbp⟩
                have HU2 := Lib.hid (HU.out.below hbp)
                have HSH := Lib.hid ho.shows
                clear ho hbp HU HP
                obtain ⟨pb, po, pc, rfl, hpc⟩ := show_some HSH.out HPI.out.n1
                have hpl := HPI.out.n2
                obtain ⟨S, hS⟩ : ∃ S, sumTo own j h = S := ⟨_, rfl⟩
                rw [hS] at HSN HB ⊢
                clear hS
                obtain ⟨pl, hpl2⟩ : ∃ pl, pth (h + 1) = pl := ⟨_, rfl⟩
                rw [hpl2] at HPI HSN HSH hpl hpc ⊢
                clear hpl2
                go_wp2
                try simp only [show decide ((h : Int) + 1 < 17) = true from decide_eq_true (by omega)]
                go_loopw [11, 14] (fun s i wr => ∃ m : Nat, m ≤ pl.length ∧ i = .int .i64 m ∧ s = .int .i64 (S + (if (j : Int) ∈ pl.take m then own (h + 1) else 0)) ∧ wr = wp) (fun _ i _ => pl.length - (intOf i).toNat)
                case atStart => exact ⟨0, by omega, rfl, by simp, rfl⟩
                case round =>
                  obtain ⟨m, hm, rfl, rfl, rfl⟩ := hrel
                  by_cases hml : m < pl.length
                  · have cp := show_cell HSH.out hml
                    have HTN := Lib.hid (mem_take_next pl hml (j : Int))
                    have HDD := Lib.hid (HPI.out.d m hml)
                    by_cases heq : pk pl m = (j : Int)
                    · have hnot : ¬ (j : Int) ∈ pl.take m := by rw [← heq]; exact HDD.out
                      have hyes : (j : Int) ∈ pl.take (m + 1) := HTN.out.2 (.inr heq)
                      have HY : Hid ((if (j : Int) ∈ pl.take (m + 1) then own (h + 1) else 0) = own (h + 1)) := Lib.hid (if_pos hyes)
                      have hq : (pk pl m == (j : Int)) = true := by simp [heq]
                      have cu := HU2.out.cu (show h + 1 < 17 by omega)
                      have hwr : IntKind.i64.wrap (S + own (h + 1)) = S + own (h + 1) := IntWalk.i64_in _ (by have := HB.out; omega)
                      rw [if_neg hnot, Int.add_zero]
                      unfold ownF at cu
                      generalize own (h + 1) = O at *
                      generalize pk pl m = y at *
                      clear hnot hyes HTN HDD heq
                      go_wp2
                      go_roundw
                      case rel => exact ⟨m + 1, by omega, by go_num, by rw [HY.out], by first | rfl | trivial⟩
                      case measure => simp [intOf]; omega
                    · have HY : Hid ((if (j : Int) ∈ pl.take (m + 1) then own (h + 1) else 0) = if (j : Int) ∈ pl.take m then own (h + 1) else 0) := Lib.hid (by
                        by_cases h0 : (j : Int) ∈ pl.take m
                        · rw [if_pos h0, if_pos (HTN.out.2 (.inl h0))]
                        · rw [if_neg h0, if_neg (fun h9 => (HTN.out.1 h9).elim h0 heq)])
                      have hq : (pk pl m == (j : Int)) = false := by simp [heq]
                      generalize (if (j : Int) ∈ pl.take m then own (h + 1) else 0) = A at *
                      generalize pk pl m = y at *
                      clear HTN HDD heq
                      go_wp2
                      go_roundw
                      case rel => exact ⟨m + 1, by omega, by go_num, by rw [HY.out], by first | rfl | trivial⟩
                      case measure => simp [intOf]; omega
                  · obtain rfl : m = pl.length := by omega
                    rw [List.take_length, HSN.out]
                    go_wp2
                    go_roundw
                    case rel => exact ⟨h + 1, by omega, by go_num, rfl, HU2⟩
                    case measure => simp [intOf]; omega
              · obtain rfl : h = 16 := by omega
                have HV : Hid (usedF t (j : Int) = sumTo own j 16) := Lib.hid (by rw [usedF_at hj1 (by omega)]; exact HI.out.s j hj1 (by omega))
                generalize sumTo own j 16 = S at *
                have hne : (S != S) = false := by simp
                rw [show ((16 : Nat) : Int) + 1 = 17 from rfl]
                go_wp2_with fail
                refine (cUsed HU.out.o.cv _ _ HV.out).mono ?_
                rintro e wq ⟨rfl, rfl⟩
                go_wp2
                go_roundw
                case rel => exact ⟨j + 1, by omega, by omega, by go_num, HU⟩
                case measure => simp [intOf]; omega
          · obtain rfl : j = 17 := by omega
            rw [show ((17 : Nat) : Int) = 17 from rfl]
            go_wp2_with fail
            refine (works _).mono ?_
            rintro e w4 ⟨rfl, hb⟩
            have HB4 := Lib.hid (below_then HU.out.o.low hb)
            clear hb
            go_wp2
            go_ret
            exact ⟨rfl, HB4.out⟩
end Go.Proofs.Ytahkfagfobfliaa
