/-
  The law LayoutApart, walked.
-/
import Derived.Test.YtghmopeaphandaaWorks
import Derived.Test.YtghmopeaphandaaRof
set_option linter.unusedVariables false
set_option linter.unusedSimpArgs false
namespace Go.Proofs.Ytghmopeaphandaa
open Go Go.RowKit

theorem cBringM (x m : Int) (h : 1 ≤ m ∧ m ≤ 10000) (w : World) : Calls Try.prog 15 #[.int .i64 x, .int .i64 m] w fun e w' => e = .returned (.int .i64 (x % m)) ∧ w' = w := by
  obtain ⟨n, rfl⟩ : ∃ n : Nat, m = n := ⟨m.toNat, by omega⟩
  rw [← bring_int x n (by omega)]
  exact cBring x n w (by omega) (by omega)
theorem pow_okA (p : Nat) (h : p < 7) : okA (2 ^ p) := by
  rcases (by omega : p = 0 ∨ p = 1 ∨ p = 2 ∨ p = 3 ∨ p = 4 ∨ p = 5 ∨ p = 6) with rfl | rfl | rfl | rfl | rfl | rfl | rfl <;> decide
/-- what is known of a layout that Of returns -/
theorem of_known {n a : Int} {g : Bool} (hn : okS n) (ha : okA a) (h : ofE n a g = 0) : ∃ l, ofL n a g = l ∧ valid l ∧ l.size = n ∧ l.align = a ∧ LI l g := by
  have hv := of_valid h
  refine ⟨_, rfl, ?_, ?_, ?_, hv.li⟩
  · cases g
    · exact .inl hv
    · exact .inr hv
  · obtain ⟨_, _, k, _, h6⟩ := of_ok h
    rw [h6]; rfl
  · obtain ⟨_, _, k, _, h6⟩ := of_ok h
    rw [h6]; rfl
theorem of_err {n a : Int} {g : Bool} (hn : okS n) (ha : okA a) (h : ofE n a g ≠ 0) : ofE n a g = 150 ∧ g = true := by
  unfold ofE at h ⊢
  rw [if_pos ⟨hn, ha⟩] at h ⊢
  cases hk : slabF (stepF n a g) with
  | some k => rw [hk] at h; exact absurd rfl h
  | none =>
    have h1 := step_range (g := g) hn ha
    have h2 := slab_no (by omega) hk
    refine ⟨rfl, ?_⟩
    cases g with
    | true => rfl
    | false => have := h1.2.2.2.2 rfl; omega
/-- the numbers of a layout that Of returns, as letters -/
theorem apart_known {n a : Int} {g : Bool} (hn : okS n) (ha : okA a) (h : ofE n a g = 0) : ∃ (l : Ly) (S F b y p : Int) (O k : Nat), ofL n a g = l ∧ valid l ∧ (8 ≤ S ∧ S ≤ 2240 ∧ 0 ≤ F ∧ F ≤ 64 ∧ (g = true → 8 ≤ F ∧ F + n + 8 ≤ S) ∧ F + n ≤ S) ∧ (1 ≤ O ∧ O ≤ 16 ∧ k < 4 ∧ b = sb k ∧ 256 ≤ b ∧ b ≤ 2048 ∧ (O : Int) * S = p ∧ p ≤ b ∧ 0 ≤ p ∧ b - p = y) ∧
    (l.step = S ∧ l.off = F ∧ l.order = k ∧ l.objs = O ∧ l.waste = y) ∧ S % a = 0 ∧ F % a = 0 := by
  obtain ⟨l, h1, h2, h3, h4, h5⟩ := of_known hn ha h
  have hr := h2.range
  obtain ⟨hs, ha', e1, e2, k, hk, e4, e5, e6, h7⟩ := h5
  have q1 := step_range (g := g) hs ha'
  have q2 := off_range (g := g) ha'
  rw [← e1, h3, h4] at q1
  rw [h4] at e2
  rw [h4, ← e2] at q2
  have q3 := nO_range (k := k) (S := l.step) (by omega) hk
  have q4 := sb_range hk
  obtain ⟨O, hO⟩ : ∃ O : Nat, nO l.step k = O := ⟨(nO l.step k).toNat, by omega⟩
  have hy : wO l.step k = sb k - (O : Int) * l.step := by unfold wO; rw [hO]
  rw [hO] at q3 e5 h7
  rw [← e2] at q1
  refine ⟨l, l.step, l.off, sb k, wO l.step k, (O : Int) * l.step, O, k, h1, h2, ⟨by omega, by omega, by omega, by omega, fun hg => ?_, ?_⟩, ⟨by omega, by omega, hk, rfl, by omega, by omega, rfl, by omega, by omega, hy.symm⟩, ⟨rfl, rfl, e4, e5, e6⟩, q1.2.2.1, q2.2.2.1⟩
  · have := q1.2.2.2.1
    have := q2.2.2.2.1 hg
    subst hg
    unfold behF at *
    simp only [if_true] at *
    omega
  · have := q1.2.2.2.1
    have : 0 ≤ behF g := by cases g <;> decide
    omega
theorem at_known {l : Ly} {S F a p : Int} {O : Nat} (hv : valid l) (e1 : l.step = S) (e2 : l.off = F) (e3 : l.objs = O) (hS : 8 ≤ S) (hp : (O : Int) * S = p) (h1 : S % a = 0) (h2 : F % a = 0) (j : Nat) (hj : j < O) :
    atE l j = 0 ∧ atV l j = (j : Int) * S + F ∧ 0 ≤ (j : Int) * S ∧ (j : Int) * S + S ≤ p ∧ ((j : Int) * S + F) % a = 0 ∧ ((j + 1 : Nat) : Int) * S = (j : Int) * S + S := by
  have hn : ¬ ((j : Int) < 0 ∨ l.objs ≤ (j : Int)) := by rw [e3]; omega
  have h3 : ((j + 1 : Nat) : Int) * S = (j : Int) * S + S := by rw [Int.natCast_add, Int.add_mul]; simp
  refine ⟨by unfold atE; rw [if_pos hv, if_neg hn], by unfold atV; rw [if_pos hv, if_neg hn, e1, e2], Int.mul_nonneg (by omega) (by omega), ?_, ?_, h3⟩
  · rw [← hp, ← h3]
    exact Int.mul_le_mul_of_nonneg_right (by omega) (by omega)
  · rw [Int.add_emod, Int.mul_emod, h1, h2]
    simp
set_option maxHeartbeats 4000000 in
theorem walkApart (x y : Int) (g : Bool) (W : World) : Calls Try.prog 5 #[.int .i64 x, .int .i64 y, .bool g] W fun e W' => e = .returned (.bool true) ∧ Below W.heap.size W W' := by
  have hx0 : 0 ≤ x % 2048 := Int.emod_nonneg _ (by decide)
  have hx1 : x % 2048 < 2048 := Int.emod_lt_of_pos _ (by decide)
  have hy0 : 0 ≤ y % 7 := Int.emod_nonneg _ (by decide)
  have hy1 : y % 7 < 7 := Int.emod_lt_of_pos _ (by decide)
  obtain ⟨n, hn⟩ : ∃ n, 1 + x % 2048 = n := ⟨_, rfl⟩
  obtain ⟨a, ha⟩ : ∃ a, (2 : Int) ^ (y % 7).toNat = a := ⟨_, rfl⟩
  have hsn : okS n := by unfold okS; omega
  have hsa : okA a := by rw [← ha]; exact pow_okA _ (by omega)
  have hra := okA_le hsa
  have hw1 : IntKind.i64.wrap (1 + x % 2048) = n := by rw [hn]; exact IntWalk.i64_in _ (by omega)
  have hw2 : IntKind.i64.wrap (1 * 2 ^ (y % 7).toNat) = a := by rw [Int.one_mul, ha]; exact IntWalk.i64_in _ (by omega)
  have hw3 : IntKind.i64.wrap (2 ^ (y % 7).toNat) = a := by rw [ha]; exact IntWalk.i64_in _ (by omega)
  have HSN := Lib.hid hsn
  have HSA := Lib.hid hsa
  clear hsn hsa
  go_enter Try.func5, Try.ntmps5
  go_wp2
  go_quiet ((go_at_call 15; exact Calls.quiet_of_same (cBringM _ _ (by decide) _)))
  obtain ⟨w0, hw0⟩ : ∃ w0, W.drewN nq = w0 := ⟨_, rfl⟩
  have HW0 : Hid (Below W.heap.size W w0) := Lib.hid (by rw [← hw0]; exact below_drewN (Below.refl _ _) nq)
  rw [hw0]
  obtain ⟨n1, hn1⟩ : ∃ n1, x % 2048 = n1 := ⟨_, rfl⟩
  obtain ⟨a1, ha1⟩ : ∃ a1, y % 7 = a1 := ⟨_, rfl⟩
  rw [hn1, ha1]
  have hn2 : 1 ≤ n ∧ n ≤ 2048 := HSN.out
  clear hw0 hx0 hx1 hy0 hy1 hn ha hw1 hw2 hw3 hn1 ha1
  have hC := cOf n a g
  by_cases hE : ofE n a g = 0
  · obtain ⟨l, S, F, b, y, p, O, k, h1, hv, ⟨s1, s2, s3, s4, s5, s6⟩, ⟨o1, o2, o3, o4, o5, o6, o7, o8, o9, o10⟩, ⟨e1, e2, e3, e4, e5⟩, m1, m2⟩ := apart_known HSN.out HSA.out hE
    rw [hE, h1] at hC
    have HC := Lib.hid hC
    have HCE : Hid (∀ w K, LyAt w K l → w.cell? ⟨K, 2, none⟩ = some (.int .i64 S) ∧ w.cell? ⟨K, 4, none⟩ = some (.int .i64 k) ∧ w.cell? ⟨K, 5, none⟩ = some (.int .i64 O) ∧ w.cell? ⟨K, 6, none⟩ = some (.int .i64 y)) := Lib.hid (fun w K h => by
      obtain ⟨_, _, c2, _, c4, c5, c6⟩ := h.cells
      rw [e1] at c2; rw [e3] at c4; rw [e4] at c5; rw [e5] at c6
      exact ⟨c2, c4, c5, c6⟩)
    have HAT : Hid (∀ j : Nat, j < O → (∀ w', Calls Try.prog 11 #[l.agg, .int .i64 j] w' fun e w2 => e = .returned (.tuple #[.int .i64 ((j : Int) * S + F), .int .i64 0]) ∧ Below w'.heap.size w' w2) ∧ 0 ≤ (j : Int) * S ∧ (j : Int) * S + S ≤ p ∧ ((j : Int) * S + F) % a = 0 ∧ ((j + 1 : Nat) : Int) * S = (j : Int) * S + S) := Lib.hid (fun j hj => by
      obtain ⟨h1, h2, h3, h4, h5, h6⟩ := at_known hv e1 e2 e4 s1 o7 m1 m2 j hj
      refine ⟨fun w' => ?_, h3, h4, h5, h6⟩
      have h := cAt l j w'
      rw [h1, h2] at h
      exact h)
    have hwb : IntKind.i64.wrap (256 * 2 ^ k) = b := by rw [o4]; exact IntWalk.i64_in _ (by have := sb_range o3; unfold sb at this; omega)
    have HB4 : Hid (∀ w', Calls Try.prog 15 #[.int .i64 k, .int .i64 4] w' fun e w2 => e = .returned (.int .i64 k) ∧ w2 = w') := Lib.hid (fun w' => by
      have h := cBringM k 4 (by decide) w'
      rw [show (k : Int) % 4 = k by omega] at h
      exact h)
    clear hC hE h1 hv e1 e2 e3 e4 e5 m1 m2 o4
    have HO7 := Lib.hid o7
    have HSS := Lib.hid (And.intro s5 s6)
    clear s5 s6
    go_wp2_with fail
    refine (HC.out _).mono ?_
    rintro e w1 ⟨rfl, hb1⟩
    have HW1 := Lib.hid (below_then HW0.out hb1)
    have HZ1 : Hid (LyAt (w1.alloc lay0) w1.heap.size zL) := Lib.hid (heap_new _ _)
    clear hb1 HW0 HC
    go_wp2_with (refine wpList_storeL (by rfl) _ _ (by rfl) w1.heap.size l (by rfl) (by rfl) _ HZ1.out rfl ?_; intro w2 h2 hk2; have HA2 := Lib.hid h2; have HW2 := Lib.hid (below_one_kept (below_one HW1.out _) hk2 HW1.out.size); obtain ⟨c2, c4, c5, c6⟩ := HCE.out _ _ h2; clear HZ1 HW1 h2 hk2; refine Stop.mk ?_)
    unfold Stop
    obtain ⟨D, hD⟩ : ∃ D, w1.heap.size = D := ⟨_, rfl⟩
    rw [hD] at HA2 c2 c4 c5 c6
    simp only [hD]
    clear hD
    go_wp2_with fail
    refine (HB4.out _).mono ?_
    rintro e w3 ⟨rfl, rfl⟩
    go_wp2
    rename_i w2
    go_loopw [12, 13] (fun v i wr => ∃ (j : Nat) (L : Int), j ≤ O ∧ i = .int .i64 j ∧ v = .int .i64 L ∧ 0 ≤ L ∧ L ≤ (j : Int) * S ∧ Hid (Below W.heap.size W wr ∧ LyAt wr D l)) (fun _ i _ => O - (intOf i).toNat)
    case atStart => exact ⟨0, 0, by omega, rfl, rfl, by omega, by simp, Lib.hid ⟨HW2.out, HA2.out⟩⟩
    case round =>
      clear HA2 HW2 c2 c4 c5 c6
      obtain ⟨j, L, hj, rfl, rfl, hL0, hL1, HW⟩ := hrel
      obtain ⟨c2, c4, c5, c6⟩ := HCE.out _ _ HW.out.2
      by_cases hlt : j < O
      · obtain ⟨hT, t1, t2, t3, t4⟩ := HAT.out j hlt
        have HT := Lib.hid hT
        have HN1 := Lib.hid t4
        have hlt2 : (j : Int) < (O : Int) := by omega
        clear hT t4
        obtain ⟨t, ht⟩ : ∃ t, (j : Int) * S = t := ⟨_, rfl⟩
        rw [ht] at HT HN1 hL1 t1 t2 t3
        clear ht
        have HZ : Hid (t ≤ t + F ∧ t + F ≤ 2500) := Lib.hid (by omega)
        have hzm : (t + F).tmod a = 0 := by rw [Int.tmod_eq_emod_of_nonneg (by omega)]; exact t3
        obtain ⟨z, hz⟩ : ∃ z, t + F = z := ⟨_, rfl⟩
        have hz2 : t ≤ z ∧ z ≤ 2500 := by omega
        have HS1 : Hid ((g = true → t + 8 ≤ z ∧ z + n + 8 ≤ t + S) ∧ z + n ≤ t + S) := Lib.hid ⟨fun hg => by have := HSS.out.1 hg; omega, by have := HSS.out.2; omega⟩
        rw [hz] at HT hzm
        clear hz HZ t3 HAT
        obtain ⟨z1, z2⟩ := hz2
        cases g with
        | false =>
          have h3 := HS1.out.2
          have HL : Hid (0 ≤ z + n ∧ z + n ≤ t + S) := Lib.hid (by omega)
          go_wp2_with (refine wpList_loadL (by rfl) _ (by rfl) D l (by rfl) HW.out.2 ?_)
          refine (HT.out _).mono ?_
          rintro e w4 ⟨rfl, hb4⟩
          have HV := Lib.hid (And.intro (below_then HW.out.1 hb4) (HW.out.2.below hb4))
          clear hb4 HW c2 c4 c5 c6
          go_wp2
          go_roundw
          case rel => exact ⟨j + 1, z + n, by omega, by go_num, by rfl, HL.out.1, by rw [HN1.out]; exact HL.out.2, HV⟩
          case measure => simp [intOf]; omega
        | true =>
          obtain ⟨h3, h4⟩ := HS1.out.1 rfl
          have HL : Hid (0 ≤ z + n + 8 ∧ z + n + 8 ≤ t + S) := Lib.hid (by omega)
          go_wp2_with (refine wpList_loadL (by rfl) _ (by rfl) D l (by rfl) HW.out.2 ?_)
          refine (HT.out _).mono ?_
          rintro e w4 ⟨rfl, hb4⟩
          have HV := Lib.hid (And.intro (below_then HW.out.1 hb4) (HW.out.2.below hb4))
          clear hb4 HW c2 c4 c5 c6
          go_wp2
          go_roundw
          case rel => exact ⟨j + 1, z + n + 8, by omega, by go_num, by rfl, HL.out.1, by rw [HN1.out]; exact HL.out.2, HV⟩
          case measure => simp [intOf]; omega
      · obtain rfl : j = O := by omega
        have hyy : (y == y) = true := by simp
        have hj1 : (1 : Int) ≤ (j : Int) := by omega
        have hj2 : (j : Int) ≤ 16 := by omega
        have hk1 : (0 : Int) ≤ (k : Int) := by omega
        have hk2 : (k : Int) ≤ 3 := by omega
        have HV := Lib.hid HW.out.1
        clear HW HAT HSS hL0 hL1 hlt
        go_wp2_with fail
        refine (works _).mono ?_
        rintro e w5 ⟨rfl, hb5⟩
        have HV5 := Lib.hid (below_then HV.out hb5)
        clear hb5 HV
        go_wp2
        go_ret
        exact ⟨rfl, HV5.out⟩
  · obtain ⟨h1, h2⟩ := of_err HSN.out HSA.out hE
    subst h2
    rw [h1] at hC
    generalize ofL n a true = l at hC
    have HC := Lib.hid hC
    clear hC hE h1
    go_wp2_with fail
    refine (HC.out _).mono ?_
    rintro e w1 ⟨rfl, hb1⟩
    have HW1 := Lib.hid (below_then HW0.out hb1)
    have HZ1 : Hid (LyAt (w1.alloc lay0) w1.heap.size zL) := Lib.hid (heap_new _ _)
    clear hb1 HW0 HC
    go_wp2_with (refine wpList_storeL (by rfl) _ _ (by rfl) w1.heap.size l (by rfl) (by rfl) _ HZ1.out rfl ?_; intro w2 h2 hk2; have HW2 := Lib.hid (below_one_kept (below_one HW1.out _) hk2 HW1.out.size); clear HZ1 HW1 h2 hk2; refine Stop.mk ?_)
    unfold Stop
    go_wp2_with fail
    refine (works _).mono ?_
    rintro e w5 ⟨rfl, hb5⟩
    have HV5 := Lib.hid (below_then HW2.out hb5)
    clear hb5 HW2
    go_wp2
    go_ret
    exact ⟨rfl, HV5.out⟩
end Go.Proofs.Ytghmopeaphandaa
