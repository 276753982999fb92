/-
  isOf, isValid, start, At, Index of the program.
-/
import Derived.Test.YtghmopeaphandaaOf
set_option linter.unusedVariables false
set_option linter.unusedSimpArgs false
namespace Go.Proofs.Ytghmopeaphandaa
open Go Go.RowKit

theorem eqIs {l d : Ly} {q : Bool} (h : decide (l = d) = q) (w : World) : (Op.equalIn 10000 23 (.agg #[.int .i64 l.size, .int .i64 l.align, .int .i64 l.step, .int .i64 l.off, .int .i64 l.order, .int .i64 l.objs, .int .i64 l.waste]) (.agg #[.int .i64 d.size, .int .i64 d.align, .int .i64 d.step, .int .i64 d.off, .int .i64 d.order, .int .i64 d.objs, .int .i64 d.waste])).run Try.prog w = .ok q w := by rw [← h]; exact eqinK w l d
set_option maxHeartbeats 2000000 in
theorem cIsOf (l : Ly) (g : Bool) (q : Bool) (hq : decide (isOf l g) = q) (w : World) :
    Calls Try.prog 28 #[l.agg, .bool g] w fun e w' => e = .returned (.bool q) ∧ Below w.heap.size w w' := by
  have hC := cOf l.size l.align g
  obtain ⟨X, hX⟩ : ∃ X, ofL l.size l.align g = X := ⟨_, rfl⟩
  obtain ⟨Y, hY⟩ : ∃ Y, ofE l.size l.align g = Y := ⟨_, rfl⟩
  rw [hX, hY] at hC
  have HC := Lib.hid hC
  have hQ : decide (Y = 0 ∧ l = X) = q := by rw [← hq]; exact decide_eq_decide.2 (by unfold isOf; rw [hX, hY])
  clear hq hC hX hY
  have hgd := guardK
  have HB : Hid (LyAt (w.alloc (.cells l.arr 23)) w.heap.size l) := Lib.hid (heap_new _ _)
  by_cases hy : Y = 0
  · subst hy
    obtain ⟨z, hz⟩ : ∃ z, decide (l = X) = z := ⟨_, rfl⟩
    have heq := fun w' => eqIs hz w'
    have HQ : Hid (z = q) := Lib.hid (by rw [← hQ, ← hz]; exact decide_eq_decide.2 ⟨fun h => ⟨rfl, h⟩, fun h => h.2⟩)
    clear hQ hz
    go_enter Try.func28, Try.ntmps28
    go_wp2_with fail
    refine (HC.out _).mono ?_
    rintro e w1 ⟨rfl, hb1⟩
    have HB1 := Lib.hid (HB.out.below hb1)
    have HL1 := Lib.hid (below_then (below_one (Below.refl w.heap.size w) _) hb1)
    clear hb1 HB
    go_wp2_with (refine wpList_storeL (by rfl) _ _ (by rfl) w1.heap.size X (by rfl) (by rfl) _ (heap_new _ _) rfl ?_; intro w2 h2 hk2; have hb2 := below_one_kept (below_one (Below.refl w1.heap.size w1) _) hk2 (Nat.le_refl _); obtain ⟨c0, c1, c2, c3, c4, c5, c6⟩ := (HB1.out.below hb2).cells; obtain ⟨d0, d1, d2, d3, d4, d5, d6⟩ := h2.cells; have HL2 := Lib.hid (below_then HL1.out hb2); clear h2 hk2 hb2 HL1 HB1)
    go_ret
    exact ⟨ret_bool (by simpa using HQ.out), HL2.out⟩
  · have HQ : Hid (false = q) := Lib.hid (by rw [← hQ]; exact (decide_eq_false fun h => hy h.1).symm)
    have hyy : (Y == 0) = false := by simp [hy]
    clear hQ hy
    go_enter Try.func28, Try.ntmps28
    go_wp2_with fail
    refine (HC.out _).mono ?_
    rintro e w1 ⟨rfl, hb1⟩
    have HB1 := Lib.hid (HB.out.below hb1)
    have HL1 := Lib.hid (below_then (below_one (Below.refl w.heap.size w) _) hb1)
    clear hb1 HB
    go_wp2_with (refine wpList_storeL (by rfl) _ _ (by rfl) w1.heap.size X (by rfl) (by rfl) _ (heap_new _ _) rfl ?_; intro w2 h2 hk2; have hb2 := below_one_kept (below_one (Below.refl w1.heap.size w1) _) hk2 (Nat.le_refl _); have HL2 := Lib.hid (below_then HL1.out hb2); clear h2 hk2 hb2 HL1 HB1)
    go_ret
    exact ⟨ret_bool HQ.out, HL2.out⟩
set_option maxHeartbeats 2000000 in
theorem cIsValid (l : Ly) (q : Bool) (hq : decide (valid l) = q) (w : World) :
    Calls Try.prog 23 #[l.agg] w fun e w' => e = .returned (.bool q) ∧ Below w.heap.size w w' := by
  have HB : Hid (LyAt (w.alloc (.cells l.arr 23)) w.heap.size l) := Lib.hid (heap_new _ _)
  by_cases h1 : isOf l false
  · have HQ : Hid (true = q) := Lib.hid (by rw [← hq]; exact (decide_eq_true (Or.inl h1)).symm)
    have HC := Lib.hid (cIsOf l false true (decide_eq_true h1))
    clear hq h1
    go_enter Try.func23, Try.ntmps23
    go_wp2_with (refine wpList_loadL (by rfl) _ (by rfl) w.heap.size l (by rfl) HB.out ?_)
    refine (HC.out _).mono ?_
    rintro e w1 ⟨rfl, hb1⟩
    have HL1 := Lib.hid (below_then (below_one (Below.refl w.heap.size w) _) hb1)
    clear hb1
    go_wp2
    go_ret
    exact ⟨ret_bool HQ.out, HL1.out⟩
  · obtain ⟨z, hz⟩ : ∃ z, decide (isOf l true) = z := ⟨_, rfl⟩
    have HQ : Hid (z = q) := Lib.hid (by rw [← hq, ← hz]; exact decide_eq_decide.2 ⟨Or.inr, fun h => h.resolve_left h1⟩)
    have HC := Lib.hid (cIsOf l false false (decide_eq_false h1))
    have HD := Lib.hid (cIsOf l true z hz)
    clear hq h1 hz
    go_enter Try.func23, Try.ntmps23
    go_wp2_with (refine wpList_loadL (by rfl) _ (by rfl) w.heap.size l (by rfl) HB.out ?_)
    refine (HC.out _).mono ?_
    rintro e w1 ⟨rfl, hb1⟩
    have HL1 := Lib.hid (below_then (below_one (Below.refl w.heap.size w) _) hb1)
    obtain ⟨c0, c1, c2, c3, c4, c5, c6⟩ := (HB.out.below hb1).cells
    clear hb1 HB
    go_wp2_with fail
    refine (HD.out _).mono ?_
    rintro e w2 ⟨rfl, hb2⟩
    have HL2 := Lib.hid (below_then HL1.out hb2)
    clear hb2 HL1 c0 c1 c2 c3 c4 c5 c6
    go_wp2
    go_ret
    exact ⟨ret_bool (by simpa using HQ.out), HL2.out⟩
set_option maxHeartbeats 1000000 in
theorem cStart (l : Ly) (i : Int) (hi : 0 ≤ i ∧ i ≤ 16) (h : 8 ≤ l.step ∧ l.step ≤ 2240 ∧ 0 ≤ l.off ∧ l.off ≤ 64) (w : World) :
    Calls Try.prog 24 #[l.agg, .int .i64 i] w fun e w' => e = .returned (.int .i64 (i * l.step + l.off)) ∧ Below w.heap.size w w' := by
  obtain ⟨h1, h2, h3, h4⟩ := h
  obtain ⟨h5, h6⟩ := hi
  have h7 : 0 ≤ i * l.step := Int.mul_nonneg h5 (by omega)
  have h8 : i * l.step ≤ 16 * l.step := Int.mul_le_mul_of_nonneg_right h6 (by omega)
  go_enter Try.func24, Try.ntmps24
  go_wp2
  go_ret
  exact ⟨rfl, below_one (Below.refl _ _) _⟩
set_option maxHeartbeats 2000000 in
theorem cAt (l : Ly) (i : Int) (w : World) :
    Calls Try.prog 11 #[l.agg, .int .i64 i] w fun e w' => e = .returned (.tuple #[.int .i64 (atV l i), .int .i64 (atE l i)]) ∧ Below w.heap.size w w' := by
  have HB : Hid (LyAt (w.alloc (.cells l.arr 23)) w.heap.size l) := Lib.hid (heap_new _ _)
  by_cases hv : valid l
  · have HV := Lib.hid (cIsValid l true (decide_eq_true hv))
    have hr := hv.range
    have e1 : atV l i = (if i < 0 ∨ l.objs ≤ i then 0 else i * l.step + l.off) := if_pos hv
    have e2 : atE l i = (if i < 0 ∨ l.objs ≤ i then 9 else 0) := if_pos hv
    rw [e1, e2]
    clear e1 e2 hv
    by_cases h1 : i < 0
    · rw [if_pos (Or.inl h1), if_pos (Or.inl h1)]
      go_enter Try.func11, Try.ntmps11
      go_wp2_with (first
        | (refine wpList_loadL (by rfl) _ (by rfl) w.heap.size l (by rfl) HB.out ?_)
        | (go_at_call 23; refine (HV.out _).mono ?_; rintro e w1 ⟨rfl, hb1⟩; have HL1 := Lib.hid (below_then (below_one (Below.refl w.heap.size w) _) hb1); clear hb1))
      go_ret2
      exact ⟨rfl, HL1.out⟩
    · by_cases h2 : l.objs ≤ i
      · rw [if_pos (Or.inr h2), if_pos (Or.inr h2)]
        go_enter Try.func11, Try.ntmps11
        go_wp2_with (first
          | (refine wpList_loadL (by rfl) _ (by rfl) w.heap.size l (by rfl) HB.out ?_)
          | (go_at_call 23; refine (HV.out _).mono ?_; rintro e w1 ⟨rfl, hb1⟩; have HL1 := Lib.hid (below_then (below_one (Below.refl w.heap.size w) _) hb1); obtain ⟨c0, c1, c2, c3, c4, c5, c6⟩ := (HB.out.below hb1).cells; clear hb1))
        go_ret2
        exact ⟨rfl, HL1.out⟩
      · rw [if_neg (by omega), if_neg (by omega)]
        have HS := Lib.hid (cStart l i (by omega) (by omega))
        go_enter Try.func11, Try.ntmps11
        go_wp2_with (first
          | (refine wpList_loadL (by rfl) _ (by rfl) w.heap.size l (by rfl) HB.out ?_)
          | (go_at_call 23; refine (HV.out _).mono ?_; rintro e w1 ⟨rfl, hb1⟩; have HL1 := Lib.hid (below_then (below_one (Below.refl w.heap.size w) _) hb1); have HB1 := Lib.hid (HB.out.below hb1); obtain ⟨c0, c1, c2, c3, c4, c5, c6⟩ := (HB.out.below hb1).cells; clear hb1)
          | (refine wpList_loadL (by rfl) _ (by rfl) w.heap.size l (by rfl) HB1.out ?_)
          | (go_at_call 24; refine (HS.out _).mono ?_; rintro e w2 ⟨rfl, hb2⟩; have HL2 := Lib.hid (below_then HL1.out hb2); clear hb2))
        go_ret2
        exact ⟨rfl, HL2.out⟩
  · have HV := Lib.hid (cIsValid l false (decide_eq_false hv))
    have e1 : atV l i = 0 := if_neg hv
    have e2 : atE l i = 2 := if_neg hv
    rw [e1, e2]
    clear e1 e2 hv
    go_enter Try.func11, Try.ntmps11
    go_wp2_with (first
      | (refine wpList_loadL (by rfl) _ (by rfl) w.heap.size l (by rfl) HB.out ?_)
      | (go_at_call 23; refine (HV.out _).mono ?_; rintro e w1 ⟨rfl, hb1⟩; have HL1 := Lib.hid (below_then (below_one (Below.refl w.heap.size w) _) hb1); clear hb1))
    go_ret2
    exact ⟨rfl, HL1.out⟩
end Go.Proofs.Ytghmopeaphandaa
