/-
  may, At, Index of the document's answer.
-/
import Derived.Test.YtghmopeaphandaaRof
import Derived.Test.YtghmopeaphandaaIdx
set_option linter.unusedVariables false
set_option linter.unusedSimpArgs false
namespace Go.Proofs.Ytghmopeaphandaa
open Go Go.RowKit

set_option maxHeartbeats 4000000 in
theorem rMay (l : Ly) (q : Bool) (hq : decide (valid l) = q) (w : World) :
    Calls Try.prog 25 #[l.agg] w fun e w' => e = .returned (.bool q) ∧ Below w.heap.size w w' := by
  have hC := rOf l.size l.align false
  have hD := rOf l.size l.align true
  obtain ⟨A, hA⟩ : ∃ A, ofL l.size l.align false = A := ⟨_, rfl⟩
  obtain ⟨X, hX⟩ : ∃ X, ofE l.size l.align false = X := ⟨_, rfl⟩
  obtain ⟨B, hB⟩ : ∃ B, ofL l.size l.align true = B := ⟨_, rfl⟩
  obtain ⟨Y, hY⟩ : ∃ Y, ofE l.size l.align true = Y := ⟨_, rfl⟩
  rw [hA, hX] at hC
  rw [hB, hY] at hD
  have HC := Lib.hid hC
  have HD := Lib.hid hD
  have hv : valid l ↔ (X = 0 ∧ l = A) ∨ (Y = 0 ∧ l = B) := by unfold valid isOf; rw [hA, hX, hB, hY]
  obtain ⟨x1, h1⟩ : ∃ x, (X == 0) = x := ⟨_, rfl⟩
  obtain ⟨x2, h2⟩ : ∃ x, (Y == 0) = x := ⟨_, rfl⟩
  obtain ⟨z1, g1⟩ : ∃ x, decide (l = A) = x := ⟨_, rfl⟩
  obtain ⟨z2, g2⟩ : ∃ x, decide (l = B) = x := ⟨_, rfl⟩
  have heq1 := fun w' => eqIs g1 w'
  have heq2 := fun w' => eqIs g2 w'
  have HQ : Hid ((x1 && z1 || x2 && z2) = q) := Lib.hid (by
    rw [← hq, ← h1, ← h2, ← g1, ← g2, Bool.eq_iff_iff]
    simp [hv])
  have hgd := guardK
  have HL : Hid (LyAt (w.alloc (.cells l.arr 23)) w.heap.size l) := Lib.hid (heap_new _ _)
  clear hq hC hD hA hX hB hY hv g1 g2
  cases x1 <;> cases z1 <;> cases x2 <;>
  · go_enter Try.func25, Try.ntmps25
    go_wp2_with fail
    refine (HC.out _).mono ?_
    rintro e w1 ⟨rfl, hb1⟩
    have HL1 := Lib.hid (HL.out.below hb1)
    have HW1 := Lib.hid (below_then (below_one (Below.refl w.heap.size w) _) hb1)
    have HZ1 : Hid (LyAt (w1.alloc lay0) w1.heap.size zL) := Lib.hid (heap_new _ _)
    clear hb1 HL HC
    go_wp2_with (refine wpList_storeL (by rfl) _ _ (by rfl) w1.heap.size A (by rfl) (by rfl) _ HZ1.out rfl ?_; intro w2 h2 hk2; have hb2 := below_one_kept (below_one (Below.refl w1.heap.size w1) _) hk2 (Nat.le_refl _); have HL2 := Lib.hid (HL1.out.below hb2); have HA2 := Lib.hid h2; have HW2 := Lib.hid (below_then HW1.out hb2); obtain ⟨c0, c1, _⟩ := (HL1.out.below hb2).cells; clear HZ1 HL1 HW1 h2 hk2 hb2; refine Stop.mk ?_)
    unfold Stop
    go_wp2_with fail
    refine (HD.out _).mono ?_
    rintro e w3 ⟨rfl, hb3⟩
    have HL3 := Lib.hid (HL2.out.below hb3)
    have HA3 := Lib.hid (HA2.out.below hb3)
    have HW3 := Lib.hid (below_then HW2.out hb3)
    have HZ3 : Hid (LyAt (w3.alloc lay0) w3.heap.size zL) := Lib.hid (heap_new _ _)
    clear hb3 HL2 HA2 HW2 HD c0 c1
    go_wp2_with (refine wpList_storeL (by rfl) _ _ (by rfl) w3.heap.size B (by rfl) (by rfl) _ HZ3.out rfl ?_; intro w4 h4 hk4; have hb4 := below_one_kept (below_one (Below.refl w3.heap.size w3) _) hk4 (Nat.le_refl _); have HW4 := Lib.hid (below_then HW3.out hb4); obtain ⟨c0, c1, c2, c3, c4, c5, c6⟩ := (HL3.out.below hb4).cells; obtain ⟨d0, d1, d2, d3, d4, d5, d6⟩ := (HA3.out.below hb4).cells; obtain ⟨e0, e1, e2, e3, e4, e5, e6⟩ := h4.cells; clear HZ3 HL3 HA3 HW3 h4 hk4 hb4; refine Stop.mk ?_)
    unfold Stop
    go_wp2
    go_ret
    exact ⟨ret_bool (by simpa using HQ.out), HW4.out⟩
set_option maxHeartbeats 2000000 in
theorem rAt (l : Ly) (i : Int) (w : World) :
    Calls Try.prog 12 #[l.agg, .int .i64 i] w fun e w' => e = .returned (.tuple #[.int .i64 (atV l i), .int .i64 (atE l i)]) ∧ Below w.heap.size w w' := by
  have HB : Hid (LyAt (w.alloc (.cells l.arr 23)) w.heap.size l) := Lib.hid (heap_new _ _)
  by_cases hv : valid l
  · have HV := Lib.hid (rMay l true (decide_eq_true hv))
    have hr := hv.range
    have e1 : atV l i = (if i < 0 ∨ l.objs ≤ i then 0 else i * l.step + l.off) := if_pos hv
    have e2 : atE l i = (if i < 0 ∨ l.objs ≤ i then 9 else 0) := if_pos hv
    rw [e1, e2]
    clear e1 e2 hv
    by_cases h1 : i < 0
    · rw [if_pos (Or.inl h1), if_pos (Or.inl h1)]
      clear hr
      go_enter Try.func12, Try.ntmps12
      go_wp2_with (refine wpList_loadL (by rfl) _ (by rfl) w.heap.size l (by rfl) HB.out ?_)
      refine (HV.out _).mono ?_
      rintro e w1 ⟨rfl, hb1⟩
      have HL1 := Lib.hid (below_then (below_one (Below.refl w.heap.size w) _) hb1)
      clear hb1
      go_wp2
      go_ret2
      exact ⟨rfl, HL1.out⟩
    · by_cases h2 : l.objs ≤ i
      · rw [if_pos (Or.inr h2), if_pos (Or.inr h2)]
        go_enter Try.func12, Try.ntmps12
        go_wp2_with (refine wpList_loadL (by rfl) _ (by rfl) w.heap.size l (by rfl) HB.out ?_)
        refine (HV.out _).mono ?_
        rintro e w1 ⟨rfl, hb1⟩
        have HL1 := Lib.hid (below_then (below_one (Below.refl w.heap.size w) _) hb1)
        obtain ⟨c0, c1, c2, c3, c4, c5, c6⟩ := (HB.out.below hb1).cells
        clear hb1
        go_wp2
        go_ret2
        exact ⟨rfl, HL1.out⟩
      · rw [if_neg (by omega), if_neg (by omega)]
        have h7 : 0 ≤ i * l.step := Int.mul_nonneg (by omega) (by omega)
        have h8 : i * l.step ≤ 16 * l.step := Int.mul_le_mul_of_nonneg_right (by omega) (by omega)
        go_enter Try.func12, Try.ntmps12
        go_wp2_with (refine wpList_loadL (by rfl) _ (by rfl) w.heap.size l (by rfl) HB.out ?_)
        refine (HV.out _).mono ?_
        rintro e w1 ⟨rfl, hb1⟩
        have HL1 := Lib.hid (below_then (below_one (Below.refl w.heap.size w) _) hb1)
        obtain ⟨c0, c1, c2, c3, c4, c5, c6⟩ := (HB.out.below hb1).cells
        clear hb1
        go_wp2
        go_ret2
        exact ⟨rfl, HL1.out⟩
  · have HV := Lib.hid (rMay l false (decide_eq_false hv))
    have e1 : atV l i = 0 := if_neg hv
    have e2 : atE l i = 2 := if_neg hv
    rw [e1, e2]
    clear e1 e2 hv
    go_enter Try.func12, Try.ntmps12
    go_wp2_with (refine wpList_loadL (by rfl) _ (by rfl) w.heap.size l (by rfl) HB.out ?_)
    refine (HV.out _).mono ?_
    rintro e w1 ⟨rfl, hb1⟩
    have HL1 := Lib.hid (below_then (below_one (Below.refl w.heap.size w) _) hb1)
    clear hb1
    go_wp2
    go_ret2
    exact ⟨rfl, HL1.out⟩
/-- what At tells of the i-th one -/
theorem at_of {l : Ly} {y i : Int} {b : Bool} (h : IdxIs l y i b) {k : Nat} (hk : k < 16) (h0 : atE l k = 0) (h1 : atV l k = y) : (k : Int) = i ∧ true = b := by
  unfold atE at h0
  unfold atV at h1
  by_cases hv : valid l
  · rw [if_pos hv] at h0 h1
    by_cases ho : (k : Int) < 0 ∨ l.objs ≤ (k : Int)
    · rw [if_pos ho] at h0
      cases h0
    · rw [if_neg ho] at h1
      exact (IdxIs.yes k hv (by omega) h1).one h
  · rw [if_neg hv] at h0
    cases h0
theorem at_no {l : Ly} {y i : Int} {b : Bool} (h : IdxIs l y i b) (hn : ∀ k : Nat, k < 16 → ¬ (atE l k = 0 ∧ atV l k = y)) : 0 = i ∧ false = b := by
  cases h with
  | bad hv => exact ⟨rfl, rfl⟩
  | no hv _ => exact ⟨rfl, rfl⟩
  | yes k hv h1 h2 =>
    have hr := hv.range
    refine absurd ⟨?_, ?_⟩ (hn k (by omega))
    · unfold atE; rw [if_pos hv, if_neg (by omega)]
    · unfold atV; rw [if_pos hv, if_neg (by omega)]; exact h2
set_option maxHeartbeats 2000000 in
theorem rIndex (l : Ly) (y i : Int) (b : Bool) (h : IdxIs l y i b) (w : World) :
    Calls Try.prog 14 #[l.agg, .int .i64 y] w fun e w' => e = .returned (.tuple #[.int .i64 i, .bool b]) ∧ Below w.heap.size w w' := by
  have HB : Hid (LyAt (w.alloc (.cells l.arr 23)) w.heap.size l) := Lib.hid (heap_new _ _)
  have HI := Lib.hid h
  clear h
  go_enter Try.func14, Try.ntmps14
  go_wp2
  obtain ⟨D, hD⟩ : ∃ D, w.heap.size = D := ⟨_, rfl⟩
  obtain ⟨w1, hw1⟩ : ∃ w1, w.alloc (.cells #[.int .i64 l.size, .int .i64 l.align, .int .i64 l.step, .int .i64 l.off, .int .i64 l.order, .int .i64 l.objs, .int .i64 l.waste] 23) = w1 := ⟨_, rfl⟩
  have HB1 : Hid (LyAt w1 D l) := Lib.hid (by rw [← hw1, ← hD]; exact HB.out)
  have HL1 : Hid (Below w.heap.size w w1) := Lib.hid (by rw [← hw1]; exact below_one (Below.refl _ _) _)
  simp only [hw1, hD]
  clear hw1 HB
  go_loopw [6] (fun x wr => ∃ k : Nat, k ≤ 16 ∧ x = .int .i64 k ∧ Hid ((∀ j : Nat, j < k → ¬ (atE l j = 0 ∧ atV l j = y)) ∧ Below w1.heap.size w1 wr)) (fun x _ => 16 - (intOf x).toNat)
  case atStart => exact ⟨0, by omega, rfl, Lib.hid ⟨fun j hj => absurd hj (Nat.not_lt_zero _), Below.refl _ _⟩⟩
  case round =>
    obtain ⟨k, hk, rfl, HK⟩ := hrel
    by_cases hlt : k < 16
    · have hA := rAt l k
      have HW := Lib.hid (HB1.out.below HK.out.2)
      have HP : Hid (atE l k = 0 ∧ atV l k = y → (k : Int) = i ∧ true = b) := Lib.hid (fun h => at_of HI.out hlt h.1 h.2)
      have HN : Hid (¬ (atE l k = 0 ∧ atV l k = y) → ∀ j : Nat, j < k + 1 → ¬ (atE l j = 0 ∧ atV l j = y)) := Lib.hid (fun h j hj => by
        by_cases e : j = k
        · subst e; exact h
        · exact HK.out.1 j (by omega))
      generalize atE l (k : Int) = E at hA HP HN
      generalize atV l (k : Int) = V at hA HP HN
      have HA := Lib.hid hA
      clear hA
      by_cases hE : E = 0
      · have hee : (E == 0) = true := by simp [hE]
        by_cases hV : V = y
        · have hvv : (V == y) = true := by simp [hV]
          have HX := Lib.hid (HP.out ⟨hE, hV⟩)
          clear hE hV HP HN
          go_wp2_with (refine wpList_loadL (by rfl) _ (by rfl) D l (by rfl) HW.out ?_)
          refine (HA.out _).mono ?_
          rintro e w2 ⟨rfl, hb2⟩
          have HL2 := Lib.hid (below_then HL1.out (below_then HK.out.2 hb2))
          clear hb2
          go_wp2
          try rw [Exit.noGoto_ret]
          go_ret2
          exact ⟨ret_ib HX.out.1 HX.out.2, by first | exact HL2.out | (rw [← hD]; exact HL2.out)⟩
        · have hvv : (V == y) = false := by simp [hV]
          have HX := Lib.hid (HN.out (fun h => hV h.2))
          clear hE hV HP HN
          go_wp2_with (refine wpList_loadL (by rfl) _ (by rfl) D l (by rfl) HW.out ?_)
          refine (HA.out _).mono ?_
          rintro e w2 ⟨rfl, hb2⟩
          have HL2 := Lib.hid (below_then HK.out.2 hb2)
          clear hb2
          go_wp2
          go_roundw
          case rel => exact ⟨k + 1, by omega, by go_num, Lib.hid ⟨HX.out, HL2.out⟩⟩
          case measure => simp [intOf]; omega
      · have hee : (E == 0) = false := by simp [hE]
        have HX := Lib.hid (HN.out (fun h => hE h.1))
        clear hE HP HN
        go_wp2_with (refine wpList_loadL (by rfl) _ (by rfl) D l (by rfl) HW.out ?_)
        refine (HA.out _).mono ?_
        rintro e w2 ⟨rfl, hb2⟩
        have HL2 := Lib.hid (below_then HK.out.2 hb2)
        clear hb2
        go_wp2
        go_roundw
        case rel => exact ⟨k + 1, by omega, by go_num, Lib.hid ⟨HX.out, HL2.out⟩⟩
        case measure => simp [intOf]; omega
    · obtain rfl : k = 16 := by omega
      have HX := Lib.hid (at_no HI.out HK.out.1)
      have HL2 := Lib.hid (below_then HL1.out HK.out.2)
      go_wp2
      go_ret2
      exact ⟨ret_ib HX.out.1 HX.out.2, by first | exact HL2.out | (rw [← hD]; exact HL2.out)⟩
end Go.Proofs.Ytghmopeaphandaa
