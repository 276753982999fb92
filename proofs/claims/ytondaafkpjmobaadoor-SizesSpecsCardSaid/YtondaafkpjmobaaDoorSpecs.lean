/-
  The law SizesSpecs, walked.
-/
import Derived.Test.YtondaafkpjmobaaDoorWorks
set_option linter.unusedVariables false
set_option linter.unusedSimpArgs false
namespace Go.Proofs.YtondaafkpjmobaaDoor
open Go Go.RowKit

theorem al_cases {k : Nat} (h : k < 10) : (alV (sz k) = 16 ∧ (sz k).tmod 16 = 0) ∨ (alV (sz k) = 8 ∧ (sz k).tmod 8 = 0) := by
  rcases ten h with rfl | rfl | rfl | rfl | rfl | rfl | rfl | rfl | rfl | rfl <;> decide
set_option maxHeartbeats 8000000 in
set_option maxRecDepth 100000 in
theorem specs16 (x : Int) (p : Sp) (k : Nat) (s : Int) (hx : bring x 10 = k) (hs1 : 8 ≤ s) (hs2 : s ≤ 512) (hm : s.tmod 16 = 0)
    (C1 : Hid (∀ w, Tab w → Calls Tryd.prog 11 #[.int .i64 k] w fun e w' => e = .returned (.tuple #[Sp.agg ⟨s, 16, 4⟩, .int .i64 0]) ∧ Below w.heap.size w w'))
    (C2 : Hid (∀ w, Tab w → Calls Tryd.prog 9 #[.int .i64 k] w fun e w' => e = .returned (.tuple #[.int .i64 s, .int .i64 0]) ∧ Below w.heap.size w w'))
    (W : World) (ht : Tab W) : Calls Tryd.prog 5 #[.int .i64 x, p.agg] W fun e W' => e = .returned (.bool true) ∧ Below W.heap.size W W' := by
  have hB := fun w => cBringN x 10 10 (by rfl) (by decide) w
  rw [hx] at hB
  have HB := Lib.hid hB
  have ess : (s == s) = true := by simp
  have HT : Hid (∀ w', Below W.heap.size W w' → Tab w') := Lib.hid (fun w' hb => ht.below hb)
  have HW0 : Hid (Below W.heap.size W (W.alloc (.cells p.arr 26))) := Lib.hid (below_one (Below.refl W.heap.size W) _)
  clear ht hB hx
  go_enter Tryd.func5, Tryd.ntmps5
  go_wp2_with fail
  refine (HB.out _).mono ?_
  rintro e _ ⟨rfl, rfl⟩
  go_wp2_with fail
  refine (C1.out _ (HT.out _ HW0.out)).mono ?_
  rintro e w1 ⟨rfl, hb1⟩
  have HW1 := Lib.hid (below_then HW0.out hb1)
  clear hb1 HW0
  go_wp2_with (refine wpList_storeC (by rfl) _ _ (by rfl) w1.heap.size ⟨s, 16, 4⟩ (by rfl) (by rfl) _ (zero_new w1) rfl ?_; intro w2 h2 hk2; have hb2 := below_one_kept (below_one (Below.refl w1.heap.size w1) _) hk2 (Nat.le_refl _); have HX2 := Lib.hid h2; have HW2 := Lib.hid (below_then HW1.out hb2); have HX2 := Lib.hid h2; clear h2 hk2 hb2 HW1; refine Stop.mk ?_)
  unfold Stop
  go_wp2_with fail
  refine (HB.out _).mono ?_
  rintro e _ ⟨rfl, rfl⟩
  go_wp2_with fail
  refine (C2.out _ (HT.out _ HW2.out)).mono ?_
  rintro e w3 ⟨rfl, hb3⟩
  have HW3 := Lib.hid (below_then HW2.out hb3)
  have HX3 := Lib.hid (HX2.out.below hb3)
  obtain ⟨i0, i1, i2⟩ := HX3.out.cells
  dsimp only at i0 i1 i2
  clear hb3 HW2
  go_wp2_with fail
  refine (works _ (HT.out _ HW3.out)).mono ?_
  rintro e w4 ⟨rfl, hb4⟩
  have HW4 := Lib.hid (below_then HW3.out hb4)
  clear hb4 HW3
  go_wp2
  go_ret
  exact ⟨rfl, HW4.out⟩
set_option maxHeartbeats 8000000 in
set_option maxRecDepth 100000 in
theorem specs8 (x : Int) (p : Sp) (k : Nat) (s : Int) (hx : bring x 10 = k) (hs1 : 8 ≤ s) (hs2 : s ≤ 512) (hm : s.tmod 8 = 0)
    (C1 : Hid (∀ w, Tab w → Calls Tryd.prog 11 #[.int .i64 k] w fun e w' => e = .returned (.tuple #[Sp.agg ⟨s, 8, 4⟩, .int .i64 0]) ∧ Below w.heap.size w w'))
    (C2 : Hid (∀ w, Tab w → Calls Tryd.prog 9 #[.int .i64 k] w fun e w' => e = .returned (.tuple #[.int .i64 s, .int .i64 0]) ∧ Below w.heap.size w w'))
    (W : World) (ht : Tab W) : Calls Tryd.prog 5 #[.int .i64 x, p.agg] W fun e W' => e = .returned (.bool true) ∧ Below W.heap.size W W' := by
  have hB := fun w => cBringN x 10 10 (by rfl) (by decide) w
  rw [hx] at hB
  have HB := Lib.hid hB
  have ess : (s == s) = true := by simp
  have HT : Hid (∀ w', Below W.heap.size W w' → Tab w') := Lib.hid (fun w' hb => ht.below hb)
  have HW0 : Hid (Below W.heap.size W (W.alloc (.cells p.arr 26))) := Lib.hid (below_one (Below.refl W.heap.size W) _)
  clear ht hB hx
  go_enter Tryd.func5, Tryd.ntmps5
  go_wp2_with fail
  refine (HB.out _).mono ?_
  rintro e _ ⟨rfl, rfl⟩
  go_wp2_with fail
  refine (C1.out _ (HT.out _ HW0.out)).mono ?_
  rintro e w1 ⟨rfl, hb1⟩
  have HW1 := Lib.hid (below_then HW0.out hb1)
  clear hb1 HW0
  go_wp2_with (refine wpList_storeC (by rfl) _ _ (by rfl) w1.heap.size ⟨s, 8, 4⟩ (by rfl) (by rfl) _ (zero_new w1) rfl ?_; intro w2 h2 hk2; have hb2 := below_one_kept (below_one (Below.refl w1.heap.size w1) _) hk2 (Nat.le_refl _); have HX2 := Lib.hid h2; have HW2 := Lib.hid (below_then HW1.out hb2); have HX2 := Lib.hid h2; clear h2 hk2 hb2 HW1; refine Stop.mk ?_)
  unfold Stop
  go_wp2_with fail
  refine (HB.out _).mono ?_
  rintro e _ ⟨rfl, rfl⟩
  go_wp2_with fail
  refine (C2.out _ (HT.out _ HW2.out)).mono ?_
  rintro e w3 ⟨rfl, hb3⟩
  have HW3 := Lib.hid (below_then HW2.out hb3)
  have HX3 := Lib.hid (HX2.out.below hb3)
  obtain ⟨i0, i1, i2⟩ := HX3.out.cells
  dsimp only at i0 i1 i2
  clear hb3 HW2
  go_wp2_with fail
  refine (works _ (HT.out _ HW3.out)).mono ?_
  rintro e w4 ⟨rfl, hb4⟩
  have HW4 := Lib.hid (below_then HW3.out hb4)
  clear hb4 HW3
  go_wp2
  go_ret
  exact ⟨rfl, HW4.out⟩
theorem walkSpecs (x : Int) (p : Sp) (W : World) (ht : Tab W) : Calls Tryd.prog 5 #[.int .i64 x, p.agg] W fun e W' => e = .returned (.bool true) ∧ Below W.heap.size W W' := by
  have hk := bring_lt x 10 (by decide)
  have hs := sz_range hk
  have h1 := cSpec (bring x 10 : Int)
  have h2 := cSize (bring x 10 : Int)
  rw [sp_in hk, (si_in hk).2] at h1
  rw [(si_in hk).1, (si_in hk).2] at h2
  rcases al_cases hk with ⟨e, hm⟩ | ⟨e, hm⟩
  · rw [e] at h1
    exact specs16 x p _ _ rfl hs.1 hs.2 hm (Lib.hid h1) (Lib.hid h2) W ht
  · rw [e] at h1
    exact specs8 x p _ _ rfl hs.1 hs.2 hm (Lib.hid h1) (Lib.hid h2) W ht
end Go.Proofs.YtondaafkpjmobaaDoor
