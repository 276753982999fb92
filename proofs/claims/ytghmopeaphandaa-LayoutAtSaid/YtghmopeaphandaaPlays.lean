/-
  The laws LayoutOf, LayoutAt, walked.
-/
import Derived.Test.YtghmopeaphandaaWorks
import Derived.Test.YtghmopeaphandaaRat
set_option linter.unusedVariables false
set_option linter.unusedSimpArgs false
namespace Go.Proofs.Ytghmopeaphandaa
open Go Go.RowKit

set_option maxHeartbeats 4000000 in
theorem walkOf (s a : Int) (g : Bool) (W : World) : Calls Try.prog 3 #[.int .i64 s, .int .i64 a, .bool g] W fun e W' => e = .returned (.bool true) ∧ Below W.heap.size W W' := by
  have hC := cOf s a g
  have hD := rOf s a g
  generalize ofL s a g = X at hC hD
  generalize ofE s a g = Y at hC hD
  have HC := Lib.hid hC
  have HD := Lib.hid hD
  have heq := fun w' => eqIs (l := X) (d := X) (decide_eq_true rfl) w'
  have hgd := guardK
  clear hC hD
  go_enter Try.func3, Try.ntmps3
  go_wp2_with fail
  refine (HC.out _).mono ?_
  rintro e w1 ⟨rfl, hb1⟩
  have HW1 := Lib.hid hb1
  have HZ1 : Hid (LyAt (w1.alloc lay0) w1.heap.size zL) := Lib.hid (heap_new _ _)
  clear hb1 HC
  go_wp2_with (refine wpList_storeL (by rfl) _ _ (by rfl) w1.heap.size X (by rfl) (by rfl) _ HZ1.out rfl ?_; intro w2 h2 hk2; have HA2 := Lib.hid h2; have HW2 := Lib.hid (below_one_kept (below_one HW1.out _) hk2 HW1.out.size); clear HZ1 HW1 h2 hk2; refine Stop.mk ?_)
  unfold Stop
  go_wp2_with fail
  refine (HD.out _).mono ?_
  rintro e w3 ⟨rfl, hb3⟩
  have HA3 := Lib.hid (HA2.out.below hb3)
  have HW3 := Lib.hid (below_then HW2.out hb3)
  have HZ3 : Hid (LyAt (w3.alloc lay0) w3.heap.size zL) := Lib.hid (heap_new _ _)
  clear hb3 HA2 HW2 HD
  go_wp2_with (refine wpList_storeL (by rfl) _ _ (by rfl) w3.heap.size X (by rfl) (by rfl) _ HZ3.out rfl ?_; intro w4 h4 hk4; have hb4 := below_one_kept (below_one (Below.refl w3.heap.size w3) _) hk4 (Nat.le_refl _); have HW4 := Lib.hid (below_then HW3.out hb4); obtain ⟨c0, c1, c2, c3, c4, c5, c6⟩ := (HA3.out.below hb4).cells; obtain ⟨d0, d1, d2, d3, d4, d5, d6⟩ := h4.cells; clear HZ3 HA3 HW3 h4 hk4 hb4; refine Stop.mk ?_)
  unfold Stop
  have hYY : (Y == Y) = true := by simp
  go_wp2_with fail
  refine (works _).mono ?_
  rintro e w5 ⟨rfl, hb5⟩
  go_wp2
  go_ret
  exact ⟨rfl, below_then HW4.out hb5⟩
set_option maxHeartbeats 4000000 in
theorem walkAt (l : Ly) (i y : Int) (W : World) : Calls Try.prog 4 #[l.agg, .int .i64 i, .int .i64 y] W fun e W' => e = .returned (.bool true) ∧ Below W.heap.size W W' := by
  have hC := cAt l i
  have hD := rAt l i
  generalize atV l i = X at hC hD
  generalize atE l i = Y at hC hD
  obtain ⟨j, b, hj⟩ := IdxIs.ex l y
  have HC := Lib.hid hC
  have HD := Lib.hid hD
  have HI := Lib.hid (cIndex l y j b hj)
  have HJ := Lib.hid (rIndex l y j b hj)
  have HL : Hid (LyAt (W.alloc (.cells l.arr 23)) W.heap.size l) := Lib.hid (heap_new _ _)
  clear hC hD hj
  go_enter Try.func4, Try.ntmps4
  go_wp2_with (refine wpList_loadL (by rfl) _ (by rfl) W.heap.size l (by rfl) HL.out ?_)
  refine (HC.out _).mono ?_
  rintro e w1 ⟨rfl, hb1⟩
  have HL1 := Lib.hid (HL.out.below hb1)
  have HW1 := Lib.hid (below_then (below_one (Below.refl W.heap.size W) _) hb1)
  clear hb1 HL HC
  go_wp2_with (refine wpList_loadL (by rfl) _ (by rfl) W.heap.size l (by rfl) HL1.out ?_)
  refine (HD.out _).mono ?_
  rintro e w2 ⟨rfl, hb2⟩
  have HL2 := Lib.hid (HL1.out.below hb2)
  have HW2 := Lib.hid (below_then HW1.out hb2)
  clear hb2 HL1 HW1 HD
  go_wp2_with (refine wpList_loadL (by rfl) _ (by rfl) W.heap.size l (by rfl) HL2.out ?_)
  refine (HI.out _).mono ?_
  rintro e w3 ⟨rfl, hb3⟩
  have HL3 := Lib.hid (HL2.out.below hb3)
  have HW3 := Lib.hid (below_then HW2.out hb3)
  clear hb3 HL2 HW2 HI
  go_wp2_with (refine wpList_loadL (by rfl) _ (by rfl) W.heap.size l (by rfl) HL3.out ?_)
  refine (HJ.out _).mono ?_
  rintro e w4 ⟨rfl, hb4⟩
  have HW4 := Lib.hid (below_then HW3.out hb4)
  clear hb4 HL3 HW3 HJ
  go_wp2_with fail
  refine (works _).mono ?_
  rintro e w5 ⟨rfl, hb5⟩
  go_wp2
  go_ret
  exact ⟨rfl, below_then HW4.out hb5⟩
end Go.Proofs.Ytghmopeaphandaa
