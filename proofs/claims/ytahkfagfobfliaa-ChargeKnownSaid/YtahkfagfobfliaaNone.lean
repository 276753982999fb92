/-
  Calls on counters that are none.
-/
import Derived.Test.YtahkfagfobfliaaTry1
set_option linter.unusedVariables false
set_option linter.unusedSimpArgs false
namespace Go.Proofs.Ytahkfagfobfliaa
open Go Go.RowKit

section
variable {w w' : World} {p : Option Addr}
set_option maxHeartbeats 1000000 in
theorem zLimit (h : CZ w p) (x n : Int) : Calls Try.prog 17 #[.pointer p, .int .i64 x, .int .i64 n] w fun e w' => e = .returned (.int .i64 1) ∧ w' = w := by
  have HA := Lib.hid h
  clear h
  go_enter Try.func17, Try.ntmps17
  go_wp2_with (go_at_call 31; refine (zCheck HA.out _ _).mono ?_; rintro e w1 ⟨rfl, rfl⟩)
  go_ret
  exact ⟨rfl, rfl⟩
set_option maxHeartbeats 1000000 in
theorem zUp (h : CZ w p) (x n : Int) : Calls Try.prog 18 #[.pointer p, .int .i64 x, .int .i64 n] w fun e w' => e = .returned (.int .i64 1) ∧ w' = w := by
  have HA := Lib.hid h
  clear h
  go_enter Try.func18, Try.ntmps18
  go_wp2_with (go_at_call 31; refine (zCheck HA.out _ _).mono ?_; rintro e w1 ⟨rfl, rfl⟩)
  go_ret
  exact ⟨rfl, rfl⟩
set_option maxHeartbeats 1000000 in
theorem zDown (h : CZ w p) (x n : Int) : Calls Try.prog 19 #[.pointer p, .int .i64 x, .int .i64 n] w fun e w' => e = .returned (.int .i64 1) ∧ w' = w := by
  have HA := Lib.hid h
  clear h
  go_enter Try.func19, Try.ntmps19
  go_wp2_with (go_at_call 31; refine (zCheck HA.out _ _).mono ?_; rintro e w1 ⟨rfl, rfl⟩)
  go_ret
  exact ⟨rfl, rfl⟩
set_option maxHeartbeats 1000000 in
theorem zUsed (h : CZ w p) (x : Int) : Calls Try.prog 11 #[.pointer p, .int .i64 x] w fun e w' => e = .returned (.int .i64 0) ∧ w' = w := by
  have HA := Lib.hid h
  clear h
  go_enter Try.func11, Try.ntmps11
  go_wp2_with (go_at_call 31; refine (zCheck HA.out _ _).mono ?_; rintro e w1 ⟨rfl, rfl⟩)
  go_ret
  exact ⟨rfl, rfl⟩
set_option maxHeartbeats 1000000 in
theorem zMost (h : CZ w p) (x : Int) : Calls Try.prog 13 #[.pointer p, .int .i64 x] w fun e w' => e = .returned (.int .i64 0) ∧ w' = w := by
  have HA := Lib.hid h
  clear h
  go_enter Try.func13, Try.ntmps13
  go_wp2_with (go_at_call 31; refine (zCheck HA.out _ _).mono ?_; rintro e w1 ⟨rfl, rfl⟩)
  go_ret
  exact ⟨rfl, rfl⟩
set_option maxHeartbeats 1000000 in
theorem zBack (h : CZ w p) (u : Value) (n : Int) : Calls Try.prog 21 #[.pointer p, u, .int .i64 n] w fun e w' => e = .returned (.int .i64 1) ∧ w' = w := by
  have HA := Lib.hid h
  clear h
  go_enter Try.func21, Try.ntmps21
  go_wp2_with (go_at_call 34; refine (zCheckPath HA.out _ _).mono ?_; rintro e w1 ⟨rfl, rfl⟩)
  go_ret
  exact ⟨rfl, rfl⟩
set_option maxHeartbeats 1000000 in
theorem zTry (h : CZ w p) (u : Value) (n : Int) : Calls Try.prog 20 #[.pointer p, u, .int .i64 n] w fun e w' => e = .returned (.tuple #[.int .i64 0, .int .i64 1]) ∧ Below w.heap.size w w' := by
  have HA := Lib.hid h
  clear h
  go_enter_defers Try.func20, Try.ntmps20
  go_wp2_with fail
  have HB := Lib.hid (below3 w (.cells #[.pointer p] 23) (.cells #[.int .i64 n] 3) (.cells #[.int .i64 0] 35))
  refine (zCheckPath (HA.out.below HB.out) _ _).mono ?_
  rintro e w1 ⟨rfl, rfl⟩
  have HX : Hid ((((w.alloc (.cells #[.pointer p] 23)).alloc (.cells #[.int .i64 n] 3)).alloc (.cells #[.int .i64 1] 35)).heap[w.heap.size + 1 + 1]? = some (.cells #[.int .i64 1] 35 (0, 0))) := Lib.hid (by
    have := heap_new ((w.alloc (.cells #[.pointer p] 23)).alloc (.cells #[.int .i64 n] 3)) (.cells #[.int .i64 1] 35)
    rwa [size_alloc, size_alloc] at this)
  have HB2 := Lib.hid (below3 w (.cells #[.pointer p] 23) (.cells #[.int .i64 n] 3) (.cells #[.int .i64 1] 35))
  go_wp2
  generalize (((w.alloc (.cells #[.pointer p] 23)).alloc (.cells #[.int .i64 n] 3)).alloc (.cells #[.int .i64 1] 35)) = w3 at *
  have c2 := self_cell HX.out 0 _ rfl
  have f2 := self_free HX.out 0
  have hB3 : Below w.heap.size w (w3.setCell ⟨w.heap.size + 1 + 1, 0, none⟩ (.int .i64 1)).drew := (HB2.out.setCell (p := ⟨w.heap.size + 1 + 1, 0, none⟩) (by show w.heap.size ≤ w.heap.size + 1 + 1; omega) _).drew
  have HE := Lib.hid (cell_set HX.out (.int .i64 1))
  have HB3 := Lib.hid hB3
  clear hB3
  go_region
  go_wp2
  exact ⟨_, res_try rfl rfl HE.out, rfl, HB3.out⟩
end
end Go.Proofs.Ytahkfagfobfliaa
