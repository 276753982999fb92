/-
  The laws' helper works.
-/
import Derived.Test.YtghmopeaphandaaAt
set_option linter.unusedVariables false
set_option linter.unusedSimpArgs false
namespace Go.Proofs.Ytghmopeaphandaa
open Go Go.RowKit

theorem LyAt.cells7 {w : World} {K : Nat} {s a S f o m x : Int} (h : LyAt w K ⟨s, a, S, f, o, m, x⟩) :
    w.cell? ⟨K, 0, none⟩ = some (.int .i64 s) ∧ w.cell? ⟨K, 1, none⟩ = some (.int .i64 a) ∧ w.cell? ⟨K, 2, none⟩ = some (.int .i64 S) ∧ w.cell? ⟨K, 3, none⟩ = some (.int .i64 f) ∧
    w.cell? ⟨K, 4, none⟩ = some (.int .i64 o) ∧ w.cell? ⟨K, 5, none⟩ = some (.int .i64 m) ∧ w.cell? ⟨K, 6, none⟩ = some (.int .i64 x) := h.cells
theorem eqL {s a S f o m x : Int} (w : World) : (Op.equalIn 10000 23 (.agg #[.int .i64 s, .int .i64 a, .int .i64 S, .int .i64 f, .int .i64 o, .int .i64 m, .int .i64 x]) (.agg #[.int .i64 s, .int .i64 a, .int .i64 S, .int .i64 f, .int .i64 o, .int .i64 m, .int .i64 x])).run Try.prog w = .ok true w :=
  eqIs (l := ⟨s, a, S, f, o, m, x⟩) (d := ⟨s, a, S, f, o, m, x⟩) (decide_eq_true rfl) w
theorem k1 (w : World) : Calls Try.prog 8 #[.int .i64 24, .int .i64 8, .bool false] w fun e w' => e = .returned (.tuple #[.agg #[.int .i64 24, .int .i64 8, .int .i64 24, .int .i64 0, .int .i64 0, .int .i64 10, .int .i64 16], .int .i64 0]) ∧ Below w.heap.size w w' := by
  have h := cOf 24 8 false w
  rw [show ofL 24 8 false = ⟨24, 8, 24, 0, 0, 10, 16⟩ by decide +kernel, show ofE 24 8 false = 0 by decide +kernel] at h
  exact h
theorem k2 (w : World) : Calls Try.prog 8 #[.int .i64 100, .int .i64 8, .bool false] w fun e w' => e = .returned (.tuple #[.agg #[.int .i64 100, .int .i64 8, .int .i64 104, .int .i64 0, .int .i64 2, .int .i64 9, .int .i64 88], .int .i64 0]) ∧ Below w.heap.size w w' := by
  have h := cOf 100 8 false w
  rw [show ofL 100 8 false = ⟨100, 8, 104, 0, 2, 9, 88⟩ by decide +kernel, show ofE 100 8 false = 0 by decide +kernel] at h
  exact h
theorem k3 (w : World) : Calls Try.prog 8 #[.int .i64 8, .int .i64 1, .bool true] w fun e w' => e = .returned (.tuple #[.agg #[.int .i64 8, .int .i64 1, .int .i64 24, .int .i64 8, .int .i64 0, .int .i64 10, .int .i64 16], .int .i64 0]) ∧ Below w.heap.size w w' := by
  have h := cOf 8 1 true w
  rw [show ofL 8 1 true = ⟨8, 1, 24, 8, 0, 10, 16⟩ by decide +kernel, show ofE 8 1 true = 0 by decide +kernel] at h
  exact h
theorem k4 (w : World) : Calls Try.prog 8 #[.int .i64 2048, .int .i64 1, .bool true] w fun e w' => e = .returned (.tuple #[.agg #[.int .i64 0, .int .i64 0, .int .i64 0, .int .i64 0, .int .i64 0, .int .i64 0, .int .i64 0], .int .i64 150]) ∧ Below w.heap.size w w' := by
  have h := cOf 2048 1 true w
  rw [show ofL 2048 1 true = ⟨0, 0, 0, 0, 0, 0, 0⟩ by decide +kernel, show ofE 2048 1 true = 150 by decide +kernel] at h
  exact h
theorem k5 (w : World) : Calls Try.prog 8 #[.int .i64 0, .int .i64 1, .bool false] w fun e w' => e = .returned (.tuple #[.agg #[.int .i64 0, .int .i64 0, .int .i64 0, .int .i64 0, .int .i64 0, .int .i64 0, .int .i64 0], .int .i64 2]) ∧ Below w.heap.size w w' := by
  have h := cOf 0 1 false w
  rw [show ofL 0 1 false = ⟨0, 0, 0, 0, 0, 0, 0⟩ by decide +kernel, show ofE 0 1 false = 2 by decide +kernel] at h
  exact h
theorem k6 (w : World) : Calls Try.prog 8 #[.int .i64 8, .int .i64 3, .bool false] w fun e w' => e = .returned (.tuple #[.agg #[.int .i64 0, .int .i64 0, .int .i64 0, .int .i64 0, .int .i64 0, .int .i64 0, .int .i64 0], .int .i64 2]) ∧ Below w.heap.size w w' := by
  have h := cOf 8 3 false w
  rw [show ofL 8 3 false = ⟨0, 0, 0, 0, 0, 0, 0⟩ by decide +kernel, show ofE 8 3 false = 2 by decide +kernel] at h
  exact h
set_option maxHeartbeats 8000000 in
set_option maxRecDepth 100000 in
theorem works (W : World) : Calls Try.prog 10 #[] W fun e w' => e = .returned (.bool true) ∧ Below W.heap.size W w' := by
  have hgd := guardK
  have heq1 := eqL (s := 24) (a := 8) (S := 24) (f := 0) (o := 0) (m := 10) (x := 16)
  have heq2 := eqL (s := 100) (a := 8) (S := 104) (f := 0) (o := 2) (m := 9) (x := 88)
  have heq3 := eqL (s := 8) (a := 1) (S := 24) (f := 8) (o := 0) (m := 10) (x := 16)
  go_enter Try.func10, Try.ntmps10
  go_wp2_with fail
  refine (k1 _).mono ?_
  rintro e w1 ⟨rfl, hb1⟩
  have HW1 := Lib.hid hb1
  clear hb1
  go_wp2_with fail
  refine (k2 _).mono ?_
  rintro e w2 ⟨rfl, hb2⟩
  have HA1_2 : Hid (LyAt w2 w1.heap.size ⟨24, 8, 24, 0, 0, 10, 16⟩) := Lib.hid (LyAt.below (heap_new _ _) hb2)
  have HW2 := Lib.hid (below_then (below_one HW1.out _) hb2)
  clear hb2 HW1 
  go_wp2_with fail
  refine (k3 _).mono ?_
  rintro e w3 ⟨rfl, hb3⟩
  have HA2_3 : Hid (LyAt w3 w2.heap.size ⟨100, 8, 104, 0, 2, 9, 88⟩) := Lib.hid (LyAt.below (heap_new _ _) hb3)
  have HA1_3 := Lib.hid (HA1_2.out.below (below_then (below_one (Below.refl _ _) _) hb3))
  have HW3 := Lib.hid (below_then (below_one HW2.out _) hb3)
  clear hb3 HW2 HA1_2
  go_wp2_with fail
  refine (k4 _).mono ?_
  rintro e w4 ⟨rfl, hb4⟩
  have HA3_4 : Hid (LyAt w4 w3.heap.size ⟨8, 1, 24, 8, 0, 10, 16⟩) := Lib.hid (LyAt.below (heap_new _ _) hb4)
  have HA1_4 := Lib.hid (HA1_3.out.below (below_then (below_one (Below.refl _ _) _) hb4))
  have HA2_4 := Lib.hid (HA2_3.out.below (below_then (below_one (Below.refl _ _) _) hb4))
  have HW4 := Lib.hid (below_then (below_one HW3.out _) hb4)
  clear hb4 HW3 HA1_3 HA2_3
  go_wp2_with fail
  refine (k5 _).mono ?_
  rintro e w5 ⟨rfl, hb5⟩
  have HA1_5 := Lib.hid (HA1_4.out.below (below_then (below_one (Below.refl _ _) _) hb5))
  have HA2_5 := Lib.hid (HA2_4.out.below (below_then (below_one (Below.refl _ _) _) hb5))
  have HA3_5 := Lib.hid (HA3_4.out.below (below_then (below_one (Below.refl _ _) _) hb5))
  have HW5 := Lib.hid (below_then (below_one HW4.out _) hb5)
  clear hb5 HW4 HA1_4 HA2_4 HA3_4
  go_wp2_with fail
  refine (k6 _).mono ?_
  rintro e w6 ⟨rfl, hb6⟩
  have HA1_6 := Lib.hid (HA1_5.out.below (below_then (below_one (Below.refl _ _) _) hb6))
  have HA2_6 := Lib.hid (HA2_5.out.below (below_then (below_one (Below.refl _ _) _) hb6))
  have HA3_6 := Lib.hid (HA3_5.out.below (below_then (below_one (Below.refl _ _) _) hb6))
  have HW6 := Lib.hid (below_then (below_one HW5.out _) hb6)
  clear hb6 HW5 HA1_5 HA2_5 HA3_5
  have HB := Lib.hid (below_one (Below.refl w6.heap.size w6) (.cells #[.int .i64 0, .int .i64 0, .int .i64 0, .int .i64 0, .int .i64 0, .int .i64 0, .int .i64 0] 23))
  obtain ⟨a10, a11, a12, a13, a14, a15, a16⟩ := (HA1_6.out.below HB.out).cells7
  obtain ⟨a20, a21, a22, a23, a24, a25, a26⟩ := (HA2_6.out.below HB.out).cells7
  obtain ⟨a30, a31, a32, a33, a34, a35, a36⟩ := (HA3_6.out.below HB.out).cells7
  clear HA1_6 HA2_6 HA3_6
  go_wp2
  go_ret
  exact ⟨rfl, below_then HW6.out HB.out⟩
end Go.Proofs.Ytghmopeaphandaa
