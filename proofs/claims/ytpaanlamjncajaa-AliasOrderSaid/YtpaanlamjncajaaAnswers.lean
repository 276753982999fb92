/-
  The law AliasAnswers, walked.
-/
import Derived.Test.YtpaanlamjncajaaWorks
set_option linter.unusedVariables false
set_option linter.unusedSimpArgs false
namespace Go.Proofs.Ytpaanlamjncajaa
open Go Go.RowKit

section
variable {W w w' : World} {i j : Nat} {a b : Sp}
/-- the cells, and the rest -/
theorem Two.six (h : Two W i j a b w) : w.cell? ⟨i, 0, none⟩ = some (.int .i64 a.size) ∧ w.cell? ⟨i, 1, none⟩ = some (.int .i64 a.align) ∧ w.cell? ⟨i, 2, none⟩ = some (.int .i64 a.flags) ∧
    w.cell? ⟨j, 0, none⟩ = some (.int .i64 b.size) ∧ w.cell? ⟨j, 1, none⟩ = some (.int .i64 b.align) ∧ w.cell? ⟨j, 2, none⟩ = some (.int .i64 b.flags) ∧ Two W i j a b w :=
  ⟨h.at1.cells.1, h.at1.cells.2.1, h.at1.cells.2.2, h.at2.cells.1, h.at2.cells.2.1, h.at2.cells.2.2, h⟩
end
set_option maxHeartbeats 8000000 in
set_option maxRecDepth 100000 in
theorem walkAnswers (a b : Sp) (W : World) : Calls Try.prog 3 #[a.agg, b.agg] W fun e W' => e = .returned (.bool true) ∧ Below W.heap.size W W' := by
  have h0 := (two_new W a b).drew
  have HC := Lib.hid (fun w => cCheck a w)
  have HD := Lib.hid (fun w => rCheck a w)
  have HS := Lib.hid (fun w => cStep a w)
  have HT := Lib.hid (fun w => rStep a w)
  have HV := Lib.hid (fun w => cServes a b w)
  have HU := Lib.hid (fun w => rServes a b w)
  generalize a.chk = x at *
  generalize a.step = y at *
  generalize srv a b = q at *
  have ex : (x == x) = true := by simp
  have ey : (y == y) = true := by simp
  have eq : (q == q) = true := by simp
  go_enter Try.func3, Try.ntmps3
  go_wp2
  go_region_held3 (fun w' => w'.cell? ⟨W.heap.size, 0, none⟩ = some (.int .i64 a.size) ∧ w'.cell? ⟨W.heap.size, 1, none⟩ = some (.int .i64 a.align) ∧ w'.cell? ⟨W.heap.size, 2, none⟩ = some (.int .i64 a.flags) ∧
      w'.cell? ⟨W.heap.size + 1, 0, none⟩ = some (.int .i64 b.size) ∧ w'.cell? ⟨W.heap.size + 1, 1, none⟩ = some (.int .i64 b.align) ∧ w'.cell? ⟨W.heap.size + 1, 2, none⟩ = some (.int .i64 b.flags) ∧ Two W W.heap.size (W.heap.size + 1) a b w')
    (first | exact Two.six (by assumption))
    (first
      | (go_at_call 9; refine (HC.out _).mono ?_; rintro e w1 ⟨rfl, hb1⟩; have hT1 := Two.next (show Two W W.heap.size (W.heap.size + 1) a b _ from by assumption) hb1; clear hb1)
      | (go_at_call 10; refine (HD.out _).mono ?_; rintro e w2 ⟨rfl, hb2⟩; have hT2 := Two.next (show Two W W.heap.size (W.heap.size + 1) a b _ from by assumption) hb2; clear hb2)
      | (go_at_call 11; refine (HS.out _).mono ?_; rintro e w3 ⟨rfl, hb3⟩; have hT3 := Two.next (show Two W W.heap.size (W.heap.size + 1) a b _ from by assumption) hb3; clear hb3)
      | (go_at_call 12; refine (HT.out _).mono ?_; rintro e w4 ⟨rfl, hb4⟩; have hT4 := Two.next (show Two W W.heap.size (W.heap.size + 1) a b _ from by assumption) hb4; clear hb4)
      | (go_at_call 13; refine (HV.out _).mono ?_; rintro e w5 ⟨rfl, hb5⟩; have hT5 := Two.next (show Two W W.heap.size (W.heap.size + 1) a b _ from by assumption) hb5; clear hb5)
      | (go_at_call 14; refine (HU.out _).mono ?_; rintro e w6 ⟨rfl, hb6⟩; have hT6 := Two.next (show Two W W.heap.size (W.heap.size + 1) a b _ from by assumption) hb6; clear hb6)
      | (go_at_call 15; refine (works _).mono ?_; rintro e w7 ⟨rfl, hb7⟩; have hT7 := Two.next (show Two W W.heap.size (W.heap.size + 1) a b _ from by assumption) hb7; clear hb7))
  all_goals
    go_wp2
    go_ret
    exact ⟨rfl, hT7.low⟩
end Go.Proofs.Ytpaanlamjncajaa
