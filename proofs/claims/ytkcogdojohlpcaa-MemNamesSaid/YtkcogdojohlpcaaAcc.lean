/-
  The program's memory: Len, Count, the check, access.
-/
import Derived.Test.YtkcogdojohlpcaaNew
set_option linter.unusedVariables false
set_option linter.unusedSimpArgs false
namespace Go.Proofs.Ytkcogdojohlpcaa
open Go Go.RowKit

set_option maxHeartbeats 1000000 in
theorem cLen {w : World} {a b k n c : Nat} {F : Nat → Int} (h : MemAt w a b k n F c) :
    Calls Try.prog 14 #[.pointer (some ⟨a, 0, none⟩)] w fun e w' => e = .returned (.int .i64 n) ∧ w' = w := by
  obtain ⟨c0, c1, c2, f1, k0⟩ := h.cells
  have h1 := h.n2
  clear h
  go_enter Try.func14, Try.ntmps14
  go_wp2
  go_ret
  exact ⟨rfl, rfl⟩
set_option maxHeartbeats 1000000 in
theorem cCount {w : World} {a b k n c : Nat} {F : Nat → Int} (h : MemAt w a b k n F c) :
    Calls Try.prog 12 #[.pointer (some ⟨a, 0, none⟩)] w fun e w' => e = .returned (.int .i64 c) ∧ w' = w := by
  obtain ⟨c0, c1, c2, f1, k0⟩ := h.cells
  clear h
  go_enter Try.func12, Try.ntmps12
  go_wp2
  go_ret
  exact ⟨rfl, rfl⟩
set_option maxHeartbeats 1000000 in
theorem rCount {w : World} {a b n c : Nat} {F : Nat → Int} (h : RefAt w a b n F c) :
    Calls Try.prog 13 #[.pointer (some ⟨a, 0, none⟩)] w fun e w' => e = .returned (.int .i64 c) ∧ w' = w := by
  obtain ⟨c0, c1, f1⟩ := h.cells
  clear h
  go_enter Try.func13, Try.ntmps13
  go_wp2
  go_ret
  exact ⟨rfl, rfl⟩

/-- what is asked of an index: so many words from it on are there -/
def okAt (n : Nat) (i : Int) (m : Nat) : Bool := decide (0 ≤ i) && decide (i ≤ (n : Int) - m)
set_option maxHeartbeats 1000000 in
theorem cExist (w : World) (k n m : Nat) (i : Int) (q : Bool) (hq : okAt n i m = q) (hk : w.cell? ⟨k, 0, none⟩ = some (.int .i64 n)) (hn : n ≤ 4096) (hm : m ≤ 2) :
    Calls Try.prog 24 #[.int .i64 i, .int .i64 m, .pointer (some ⟨k, 0, none⟩)] w fun e w' => e = .returned (.bool q) ∧ w' = w := by
  by_cases h0 : i < 0
  · have HQ : Hid (false = q) := Lib.hid (by rw [← hq, okAt, decide_eq_false (show ¬ 0 ≤ i by omega), Bool.false_and])
    clear hq
    go_enter Try.func24, Try.ntmps24
    go_wp2
    go_ret
    exact ⟨ret_bool HQ.out, rfl⟩
  · have HQ : Hid (decide (i ≤ (n : Int) - m) = q) := Lib.hid (by rw [← hq, okAt, decide_eq_true (show 0 ≤ i by omega), Bool.true_and])
    clear hq
    have h1 : 0 ≤ i := by omega
    clear h0
    go_enter Try.func24, Try.ntmps24
    go_wp2
    go_ret
    exact ⟨ret_bool HQ.out, rfl⟩

set_option maxHeartbeats 1000000 in
set_option maxRecDepth 100000 in
theorem cAccBad {w : World} {a b k n c : Nat} {F : Nat → Int} (h : MemAt w a b k n F c) (i : Int) (m : Nat) (hm : m ≤ 2) (hi : okAt n i m = false) :
    Calls Try.prog 31 #[.pointer (some ⟨a, 0, none⟩), .int .i64 i, .int .i64 m] w fun e w' => e = .returned (.tuple #[.slice none 0 0, .int .i64 9]) ∧ w' = w := by
  obtain ⟨c0, c1, c2, f1, k0⟩ := h.cells
  have h1 := h.n1
  have h2 := h.n2
  have HI := Lib.hid hi
  clear hi
  go_enter Try.func31, Try.ntmps31
  go_wp2_with fail
  refine (cLen h).mono ?_
  rintro e w1 ⟨rfl, rfl⟩
  go_wp2_with fail
  refine (cExist _ k n m i false HI.out k0 h2 hm).mono ?_
  rintro e w1 ⟨rfl, rfl⟩
  go_wp2
  go_ret2
  exact ⟨rfl, rfl⟩
set_option maxHeartbeats 1000000 in
set_option maxRecDepth 100000 in
theorem cAcc {w : World} {a b k n c : Nat} {F : Nat → Int} (h : MemAt w a b k n F c) (i m : Nat) (hm1 : 1 ≤ m) (hm : m ≤ 2) (hi : i + m ≤ n) (hc : c ≤ 1000000) :
    Calls Try.prog 31 #[.pointer (some ⟨a, 0, none⟩), .int .i64 i, .int .i64 m] w fun e w' => e = .returned (.tuple #[.slice (some ⟨b, i, none⟩) m (n - i), .int .i64 0]) ∧ w' = w.setCell ⟨a, 1, none⟩ (.int .i64 ((c + 1 : Nat) : Int)) := by
  obtain ⟨c0, c1, c2, f1, k0⟩ := h.cells
  have h1 := h.n1
  have h2 := h.n2
  have HI : Hid (okAt n i m = true) := Lib.hid (by simp [okAt]; omega)
  go_enter Try.func31, Try.ntmps31
  go_wp2_with fail
  refine (cLen h).mono ?_
  rintro e w1 ⟨rfl, rfl⟩
  go_wp2_with fail
  refine (cExist _ k n m i true HI.out k0 h2 hm).mono ?_
  rintro e w1 ⟨rfl, rfl⟩
  go_wp2
  go_ret2
  refine ⟨?_, rfl⟩
  show Ending.returned (.tuple #[.slice (some ⟨b, i, none⟩) (i + m - i) (n - i), .int .i64 0]) = _
  rw [Nat.add_sub_cancel_left]
end Go.Proofs.Ytkcogdojohlpcaa
