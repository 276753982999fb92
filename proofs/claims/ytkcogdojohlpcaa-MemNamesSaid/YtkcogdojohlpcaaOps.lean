/-
  The program's accesses: Load, Store, Cas, Cas2, Add.
-/
import Derived.Test.YtkcogdojohlpcaaAcc
import Derived.Laws.StructEq
set_option linter.unusedVariables false
set_option linter.unusedSimpArgs false
namespace Go.Proofs.Ytkcogdojohlpcaa
open Go Go.RowKit

theorem fieldsP : Try.prog.underlying 60 = some (.struct (Try.prog.fieldsOf 60)) := by kernel_rfl
theorem heldP : Try.prog.stoodInHeld 60 = false := by kernel_rfl
theorem guardP : Try.prog.eqGuardType Try.prog.depth 60 = false := by kernel_rfl
theorem fieldsOfP : Try.prog.fieldsOf 60 = #[⟨"first", 32, 0, false, "", "wainscot/mem", 0⟩, ⟨"second", 32, 1, false, "", "wainscot/mem", 8⟩] := by kernel_rfl
theorem eqinP {w : World} {x y x' y' : Int} : (Op.equalIn 10000 60 (.agg #[.int .u64 x, .int .u64 y]) (.agg #[.int .u64 x', .int .u64 y'])).run Try.prog w = .ok (decide (x = x') && decide (y = y')) w := by
  rw [show (10000 : Nat) = 9999 + 1 from rfl, run_equalIn_agg _ _ _ _ _ fieldsP heldP, fieldsOfP]
  have e0 : ∀ x y w, (Op.equalIn 9999 32 (.int .u64 x) (.int .u64 y)).run Try.prog w = .ok (x == y) w := fun x y w => run_equalIn_int w 9998 32 .u64 .u64 x y Try.underlying32
  simp [Op.eqFields, go_sem, e0, part]
  by_cases h1 : x = x' <;> by_cases h2 : y = y' <;> simp [h1, h2]

theorem cAccM {w : World} {a b k n c : Nat} {F : Nat → Int} (h : MemAt w a b k n F c) (i m : Nat) (hm1 : 1 ≤ m) (hm : m ≤ 2) (hi : i + m ≤ n) (hc : c ≤ 1000000) :
    Calls Try.prog 31 #[.pointer (some ⟨a, 0, none⟩), .int .i64 i, .int .i64 m] w fun e w' => e = .returned (.tuple #[.slice (some ⟨b, i, none⟩) m (n - i), .int .i64 0]) ∧ Hid (w' = w.setCell ⟨a, 1, none⟩ (.int .i64 ((c + 1 : Nat) : Int))) ∧ MemAt w' a b k n F (c + 1) := by
  refine (cAcc h i m hm1 hm hi hc).mono ?_
  rintro e w' ⟨he, rfl⟩
  exact ⟨he, Lib.hid rfl, h.count (c + 1)⟩

section
variable {w : World} {a b k n c : Nat} {F : Nat → Int}
set_option maxHeartbeats 1000000 in
theorem cLoadBad (h : MemAt w a b k n F c) (i : Int) (hi : okAt n i 1 = false) :
    Calls Try.prog 20 #[.pointer (some ⟨a, 0, none⟩), .int .i64 i] w fun e w' => e = .returned (.tuple #[.int .u64 0, .int .i64 9]) ∧ w' = w := by
  have HI := Lib.hid hi
  clear hi
  go_enter Try.func20, Try.ntmps20
  go_wp2_with fail
  refine (cAccBad h i 1 (by decide) HI.out).mono ?_
  rintro e w1 ⟨rfl, rfl⟩
  go_wp2
  go_ret2
  exact ⟨rfl, rfl⟩
set_option maxHeartbeats 1000000 in
theorem cLoad (h : MemAt w a b k n F c) (i : Nat) (hi : i < n) (hc : c ≤ 1000000) :
    Calls Try.prog 20 #[.pointer (some ⟨a, 0, none⟩), .int .i64 i] w fun e w' => e = .returned (.tuple #[.int .u64 (F i), .int .i64 0]) ∧ w' = w.setCell ⟨a, 1, none⟩ (.int .i64 ((c + 1 : Nat) : Int)) := by
  go_enter Try.func20, Try.ntmps20
  go_wp2_with fail
  refine (cAccM h i 1 (by decide) (by decide) (by omega) hc).mono ?_
  rintro e w1 ⟨rfl, HW, hm⟩
  obtain ⟨d0, g0⟩ := hm.word hi
  go_wp2
  go_ret2
  exact ⟨rfl, by rw [← HW.out]⟩
set_option maxHeartbeats 1000000 in
theorem cStoreBad (h : MemAt w a b k n F c) (i v : Int) (hi : okAt n i 1 = false) :
    Calls Try.prog 21 #[.pointer (some ⟨a, 0, none⟩), .int .i64 i, .int .u64 v] w fun e w' => e = .returned (.int .i64 9) ∧ w' = w := by
  have HI := Lib.hid hi
  clear hi
  go_enter Try.func21, Try.ntmps21
  go_wp2_with fail
  refine (cAccBad h i 1 (by decide) HI.out).mono ?_
  rintro e w1 ⟨rfl, rfl⟩
  go_wp2
  go_ret
  exact ⟨rfl, rfl⟩
set_option maxHeartbeats 1000000 in
theorem cStore (h : MemAt w a b k n F c) (i : Nat) (v : Int) (hi : i < n) (hc : c ≤ 1000000) :
    Calls Try.prog 21 #[.pointer (some ⟨a, 0, none⟩), .int .i64 i, .int .u64 v] w fun e w' => e = .returned (.int .i64 0) ∧ w' = (w.setCell ⟨a, 1, none⟩ (.int .i64 ((c + 1 : Nat) : Int))).setCell ⟨b, i, none⟩ (.int .u64 v) := by
  go_enter Try.func21, Try.ntmps21
  go_wp2_with fail
  refine (cAccM h i 1 (by decide) (by decide) (by omega) hc).mono ?_
  rintro e w1 ⟨rfl, HW, hm⟩
  obtain ⟨d0, g0⟩ := hm.word hi
  go_wp2
  go_ret
  exact ⟨rfl, by rw [← HW.out]⟩
set_option maxHeartbeats 1000000 in
theorem cAddBad (h : MemAt w a b k n F c) (i v : Int) (hi : okAt n i 1 = false) :
    Calls Try.prog 19 #[.pointer (some ⟨a, 0, none⟩), .int .i64 i, .int .u64 v] w fun e w' => e = .returned (.tuple #[.int .u64 0, .int .i64 9]) ∧ w' = w := by
  have HI := Lib.hid hi
  clear hi
  go_enter Try.func19, Try.ntmps19
  go_wp2_with fail
  refine (cAccBad h i 1 (by decide) HI.out).mono ?_
  rintro e w1 ⟨rfl, rfl⟩
  go_wp2
  go_ret2
  exact ⟨rfl, rfl⟩
set_option maxHeartbeats 1000000 in
theorem cAdd (h : MemAt w a b k n F c) (i : Nat) (v : Int) (hi : i < n) (hc : c ≤ 1000000) :
    Calls Try.prog 19 #[.pointer (some ⟨a, 0, none⟩), .int .i64 i, .int .u64 v] w fun e w' => e = .returned (.tuple #[.int .u64 (F i), .int .i64 0]) ∧ w' = (w.setCell ⟨a, 1, none⟩ (.int .i64 ((c + 1 : Nat) : Int))).setCell ⟨b, i, none⟩ (.int .u64 (IntKind.u64.wrap (F i + v))) := by
  go_enter Try.func19, Try.ntmps19
  go_wp2_with fail
  refine (cAccM h i 1 (by decide) (by decide) (by omega) hc).mono ?_
  rintro e w1 ⟨rfl, HW, hm⟩
  obtain ⟨d0, g0⟩ := hm.word hi
  go_wp2
  go_ret2
  exact ⟨rfl, by rw [← HW.out]⟩
set_option maxHeartbeats 1000000 in
theorem cCasBad (h : MemAt w a b k n F c) (i old to : Int) (hi : okAt n i 1 = false) :
    Calls Try.prog 23 #[.pointer (some ⟨a, 0, none⟩), .int .i64 i, .int .u64 old, .int .u64 to] w fun e w' => e = .returned (.tuple #[.bool false, .int .i64 9]) ∧ w' = w := by
  have HI := Lib.hid hi
  clear hi
  go_enter Try.func23, Try.ntmps23
  go_wp2_with fail
  refine (cAccBad h i 1 (by decide) HI.out).mono ?_
  rintro e w1 ⟨rfl, rfl⟩
  go_wp2
  go_ret2
  exact ⟨rfl, rfl⟩
set_option maxHeartbeats 1000000 in
theorem cCasYes (h : MemAt w a b k n F c) (i : Nat) (old to : Int) (hi : i < n) (hc : c ≤ 1000000) (ho : F i = old) :
    Calls Try.prog 23 #[.pointer (some ⟨a, 0, none⟩), .int .i64 i, .int .u64 old, .int .u64 to] w fun e w' => e = .returned (.tuple #[.bool true, .int .i64 0]) ∧ w' = (w.setCell ⟨a, 1, none⟩ (.int .i64 ((c + 1 : Nat) : Int))).setCell ⟨b, i, none⟩ (.int .u64 to) := by
  subst ho
  go_enter Try.func23, Try.ntmps23
  go_wp2_with fail
  refine (cAccM h i 1 (by decide) (by decide) (by omega) hc).mono ?_
  rintro e w1 ⟨rfl, HW, hm⟩
  obtain ⟨d0, g0⟩ := hm.word hi
  go_wp2
  go_ret2
  exact ⟨rfl, by rw [← HW.out]⟩
set_option maxHeartbeats 1000000 in
theorem cCasNo (h : MemAt w a b k n F c) (i : Nat) (old to : Int) (hi : i < n) (hc : c ≤ 1000000) (ho : F i ≠ old) :
    Calls Try.prog 23 #[.pointer (some ⟨a, 0, none⟩), .int .i64 i, .int .u64 old, .int .u64 to] w fun e w' => e = .returned (.tuple #[.bool false, .int .i64 0]) ∧ w' = w.setCell ⟨a, 1, none⟩ (.int .i64 ((c + 1 : Nat) : Int)) := by
  have hne : (F i != old) = true := by simpa using ho
  go_enter Try.func23, Try.ntmps23
  go_wp2_with fail
  refine (cAccM h i 1 (by decide) (by decide) (by omega) hc).mono ?_
  rintro e w1 ⟨rfl, HW, hm⟩
  obtain ⟨d0, g0⟩ := hm.word hi
  go_wp2
  go_ret2
  exact ⟨rfl, by rw [← HW.out]⟩
end
end Go.Proofs.Ytkcogdojohlpcaa
