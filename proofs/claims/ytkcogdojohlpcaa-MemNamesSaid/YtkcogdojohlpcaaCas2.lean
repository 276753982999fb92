/-
  The program's Cas2: two words that are compared as one struct.
-/
import Derived.Test.YtkcogdojohlpcaaOps
set_option linter.unusedVariables false
set_option linter.unusedSimpArgs false
namespace Go.Proofs.Ytkcogdojohlpcaa
open Go Go.RowKit

section
variable {w : World} {a b k n c : Nat} {F : Nat → Int}
set_option maxHeartbeats 1000000 in
theorem cCas2Bad (h : MemAt w a b k n F c) (i old second to other : Int) (hi : okAt n i 2 = false) :
    Calls Try.prog 22 #[.pointer (some ⟨a, 0, none⟩), .int .i64 i, .int .u64 old, .int .u64 second, .int .u64 to, .int .u64 other] w fun e w' => e = .returned (.tuple #[.bool false, .int .i64 9]) ∧ Kept (fun _ => False) w w' := by
  have HI := Lib.hid hi
  clear hi
  go_enter Try.func22, Try.ntmps22
  go_wp2_with fail
  refine (cAccBad h i 2 (by decide) HI.out).mono ?_
  rintro e w1 ⟨rfl, rfl⟩
  go_wp2
  go_quiet (fail)
  go_wp2
  go_ret2
  exact ⟨rfl, (Kept.refl _ _).drewN _⟩
set_option maxHeartbeats 1000000 in
theorem cCas2Yes (h : MemAt w a b k n F c) (i : Nat) (old second to other : Int) (hi : i + 1 < n) (hc : c ≤ 1000000) (ho : F i = old) (ho2 : F (i + 1) = second) :
    Calls Try.prog 22 #[.pointer (some ⟨a, 0, none⟩), .int .i64 i, .int .u64 old, .int .u64 second, .int .u64 to, .int .u64 other] w fun e w' => e = .returned (.tuple #[.bool true, .int .i64 0]) ∧ MemAt w' a b k n (fun j => if j = i + 1 then other else if j = i then to else F j) (c + 1) ∧ Kept (fun x => x = a ∨ x = b) w w' := by
  have heq : ∀ w', (Op.equalIn 10000 60 (.agg #[.int .u64 (F i), .int .u64 (F (i + 1))]) (.agg #[.int .u64 old, .int .u64 second])).run Try.prog w' = .ok true w' := fun w' => by rw [eqinP, ho, ho2]; simp
  have hgd := guardP
  clear ho ho2
  go_enter Try.func22, Try.ntmps22
  go_wp2_with fail
  refine (cAccM h i 2 (by decide) (by decide) (by omega) hc).mono ?_
  rintro e w1 ⟨rfl, HW, hm⟩
  obtain ⟨d0, g0⟩ := hm.word (show i < n by omega)
  obtain ⟨d1, g1⟩ := hm.word hi
  have hK : Kept (fun x => x = a ∨ x = b) w w1 := by rw [HW.out]; exact (Kept.refl _ _).setCell (.inl rfl) _
  have HM := Lib.hid hm
  clear hm
  go_wp2
  go_quiet (fail)
  go_wp2
  go_ret2
  exact ⟨rfl, ((HM.out.drewN _).store i to).store (i + 1) other, ((hK.drewN _).setCell (.inr rfl) _).setCell (.inr rfl) _⟩
set_option maxHeartbeats 1000000 in
theorem cCas2No (h : MemAt w a b k n F c) (i : Nat) (old second to other : Int) (hi : i + 1 < n) (hc : c ≤ 1000000) (ho : ¬ (F i = old ∧ F (i + 1) = second)) :
    Calls Try.prog 22 #[.pointer (some ⟨a, 0, none⟩), .int .i64 i, .int .u64 old, .int .u64 second, .int .u64 to, .int .u64 other] w fun e w' => e = .returned (.tuple #[.bool false, .int .i64 0]) ∧ MemAt w' a b k n F (c + 1) ∧ Kept (fun x => x = a ∨ x = b) w w' := by
  have heq : ∀ w', (Op.equalIn 10000 60 (.agg #[.int .u64 (F i), .int .u64 (F (i + 1))]) (.agg #[.int .u64 old, .int .u64 second])).run Try.prog w' = .ok false w' := fun w' => by
    rw [eqinP]
    by_cases h1 : F i = old
    · rw [decide_eq_false (show ¬ F (i + 1) = second from fun h2 => ho ⟨h1, h2⟩), Bool.and_false]
    · rw [decide_eq_false h1, Bool.false_and]
  have hgd := guardP
  clear ho
  go_enter Try.func22, Try.ntmps22
  go_wp2_with fail
  refine (cAccM h i 2 (by decide) (by decide) (by omega) hc).mono ?_
  rintro e w1 ⟨rfl, HW, hm⟩
  obtain ⟨d0, g0⟩ := hm.word (show i < n by omega)
  obtain ⟨d1, g1⟩ := hm.word hi
  have hK : Kept (fun x => x = a ∨ x = b) w w1 := by rw [HW.out]; exact (Kept.refl _ _).setCell (.inl rfl) _
  have HM := Lib.hid hm
  clear hm
  go_wp2
  go_quiet (fail)
  go_wp2
  go_ret2
  exact ⟨rfl, HM.out.drewN _, hK.drewN _⟩
end
end Go.Proofs.Ytkcogdojohlpcaa
