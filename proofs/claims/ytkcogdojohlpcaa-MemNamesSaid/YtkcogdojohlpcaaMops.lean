/-
  The program's accesses, said of memories (what they leave); a memory of two words.
-/
import Derived.Test.YtkcogdojohlpcaaCas2
import Derived.Test.YtkcogdojohlpcaaWords
set_option linter.unusedVariables false
set_option linter.unusedSimpArgs false
namespace Go.Proofs.Ytkcogdojohlpcaa
open Go Go.RowKit

section
variable {w : World} {a b k n c : Nat} {F : Nat → Int}
theorem mLoad (h : MemAt w a b k n F c) (i : Nat) (hi : i < n) (hc : c ≤ 1000000) {x : Int} (hx : F i = x) :
    Calls Try.prog 20 #[.pointer (some ⟨a, 0, none⟩), .int .i64 i] w fun e w' => e = .returned (.tuple #[.int .u64 x, .int .i64 0]) ∧ MemAt w' a b k n F (c + 1) ∧ Kept (fun x => x = a ∨ x = b) w w' := by
  subst hx
  refine (cLoad h i hi hc).mono ?_
  rintro e w' ⟨he, rfl⟩
  exact ⟨he, h.count _, (Kept.refl _ _).setCell (.inl rfl) _⟩
theorem mStore (h : MemAt w a b k n F c) (i : Nat) (v : Int) (hi : i < n) (hc : c ≤ 1000000) {G : Nat → Int} (hG : ∀ j, j < n → (if j = i then v else F j) = G j) :
    Calls Try.prog 21 #[.pointer (some ⟨a, 0, none⟩), .int .i64 i, .int .u64 v] w fun e w' => e = .returned (.int .i64 0) ∧ MemAt w' a b k n G (c + 1) ∧ Kept (fun x => x = a ∨ x = b) w w' := by
  refine (cStore h i v hi hc).mono ?_
  rintro e w' ⟨he, rfl⟩
  exact ⟨he, ((h.count _).store i v).congr hG, ((Kept.refl _ _).setCell (.inl rfl) _).setCell (.inr rfl) _⟩
theorem mAdd (h : MemAt w a b k n F c) (i : Nat) (v : Int) (hi : i < n) (hc : c ≤ 1000000) {x : Int} (hx : F i = x) {G : Nat → Int} (hG : ∀ j, j < n → (if j = i then (IntKind.u64.wrap (x + v)) else F j) = G j) :
    Calls Try.prog 19 #[.pointer (some ⟨a, 0, none⟩), .int .i64 i, .int .u64 v] w fun e w' => e = .returned (.tuple #[.int .u64 x, .int .i64 0]) ∧ MemAt w' a b k n G (c + 1) ∧ Kept (fun x => x = a ∨ x = b) w w' := by
  subst hx
  refine (cAdd h i v hi hc).mono ?_
  rintro e w' ⟨he, rfl⟩
  exact ⟨he, ((h.count _).store i _).congr hG, ((Kept.refl _ _).setCell (.inl rfl) _).setCell (.inr rfl) _⟩
theorem mCasYes (h : MemAt w a b k n F c) (i : Nat) (old to : Int) (hi : i < n) (hc : c ≤ 1000000) (ho : F i = old) {G : Nat → Int} (hG : ∀ j, j < n → (if j = i then to else F j) = G j) :
    Calls Try.prog 23 #[.pointer (some ⟨a, 0, none⟩), .int .i64 i, .int .u64 old, .int .u64 to] w fun e w' => e = .returned (.tuple #[.bool true, .int .i64 0]) ∧ MemAt w' a b k n G (c + 1) ∧ Kept (fun x => x = a ∨ x = b) w w' := by
  refine (cCasYes h i old to hi hc ho).mono ?_
  rintro e w' ⟨he, rfl⟩
  exact ⟨he, ((h.count _).store i _).congr hG, ((Kept.refl _ _).setCell (.inl rfl) _).setCell (.inr rfl) _⟩
theorem mCasNo (h : MemAt w a b k n F c) (i : Nat) (old to : Int) (hi : i < n) (hc : c ≤ 1000000) (ho : F i ≠ old) :
    Calls Try.prog 23 #[.pointer (some ⟨a, 0, none⟩), .int .i64 i, .int .u64 old, .int .u64 to] w fun e w' => e = .returned (.tuple #[.bool false, .int .i64 0]) ∧ MemAt w' a b k n F (c + 1) ∧ Kept (fun x => x = a ∨ x = b) w w' := by
  refine (cCasNo h i old to hi hc ho).mono ?_
  rintro e w' ⟨he, rfl⟩
  exact ⟨he, h.count _, (Kept.refl _ _).setCell (.inl rfl) _⟩
theorem mCas2Yes (h : MemAt w a b k n F c) (i : Nat) (old second to other : Int) (hi : i + 1 < n) (hc : c ≤ 1000000) (ho : F i = old) (ho2 : F (i + 1) = second) {G : Nat → Int} (hG : ∀ j, j < n → (if j = i + 1 then other else if j = i then to else F j) = G j) :
    Calls Try.prog 22 #[.pointer (some ⟨a, 0, none⟩), .int .i64 i, .int .u64 old, .int .u64 second, .int .u64 to, .int .u64 other] w fun e w' => e = .returned (.tuple #[.bool true, .int .i64 0]) ∧ MemAt w' a b k n G (c + 1) ∧ Kept (fun x => x = a ∨ x = b) w w' := by
  refine (cCas2Yes h i old second to other hi hc ho ho2).mono ?_
  rintro e w' ⟨he, hm, hk⟩
  exact ⟨he, hm.congr hG, hk⟩
theorem mCas2Bad (h : MemAt w a b k n F c) (i old second to other : Int) (hi : okAt n i 2 = false) :
    Calls Try.prog 22 #[.pointer (some ⟨a, 0, none⟩), .int .i64 i, .int .u64 old, .int .u64 second, .int .u64 to, .int .u64 other] w fun e w' => e = .returned (.tuple #[.bool false, .int .i64 9]) ∧ MemAt w' a b k n F c ∧ Kept (fun x => x = a ∨ x = b) w w' := by
  refine (cCas2Bad h i old second to other hi).mono ?_
  rintro e w' ⟨he, hk⟩
  exact ⟨he, h.kept hk id id id, hk.mono (fun _ h => h.elim)⟩
end

/-- two words -/
def two (x y : Int) : Nat → Int := fun i => if i = 0 then x else y
theorem two_0 (x y v : Int) : ∀ j, j < 2 → (if j = 0 then v else two x y j) = two v y j := by
  intro j hj
  by_cases h : j = 0 <;> simp [h, two]
theorem two_1 (x y v : Int) : ∀ j, j < 2 → (if j = 1 then v else two x y j) = two x v j := by
  intro j hj
  have : j = 0 ∨ j = 1 := by omega
  rcases this with rfl | rfl <;> simp [two]
theorem two_2 (x y u v : Int) : ∀ j, j < 2 → (if j = 0 + 1 then v else if j = 0 then u else two x y j) = two u v j := by
  intro j hj
  have : j = 0 ∨ j = 1 := by omega
  rcases this with rfl | rfl <;> simp [two]
theorem two_start : ∀ j, j < 2 → (fun _ => (0 : Int)) j = two 0 0 j := by
  intro j hj
  simp [two]
theorem wl_two (x y : Int) : wl 2 (two x y) = [x, y] := rfl
theorem show_two (w : World) (x y : Int) (n : Nat) (hn : w.heap.size = n) : ShowU (w.alloc (.cells #[.int .u64 x, .int .u64 y] 32)) (.slice (some ⟨n, 0, none⟩) 2 2) [x, y] := by
  subst hn
  exact Shows.ofOwns (World.ownsRow_lit (base := 0) (e := 32) (size := 1) w #[.int .u64 x, .int .u64 y] 2 (Nat.zero_le _) (by decide) rfl)
end Go.Proofs.Ytkcogdojohlpcaa
