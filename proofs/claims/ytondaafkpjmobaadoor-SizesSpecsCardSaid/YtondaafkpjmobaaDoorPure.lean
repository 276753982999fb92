/-
  Sizes and classes as functions of numbers.
-/
import Derived.Test.YtondaafkpjmobaaDoorBase
set_option linter.unusedVariables false
set_option linter.unusedSimpArgs false
namespace Go.Proofs.YtondaafkpjmobaaDoor
open Go Go.RowKit

def szL : List Int := [8, 16, 32, 48, 64, 96, 128, 192, 256, 512]
/-- the size of a class -/
def sz (k : Nat) : Int := pk szL k
/-- the first class with room for n, 10 where none has -/
def clN (n : Int) : Nat :=
  if n ≤ 8 then 0 else if n ≤ 16 then 1 else if n ≤ 32 then 2 else if n ≤ 48 then 3 else if n ≤ 64 then 4 else if n ≤ 96 then 5 else if n ≤ 128 then 6 else if n ≤ 192 then 7 else if n ≤ 256 then 8 else if n ≤ 512 then 9 else 10
theorem ten {k : Nat} (h : k < 10) : k = 0 ∨ k = 1 ∨ k = 2 ∨ k = 3 ∨ k = 4 ∨ k = 5 ∨ k = 6 ∨ k = 7 ∨ k = 8 ∨ k = 9 := by omega
theorem sz_range {k : Nat} (h : k < 10) : 8 ≤ sz k ∧ sz k ≤ 512 := by
  rcases ten h with rfl | rfl | rfl | rfl | rfl | rfl | rfl | rfl | rfl | rfl <;> decide
theorem clN_iff (n : Int) :
    (8 < n ↔ 0 < clN n) ∧ (16 < n ↔ 1 < clN n) ∧ (32 < n ↔ 2 < clN n) ∧ (48 < n ↔ 3 < clN n) ∧ (64 < n ↔ 4 < clN n) ∧ (96 < n ↔ 5 < clN n) ∧ (128 < n ↔ 6 < clN n) ∧ (192 < n ↔ 7 < clN n) ∧ (256 < n ↔ 8 < clN n) ∧ (512 < n ↔ 9 < clN n) ∧ clN n ≤ 10 := by
  unfold clN
  repeat' split
  all_goals omega
theorem clN_le (n : Int) : clN n ≤ 10 := (clN_iff n).2.2.2.2.2.2.2.2.2.2
theorem sz_lt {n : Int} {k : Nat} (h : k < 10) : sz k < n ↔ k < clN n := by
  obtain ⟨h0, h1, h2, h3, h4, h5, h6, h7, h8, h9, _⟩ := clN_iff n
  rcases ten h with rfl | rfl | rfl | rfl | rfl | rfl | rfl | rfl | rfl | rfl
  · exact h0
  · exact h1
  · exact h2
  · exact h3
  · exact h4
  · exact h5
  · exact h6
  · exact h7
  · exact h8
  · exact h9
theorem clN_ten (n : Int) : clN n = 10 ↔ 512 < n := by
  have := clN_iff n
  omega
theorem clN_mono {a b : Int} (h : a ≤ b) : clN a ≤ clN b := by
  have := clN_iff a
  have := clN_iff b
  omega
theorem clN_sz {k : Nat} (h : k < 10) : clN (sz k) = k := by
  rcases ten h with rfl | rfl | rfl | rfl | rfl | rfl | rfl | rfl | rfl | rfl <;> decide
/-- what Class answers -/
def clE (n : Int) : Int := if n < 1 then 2 else if 512 < n then 9 else 0
def clV (n : Int) : Int := if n < 1 ∨ 512 < n then 0 else clN n
theorem cl_low {n : Int} (h : n < 1) : clV n = 0 ∧ clE n = 2 := by
  unfold clV clE
  rw [if_pos (.inl h), if_pos h]
  exact ⟨rfl, rfl⟩
theorem cl_high {n : Int} (h : 512 < n) : clV n = 0 ∧ clE n = 9 := by
  unfold clV clE
  rw [if_pos (.inr h), if_neg (by omega), if_pos h]
  exact ⟨rfl, rfl⟩
theorem cl_in {n : Int} (h : 1 ≤ n) (h2 : n ≤ 512) : clV n = clN n ∧ clE n = 0 := by
  unfold clV clE
  rw [if_neg (by omega), if_neg (by omega), if_neg (by omega)]
  exact ⟨rfl, rfl⟩
theorem clN_lt {n : Int} (h2 : n ≤ 512) : clN n < 10 := by
  have := clN_iff n
  omega
/-- what Size answers -/
def siE (c : Int) : Int := if c < 0 ∨ 10 ≤ c then 9 else 0
def siV (c : Int) : Int := if c < 0 ∨ 10 ≤ c then 0 else sz c.toNat
theorem si_out {c : Int} (h : c < 0 ∨ 10 ≤ c) : siV c = 0 ∧ siE c = 9 := by
  unfold siV siE
  rw [if_pos h, if_pos h]
  exact ⟨rfl, rfl⟩
theorem si_in {k : Nat} (h : k < 10) : siV (k : Int) = sz k ∧ siE (k : Int) = 0 := by
  unfold siV siE
  rw [if_neg (by omega), if_neg (by omega)]
  exact ⟨rfl, rfl⟩
/-- what Waste answers -/
def wst (n : Int) : Int := if n < 1 ∨ 512 < n then 0 else sz (clN n) - n
theorem wst_out {n : Int} (h : n < 1 ∨ 512 < n) : wst n = 0 := by
  unfold wst
  rw [if_pos h]
theorem wst_in {n : Int} (h : 1 ≤ n) (h2 : n ≤ 512) : wst n = sz (clN n) - n := by
  unfold wst
  rw [if_neg (by omega)]
/-- what a cache is asked to be -/
structure Sp where
  size : Int
  align : Int
  flags : Int
deriving DecidableEq
abbrev zS : Sp := ⟨0, 0, 0⟩
def alV (s : Int) : Int := if s % 16 = 0 then 16 else 8
def spV (c : Int) : Sp := if c < 0 ∨ 10 ≤ c then zS else ⟨siV c, alV (siV c), 4⟩
theorem sp_out {c : Int} (h : c < 0 ∨ 10 ≤ c) : spV c = zS := by
  unfold spV
  rw [if_pos h]
theorem sp_in {k : Nat} (h : k < 10) : spV (k : Int) = ⟨sz k, alV (sz k), 4⟩ := by
  unfold spV
  rw [if_neg (by omega), (si_in h).1]
theorem cases_in (c : Int) : (c < 0 ∨ 10 ≤ c) ∨ ∃ k : Nat, c = k ∧ k < 10 := by
  by_cases h : c < 0 ∨ 10 ≤ c
  · exact .inl h
  · exact .inr ⟨c.toNat, by omega, by omega⟩
/-- a class's size is in it, the one ahead is too small; less than half is waste -/
theorem fits {n : Int} (h : 1 ≤ n) (h2 : n ≤ 512) : n ≤ sz (clN n) ∧ (0 < clN n → sz (clN n - 1) < n) ∧ (8 < sz (clN n) → 2 * (sz (clN n) - n) < sz (clN n)) := by
  have hl := clN_lt h2
  have h0 := (sz_lt hl (n := n))
  refine ⟨by omega, fun hp => (sz_lt (by omega)).2 (by omega), fun h8 => ?_⟩
  have hb : 0 < clN n → sz (clN n - 1) < n := fun hp => (sz_lt (by omega)).2 (by omega)
  generalize clN n = k at *
  rcases ten hl with rfl | rfl | rfl | rfl | rfl | rfl | rfl | rfl | rfl | rfl
  · exact absurd h8 (by decide)
  all_goals
    have hb := hb (by omega)
    clear h0 h8
    simp only [sz, pk, szL, List.getD_cons_succ, List.getD_cons_zero] at hb ⊢
    simp at hb ⊢
    omega
end Go.Proofs.YtondaafkpjmobaaDoor
