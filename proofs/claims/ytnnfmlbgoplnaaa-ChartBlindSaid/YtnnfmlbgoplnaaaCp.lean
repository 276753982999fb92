/-
  Counts, heads and parts, and their words, as functions of numbers; what the bits of a word are.
-/
import Derived.Test.YtnnfmlbgoplnaaaLists
import Derived.Laws.BitsAllLaws
set_option linter.unusedVariables false
set_option linter.unusedSimpArgs false
namespace Go.Proofs.Ytnnfmlbgoplnaaa
open Go Go.RowKit

/-- counts: in use, objects, frozen, live -/
structure Ct where
  i : Int
  n : Int
  f : Bool
  l : Bool
deriving DecidableEq
abbrev Ct.agg (c : Ct) : Value := .agg #[.int .i64 c.i, .int .i64 c.n, .bool c.f, .bool c.l]
def zC : Ct := ⟨0, 0, false, false⟩
/-- counts of a slab -/
def ofSlab (c : Ct) : Prop := c.l = true ∧ 1 ≤ c.n ∧ c.n ≤ 16 ∧ 0 ≤ c.i ∧ c.i ≤ c.n
instance (c : Ct) : Decidable (ofSlab c) := by unfold ofSlab; infer_instance
def mayC (c : Ct) : Prop := ofSlab c ∨ c = zC
instance (c : Ct) : Decidable (mayC c) := by unfold mayC; infer_instance
def fW (b : Bool) : Int := if b then 65536 else 0
def lW (b : Bool) : Int := if b then 131072 else 0
def wdC (c : Ct) : Int := c.i + 256 * c.n + fW c.f + lW c.l
def packV (c : Ct) : Int := if mayC c then wdC c else 0
def packE (c : Ct) : Int := if mayC c then 0 else 2
/-- what the bits of a word make -/
def inC (w : Int) : Ct := ⟨w % 256, w / 256 % 256, decide (w / 65536 % 2 = 1), decide (w / 131072 % 2 = 1)⟩
def isC (w : Int) : Prop := mayC (inC w) ∧ wdC (inC w) = w
instance (w : Int) : Decidable (isC w) := by unfold isC; infer_instance
def cntV (w : Int) : Ct := if isC w then inC w else zC
section
variable {c d : Ct} {w : Int}
theorem wd_range (h : mayC c) : 0 ≤ wdC c ∧ wdC c < 262144 := by
  obtain ⟨i, n, f, l⟩ := c
  rcases h with h | h
  · obtain ⟨h1, h2, h3, h4, h5⟩ := h
    dsimp only at h1 h2 h3 h4 h5
    unfold wdC fW lW
    dsimp only
    cases f <;> cases l <;> simp <;> omega
  · rw [h]
    decide
theorem may_range (h : mayC c) : 0 ≤ c.i ∧ c.i ≤ 16 ∧ 0 ≤ c.n ∧ c.n ≤ 16 := by
  rcases h with h | h
  · obtain ⟨h1, h2, h3, h4, h5⟩ := h
    omega
  · rw [h]
    decide
theorem in_wd (h : mayC c) : inC (wdC c) = c := by
  have hr := may_range h
  obtain ⟨i, n, f, l⟩ := c
  dsimp only at hr
  unfold inC wdC fW lW
  dsimp only
  cases f <;> cases l <;> simp <;> omega
theorem wd_is (h : mayC c) : isC (wdC c) := by
  unfold isC
  rw [in_wd h]
  exact ⟨h, rfl⟩
theorem wd_inj (h : mayC c) (h' : mayC d) (e : wdC c = wdC d) : c = d := by rw [← in_wd h, ← in_wd h', e]
theorem cnt_wd (h : mayC c) : cntV (wdC c) = c := by unfold cntV; rw [if_pos (wd_is h), in_wd h]
theorem in0 : inC 0 = zC := by decide
theorem may0 : mayC zC := Or.inr rfl
end
/-- a slab and an object of it -/
def mayH (s o : Int) : Prop := (s = -1 ∧ o = -1) ∨ (0 ≤ s ∧ s < 32 ∧ -1 ≤ o ∧ o < 16)
instance (s o : Int) : Decidable (mayH s o) := by unfold mayH; infer_instance
def wdH (s o : Int) : Int := 64 * (s + 1) + (o + 1)
def headV (s o : Int) : Int := if mayH s o then wdH s o else 0
def headE (s o : Int) : Int := if mayH s o then 0 else 2
def isH (w : Int) : Prop := mayH (w / 64 - 1) (w % 64 - 1)
instance (w : Int) : Decidable (isH w) := by unfold isH; infer_instance
def hS (w : Int) : Int := if isH w then w / 64 - 1 else -1
def hO (w : Int) : Int := if isH w then w % 64 - 1 else -1
/-- a slab, and how many there are from it on -/
def mayP (s m : Int) : Prop := (s = -1 ∧ m = 0) ∨ (0 ≤ s ∧ s < 32 ∧ 1 ≤ m ∧ m ≤ 63)
instance (s m : Int) : Decidable (mayP s m) := by unfold mayP; infer_instance
def wdP (s m : Int) : Int := s + 1 + 64 * m
def partV (s m : Int) : Int := if mayP s m then wdP s m else 0
def partE (s m : Int) : Int := if mayP s m then 0 else 2
def isP (w : Int) : Prop := mayP (w % 64 - 1) (w / 64)
instance (w : Int) : Decidable (isP w) := by unfold isP; infer_instance
def pS (w : Int) : Int := if isP w then w % 64 - 1 else -1
def pM (w : Int) : Int := if isP w then w / 64 else 0
section
variable {s o m w : Int}
theorem wdH_in : wdH (w / 64 - 1) (w % 64 - 1) = w := by unfold wdH; omega
theorem wdP_in : wdP (w % 64 - 1) (w / 64) = w := by unfold wdP; omega
theorem mayH_range (h : mayH s o) : 0 ≤ s + 1 ∧ s + 1 ≤ 32 ∧ 0 ≤ o + 1 ∧ o + 1 ≤ 16 := by unfold mayH at h; omega
theorem mayP_range (h : mayP s m) : 0 ≤ s + 1 ∧ s + 1 ≤ 32 ∧ 0 ≤ m ∧ m ≤ 63 := by unfold mayP at h; omega
theorem wdH_one (h : mayH s o) (e : wdH s o = w) : s = w / 64 - 1 ∧ o = w % 64 - 1 := by
  have := mayH_range h
  unfold wdH at e
  omega
theorem wdP_one (h : mayP s m) (e : wdP s m = w) : s = w % 64 - 1 ∧ m = w / 64 := by
  have := mayP_range h
  unfold wdP at e
  omega
theorem isH_iff (h : mayH s o) (e : wdH s o = w) : isH w ∧ hS w = s ∧ hO w = o := by
  obtain ⟨h1, h2⟩ := wdH_one h e
  have h3 : isH w := by unfold isH; rw [← h1, ← h2]; exact h
  unfold hS hO
  rw [if_pos h3, if_pos h3]
  exact ⟨h3, h1.symm, h2.symm⟩
/-- the word of what a word says -/
theorem headOf_back (h : isH w) : headV (hS w) (hO w) = w ∧ headE (hS w) (hO w) = 0 := by
  unfold hS hO
  rw [if_pos h, if_pos h]
  unfold headV headE
  have h' : mayH (w / 64 - 1) (w % 64 - 1) := h
  rw [if_pos h', if_pos h']
  exact ⟨wdH_in, rfl⟩
theorem partOf_back (h : isP w) : partV (pS w) (pM w) = w ∧ partE (pS w) (pM w) = 0 := by
  unfold pS pM
  rw [if_pos h, if_pos h]
  unfold partV partE
  have h' : mayP (w % 64 - 1) (w / 64) := h
  rw [if_pos h', if_pos h']
  exact ⟨wdP_in, rfl⟩
end
/-! bits -/
section
variable {x : Int}
theorem and255 (h : okW x) : Go.bits .and .u64 x 255 = x % 256 := by
  obtain ⟨n, rfl⟩ : ∃ n : Nat, x = n := ⟨x.toNat, by have := h.1; omega⟩
  rw [show (255 : Int) = ((255 : Nat) : Int) from rfl, u64_and_nat _ _ (by have := h.2; omega) (by decide), show (255 : Nat) = 2 ^ 8 - 1 from rfl, Nat.and_two_pow_sub_one_eq_mod]
  omega
theorem and63 (h : okW x) : Go.bits .and .u64 x 63 = x % 64 := by
  obtain ⟨n, rfl⟩ : ∃ n : Nat, x = n := ⟨x.toNat, by have := h.1; omega⟩
  rw [show (63 : Int) = ((63 : Nat) : Int) from rfl, u64_and_nat _ _ (by have := h.2; omega) (by decide), show (63 : Nat) = 2 ^ 6 - 1 from rfl, Nat.and_two_pow_sub_one_eq_mod]
  omega
theorem nat_and_pow (n k : Nat) : n &&& 2 ^ k = if n / 2 ^ k % 2 = 1 then 2 ^ k else 0 := by
  apply Nat.eq_of_testBit_eq
  intro j
  rw [Nat.testBit_and, Nat.testBit_two_pow]
  by_cases hj : k = j
  · subst hj
    have h1 := Nat.testBit_eq_decide_div_mod_eq (x := n) (i := k)
    by_cases hb : n / 2 ^ k % 2 = 1
    · simp [h1, hb]
    · simp [h1, hb]
  · have h0 : (k == j) = false := by simp [hj]
    split
    · simp [Nat.testBit_two_pow, hj]
    · simp [hj]
theorem and_bit (h : okW x) (k : Nat) (hk : k < 64) : (Go.bits .and .u64 x ((2 ^ k : Nat) : Int) != 0) = decide (x / ((2 ^ k : Nat) : Int) % 2 = 1) := by
  obtain ⟨n, rfl⟩ : ∃ n : Nat, x = n := ⟨x.toNat, by have := h.1; omega⟩
  have h2 : 2 ^ k < 18446744073709551616 := by rw [show (18446744073709551616 : Nat) = 2 ^ 64 from rfl]; exact Nat.pow_lt_pow_right (by decide) hk
  rw [u64_and_nat _ _ (by have := h.2; omega) h2, nat_and_pow]
  have h3 : ((n : Int) / ((2 ^ k : Nat) : Int) % 2 = 1) ↔ n / 2 ^ k % 2 = 1 := by
    rw [← Int.natCast_ediv]
    omega
  rw [decide_eq_decide.2 h3]
  have h4 : 0 < 2 ^ k := Nat.pow_pos (by decide)
  by_cases hb : n / 2 ^ k % 2 = 1
  · rw [if_pos hb, decide_eq_true hb]
    have : ((2 ^ k : Nat) : Int) ≠ 0 := by omega
    simpa using this
  · rw [if_neg hb, decide_eq_false hb]
    rfl
theorem and65536 (h : okW x) : (Go.bits .and .u64 x 65536 != 0) = decide (x / 65536 % 2 = 1) := and_bit h 16 (by decide)
theorem and131072 (h : okW x) : (Go.bits .and .u64 x 131072 != 0) = decide (x / 131072 % 2 = 1) := and_bit h 17 (by decide)
/-- two numbers in one word -/
theorem or_low (a b : Nat) (k : Nat) (hb : b < 2 ^ k) : a * 2 ^ k ||| b = a * 2 ^ k + b := by
  rw [Nat.mul_comm, ← Nat.two_pow_add_eq_or_of_lt hb]
theorem or64 {a b : Int} (ha : 0 ≤ a ∧ a ≤ 1000) (hb : 0 ≤ b ∧ b < 64) : Go.bits .or .u64 (a * 64) b = 64 * a + b := by
  obtain ⟨m, rfl⟩ : ∃ m : Nat, a = m := ⟨a.toNat, by omega⟩
  obtain ⟨n, rfl⟩ : ∃ n : Nat, b = n := ⟨b.toNat, by omega⟩
  have h := or_low m n 6 (by omega)
  rw [show ((m : Int) * 64) = ((m * 64 : Nat) : Int) by omega, u64_or_nat _ _ (by omega) (by omega)]
  rw [show (2 ^ 6 : Nat) = 64 from rfl] at h
  rw [h]
  omega
theorem or256 {a b : Int} (ha : 0 ≤ a ∧ a ≤ 16) (hb : 0 ≤ b ∧ b ≤ 16) : Go.bits .or .u64 b (a * 256) = b + 256 * a := by
  obtain ⟨m, rfl⟩ : ∃ m : Nat, a = m := ⟨a.toNat, by omega⟩
  obtain ⟨n, rfl⟩ : ∃ n : Nat, b = n := ⟨b.toNat, by omega⟩
  have h := or_low m n 8 (by omega)
  rw [show ((m : Int) * 256) = ((m * 256 : Nat) : Int) by omega, u64_or_nat _ _ (by omega) (by omega), Nat.or_comm]
  rw [show (2 ^ 8 : Nat) = 256 from rfl] at h
  rw [h]
  omega
theorem or16 {x : Int} (h : 0 ≤ x ∧ x < 65536) : Go.bits .or .u64 x 65536 = x + 65536 := by
  obtain ⟨n, rfl⟩ : ∃ n : Nat, x = n := ⟨x.toNat, by omega⟩
  have h1 := or_low 1 n 16 (by omega)
  rw [show (65536 : Int) = ((65536 : Nat) : Int) from rfl, u64_or_nat _ _ (by omega) (by omega), Nat.or_comm]
  rw [show (1 * 2 ^ 16 : Nat) = 65536 from rfl] at h1
  rw [h1]
  omega
theorem or17 {x : Int} (h : 0 ≤ x ∧ x < 131072) : Go.bits .or .u64 x 131072 = x + 131072 := by
  obtain ⟨n, rfl⟩ : ∃ n : Nat, x = n := ⟨x.toNat, by omega⟩
  have h1 := or_low 1 n 17 (by omega)
  rw [show (131072 : Int) = ((131072 : Nat) : Int) from rfl, u64_or_nat _ _ (by omega) (by omega), Nat.or_comm]
  rw [show (1 * 2 ^ 17 : Nat) = 131072 from rfl] at h1
  rw [h1]
  omega
end
theorem bit_one : Go.bits .and .u64 65536 65535 = 0 := by decide +kernel
theorem xor_frozen (i n : Nat) (hi : i < 17) (hn : n < 17) (f : Bool) : Go.bits .xor .u64 (wdC ⟨i, n, f, true⟩) (wdC ⟨i, n, !f, true⟩) = 65536 := by
  have h : ∀ (i : Fin 17) (n : Fin 17) (f : Bool), Go.bits .xor .u64 (wdC ⟨(i.val : Int), (n.val : Int), f, true⟩) (wdC ⟨(i.val : Int), (n.val : Int), !f, true⟩) = 65536 := by decide +kernel
  exact h ⟨i, hi⟩ ⟨n, hn⟩ f
end Go.Proofs.Ytnnfmlbgoplnaaa
