/-
  Caches asked for: which are valid, their steps, which serve for which; the first one of a list that serves.
-/
import Derived.Test.YtpaanlamjncajaaBase
set_option linter.unusedVariables false
set_option linter.unusedSimpArgs false
namespace Go.Proofs.Ytpaanlamjncajaa
open Go Go.RowKit

/-- a cache asked for -/
structure Sp where
  size : Int
  align : Int
  flags : Int
  deriving DecidableEq, Inhabited
def zS : Sp := ⟨0, 0, 0⟩
def szB (x : Int) : Bool := decide (1 ≤ x ∧ x ≤ 1024)
def alB (x : Int) : Bool := decide (x = 8 ∨ x = 16 ∨ x = 32 ∨ x = 64)
def flB (x : Int) : Bool := decide (0 ≤ x ∧ x ≤ 7)
def Sp.ok (c : Sp) : Bool := szB c.size && alB c.align && flB c.flags
def Sp.chk (c : Sp) : Int := if c.ok = true then 0 else 2
def upV (n a : Int) : Int := (n + a - 1) / a * a
def Sp.step (c : Sp) : Int := if c.ok = true then upV c.size c.align else 0
/-- a serves for b -/
def srv (a b : Sp) : Bool := decide (a.ok = true ∧ b.ok = true ∧ a.step = b.step ∧ a.flags = 0 ∧ b.flags = 0 ∧ a.align % b.align = 0)
theorem alB_iff {x : Int} : alB x = true ↔ (x = 8 ∨ x = 16 ∨ x = 32 ∨ x = 64) := by simp [alB]
theorem Sp.ok_iff {c : Sp} : c.ok = true ↔ ((1 ≤ c.size ∧ c.size ≤ 1024) ∧ (c.align = 8 ∨ c.align = 16 ∨ c.align = 32 ∨ c.align = 64) ∧ (0 ≤ c.flags ∧ c.flags ≤ 7)) := by
  simp [Sp.ok, szB, alB, flB, and_assoc]
theorem upV_in {n a : Int} (h1 : 1 ≤ n) (h2 : n ≤ 1024) (h : a = 8 ∨ a = 16 ∨ a = 32 ∨ a = 64) : n ≤ upV n a ∧ upV n a < n + a ∧ upV n a % a = 0 ∧ upV n a ≤ 1024 := by
  unfold upV
  rcases h with rfl | rfl | rfl | rfl <;> omega
theorem step_no {c : Sp} (h : c.ok = false) : c.step = 0 := by simp [Sp.step, h]
theorem chk_no {c : Sp} (h : c.ok = false) : c.chk = 2 := by simp [Sp.chk, h]
theorem chk_yes {c : Sp} (h : c.ok = true) : c.chk = 0 := by simp [Sp.chk, h]
theorem step_yes {c : Sp} (h : c.ok = true) : c.step = upV c.size c.align := by simp [Sp.step, h]
theorem step_in {c : Sp} (h : c.ok = true) : c.size ≤ c.step ∧ c.step < c.size + c.align ∧ c.step % c.align = 0 ∧ c.step ≤ 1024 ∧ 1 ≤ c.step := by
  obtain ⟨⟨h1, h2⟩, h3, h4⟩ := Sp.ok_iff.1 h
  rw [step_yes h]
  have := upV_in h1 h2 h3
  omega
theorem srv_iff {a b : Sp} : srv a b = true ↔ (a.ok = true ∧ b.ok = true ∧ a.step = b.step ∧ a.flags = 0 ∧ b.flags = 0 ∧ a.align % b.align = 0) := by simp [srv]
theorem srv_self {a : Sp} (h : a.ok = true) (hf : a.flags = 0) : srv a a = true := srv_iff.2 ⟨h, h, rfl, hf, hf, Int.emod_self⟩
theorem srv_trans {a b c : Sp} (h : srv a b = true) (k : srv b c = true) : srv a c = true := by
  obtain ⟨h1, h2, h3, h4, h5, h6⟩ := srv_iff.1 h
  obtain ⟨k1, k2, k3, k4, k5, k6⟩ := srv_iff.1 k
  exact srv_iff.2 ⟨h1, k2, h3.trans k3, h4, k5, Int.emod_eq_zero_of_dvd (Int.dvd_trans (Int.dvd_of_emod_eq_zero k6) (Int.dvd_of_emod_eq_zero h6))⟩
/-- it has room -/
theorem srv_room {a b : Sp} (h : srv a b = true) : b.size ≤ a.step ∧ a.size ≤ a.step ∧ a.step % b.align = 0 ∧ a.step - a.size < a.align := by
  obtain ⟨h1, h2, h3, _⟩ := srv_iff.1 h
  have h4 := step_in h1
  have h5 := step_in h2
  refine ⟨by omega, h4.1, by rw [h3]; exact h5.2.2.1, by omega⟩
/-- why one does not serve for another one -/
theorem srv_why {a b : Sp} (h : srv a b = false) : a.ok = false ∨ (a.ok = true ∧ b.ok = false) ∨ (a.ok = true ∧ b.ok = true ∧ 0 < a.flags + b.flags) ∨ (a.ok = true ∧ b.ok = true ∧ a.flags + b.flags = 0 ∧ a.step ≠ b.step) ∨
    (a.ok = true ∧ b.ok = true ∧ a.flags + b.flags = 0 ∧ a.step = b.step ∧ a.align < b.align) := by
  cases ha : a.ok with
  | false => exact .inl rfl
  | true =>
    cases hb : b.ok with
    | false => exact .inr (.inl ⟨rfl, rfl⟩)
    | true =>
      obtain ⟨_, a3, a4⟩ := Sp.ok_iff.1 ha
      obtain ⟨_, b3, b4⟩ := Sp.ok_iff.1 hb
      by_cases hf : 0 < a.flags + b.flags
      · exact .inr (.inr (.inl ⟨rfl, rfl, hf⟩))
      · by_cases hs : a.step = b.step
        · refine .inr (.inr (.inr (.inr ⟨rfl, rfl, by omega, hs, ?_⟩)))
          have h2 : ¬ (a.align % b.align = 0) := fun e => by
            rw [srv_iff.2 ⟨ha, hb, hs, by omega, by omega, e⟩] at h
            cases h
          rcases a3 with e | e | e | e <;> rcases b3 with e' | e' | e' | e' <;> rw [e, e'] at h2 ⊢ <;> revert h2 <;> decide
        · exact .inr (.inr (.inr (.inl ⟨rfl, rfl, by omega, hs⟩)))
/-! the first one that serves -/
def sp (l : List Sp) (i : Nat) : Sp := l.getD i zS
theorem sp_at (l : List Sp) (i : Nat) (h : i < l.length) : l[i] = sp l i := by simp [sp, h]
def fst (l : List Sp) (c : Sp) : Nat := l.findIdx (fun s => srv s c)
theorem fst_le (l : List Sp) (c : Sp) : fst l c ≤ l.length := List.findIdx_le_length
theorem fst_at {l : List Sp} {c : Sp} (h : fst l c < l.length) : srv (sp l (fst l c)) c = true := by
  rw [← sp_at l _ h]
  exact List.findIdx_getElem (w := h)
theorem fst_no {l : List Sp} {c : Sp} {i : Nat} (h : i < fst l c) : srv (sp l i) c = false := by
  have hl : i < l.length := Nat.lt_of_lt_of_le h (fst_le l c)
  have := List.not_of_lt_findIdx (p := fun s => srv s c) (xs := l) h
  rw [← sp_at l _ hl]
  simpa using this
/-- the step of a search -/
theorem fst_yes {l : List Sp} {c : Sp} {k : Nat} (hk : k ≤ fst l c) (h : k < l.length) (hs : srv (sp l k) c = true) : fst l c = k := by
  rcases Nat.lt_or_eq_of_le hk with h1 | h1
  · rw [fst_no h1] at hs
    cases hs
  · exact h1.symm
theorem fst_next {l : List Sp} {c : Sp} {k : Nat} (hk : k ≤ fst l c) (h : k < l.length) (hs : srv (sp l k) c = false) : k + 1 ≤ fst l c := by
  rcases Nat.lt_or_eq_of_le hk with h1 | h1
  · exact h1
  · have := fst_at (l := l) (c := c) (by omega)
    rw [← h1, hs] at this
    cases this
def fV (l : List Sp) (c : Sp) : Int := if fst l c < l.length then fst l c else 0
def fB (l : List Sp) (c : Sp) : Bool := decide (fst l c < l.length)
theorem f_in {l : List Sp} {c : Sp} (h : fst l c < l.length) : fV l c = fst l c ∧ fB l c = true := by simp [fV, fB, h]
theorem f_out {l : List Sp} {c : Sp} (h : fst l c = l.length) : fV l c = 0 ∧ fB l c = false := by simp [fV, fB, h]
end Go.Proofs.Ytpaanlamjncajaa
