/-
  How objects lie in a slab, as functions of numbers.
-/
import Derived.Test.YtghmopeaphandaaBase
set_option linter.unusedVariables false
set_option linter.unusedSimpArgs false
namespace Go.Proofs.Ytghmopeaphandaa
open Go Go.RowKit

/-- a layout -/
structure Ly where
  size : Int
  align : Int
  step : Int
  off : Int
  order : Int
  objs : Int
  waste : Int
deriving DecidableEq
def Ly.cells (l : Ly) : List Value := [.int .i64 l.size, .int .i64 l.align, .int .i64 l.step, .int .i64 l.off, .int .i64 l.order, .int .i64 l.objs, .int .i64 l.waste]
abbrev Ly.agg (l : Ly) : Value := .agg #[.int .i64 l.size, .int .i64 l.align, .int .i64 l.step, .int .i64 l.off, .int .i64 l.order, .int .i64 l.objs, .int .i64 l.waste]
def zL : Ly := ⟨0, 0, 0, 0, 0, 0, 0⟩
def okS (s : Int) : Prop := 1 ≤ s ∧ s ≤ 2048
def okA (a : Int) : Prop := a = 1 ∨ a = 2 ∨ a = 4 ∨ a = 8 ∨ a = 16 ∨ a = 32 ∨ a = 64
instance (s : Int) : Decidable (okS s) := by unfold okS; infer_instance
instance (a : Int) : Decidable (okA a) := by unfold okA; infer_instance
/-- rounded up -/
def ru (n u : Int) : Int := (n + u - 1) / u * u
/-- bytes of a slab -/
def sb (k : Nat) : Int := 256 * 2 ^ k
theorem sb0 : sb 0 = 256 := rfl
theorem sb1 : sb 1 = 512 := rfl
theorem sb2 : sb 2 = 1024 := rfl
theorem sb3 : sb 3 = 2048 := rfl
/-- how many objects of a step lie in a slab; its waste -/
def nO (S : Int) (k : Nat) : Int := if 16 < sb k / S then 16 else sb k / S
def wO (S : Int) (k : Nat) : Int := sb k - nO S k * S
def fit (S : Int) (k : Nat) : Prop := 0 < nO S k ∧ wO S k ≤ sb k / 8
instance (S : Int) (k : Nat) : Decidable (fit S k) := by unfold fit; infer_instance
/-- the first one that has an object -/
def fstF (S : Int) : Nat → Option Nat
  | 0 => none
  | n + 1 => match fstF S n with
    | some j => some j
    | none => if 0 < nO S n then some n else none
def slabF (S : Int) : Option Nat := if fit S 0 then some 0 else if fit S 1 then some 1 else if fit S 2 then some 2 else if fit S 3 then some 3 else fstF S 4
def inO (s a S f : Int) (k : Nat) : Ly := ⟨s, a, S, f, k, nO S k, wO S k⟩
def ansL (s a S f : Int) : Option Nat → Ly
  | some k => inO s a S f k
  | none => zL
def ansE : Option Nat → Int
  | some _ => 0
  | none => 150
def offF (a : Int) (g : Bool) : Int := if g then ru 8 a else 0
def behF (g : Bool) : Int := if g then 8 else 0
def stepF (s a : Int) (g : Bool) : Int := ru (offF a g + s + behF g) (if a > 8 then a else 8)
def ofL (s a : Int) (g : Bool) : Ly := if okS s ∧ okA a then ansL s a (stepF s a g) (offF a g) (slabF (stepF s a g)) else zL
def ofE (s a : Int) (g : Bool) : Int := if okS s ∧ okA a then ansE (slabF (stepF s a g)) else 2
/-- what Of returns, guarded or not -/
def isOf (l : Ly) (g : Bool) : Prop := ofE l.size l.align g = 0 ∧ l = ofL l.size l.align g
instance (l : Ly) (g : Bool) : Decidable (isOf l g) := by unfold isOf; infer_instance
def valid (l : Ly) : Prop := isOf l false ∨ isOf l true
instance (l : Ly) : Decidable (valid l) := by unfold valid; infer_instance

section
variable {s a S f : Int} {g : Bool} {k j n : Nat}
theorem sb_range (h : k < 4) : 256 ≤ sb k ∧ sb k ≤ 2048 ∧ sb k % 8 = 0 := by
  rcases (by omega : k = 0 ∨ k = 1 ∨ k = 2 ∨ k = 3) with rfl | rfl | rfl | rfl <;> decide
theorem nO_range (hS : 1 ≤ S) (h : k < 4) : 0 ≤ nO S k ∧ nO S k ≤ 16 ∧ nO S k * S ≤ sb k ∧ 0 ≤ nO S k * S ∧ (0 < nO S k ↔ S ≤ sb k) := by
  have hb := sb_range h
  have h0 : 0 ≤ sb k / S := Int.ediv_nonneg (by omega) (by omega)
  have h1 : 0 ≤ nO S k := by unfold nO; split <;> omega
  have h2 : nO S k ≤ sb k / S := by unfold nO; split <;> omega
  have h3 : sb k / S * S ≤ sb k := Int.ediv_mul_le _ (by omega)
  have h4 : nO S k * S ≤ sb k / S * S := Int.mul_le_mul_of_nonneg_right h2 (by omega)
  refine ⟨h1, by unfold nO; split <;> omega, by omega, Int.mul_nonneg h1 (by omega), ?_⟩
  constructor
  · intro h5
    have h6 : 1 * S ≤ nO S k * S := Int.mul_le_mul_of_nonneg_right (by omega) (by omega)
    omega
  · intro h5
    have h6 : 1 ≤ sb k / S := (Int.le_ediv_iff_mul_le (by omega)).2 (by omega)
    unfold nO
    split <;> omega
theorem fit_pos (h : fit S k) : 0 < nO S k := h.1
theorem fst_none : ∀ n, fstF S n = none → ∀ i, i < n → ¬ 0 < nO S i
  | 0, _, i, hi => by omega
  | n + 1, h, i, hi => by
    unfold fstF at h
    split at h
    · cases h
    · rename_i h1
      split at h
      · cases h
      · rename_i h2
        by_cases e : i = n
        · subst e; exact h2
        · exact fst_none n h1 i (by omega)
theorem fstF_some : ∀ n, fstF S n = some j → j < n ∧ 0 < nO S j ∧ ∀ i, i < j → ¬ 0 < nO S i
  | 0, h => by cases h
  | n + 1, h => by
    unfold fstF at h
    split at h
    · rename_i i hi
      cases h
      obtain ⟨h1, h2, h3⟩ := fstF_some n hi
      exact ⟨by omega, h2, h3⟩
    · rename_i hi
      split at h
      · rename_i hp
        have e := Option.some.inj h
        subst e
        refine ⟨by omega, hp, ?_⟩
        exact fst_none n hi
      · cases h
theorem fst_no : ∀ n, (∀ i, i < n → ¬ 0 < nO S i) → fstF S n = none
  | 0, _ => rfl
  | n + 1, h => by
    unfold fstF
    rw [fst_no n (fun i hi => h i (by omega))]
    dsimp only
    rw [if_neg (h n (by omega))]
theorem fst_at (h1 : 0 < nO S k) (h2 : ∀ i, i < k → ¬ 0 < nO S i) : ∀ n, k < n → fstF S n = some k
  | 0, h => by omega
  | n + 1, h => by
    unfold fstF
    by_cases e : k = n
    · subst e
      rw [fst_no k h2]
      dsimp only
      rw [if_pos h1]
    · rw [fst_at h1 h2 n (by omega)]
theorem slab_fit (hk : k < 4) (h : fit S k) (hj : ∀ j, j < k → ¬ fit S j) : slabF S = some k := by
  unfold slabF
  rcases (by omega : k = 0 ∨ k = 1 ∨ k = 2 ∨ k = 3) with rfl | rfl | rfl | rfl
  · rw [if_pos h]
  · rw [if_neg (hj 0 (by omega)), if_pos h]
  · rw [if_neg (hj 0 (by omega)), if_neg (hj 1 (by omega)), if_pos h]
  · rw [if_neg (hj 0 (by omega)), if_neg (hj 1 (by omega)), if_neg (hj 2 (by omega)), if_pos h]
theorem slab_none (hj : ∀ j, j < 4 → ¬ fit S j) : slabF S = fstF S 4 := by
  unfold slabF
  rw [if_neg (hj 0 (by omega)), if_neg (hj 1 (by omega)), if_neg (hj 2 (by omega)), if_neg (hj 3 (by omega))]
theorem slab_some (h : slabF S = some k) : k < 4 ∧ 0 < nO S k := by
  unfold slabF at h
  split at h
  · cases h; rename_i h1; exact ⟨by omega, h1.1⟩
  split at h
  · cases h; rename_i h1; exact ⟨by omega, h1.1⟩
  split at h
  · cases h; rename_i h1; exact ⟨by omega, h1.1⟩
  split at h
  · cases h; rename_i h1; exact ⟨by omega, h1.1⟩
  obtain ⟨h1, h2, _⟩ := fstF_some 4 h
  exact ⟨h1, h2⟩
theorem slab_no (hS : 1 ≤ S) (h : slabF S = none) : 2048 < S := by
  unfold slabF at h
  split at h
  · cases h
  split at h
  · cases h
  split at h
  · cases h
  split at h
  · cases h
  have h1 := fst_none 4 h 3 (by omega)
  have h2 := (nO_range (k := 3) hS (by omega)).2.2.2.2
  rw [sb3] at h2
  omega
/-- numbers of a layout -/
theorem off_range (ha : okA a) : 0 ≤ offF a g ∧ offF a g ≤ 64 ∧ offF a g % a = 0 ∧ (g = true → 8 ≤ offF a g) ∧ (g = false → offF a g = 0) := by
  unfold offF ru
  rcases ha with rfl | rfl | rfl | rfl | rfl | rfl | rfl <;> cases g <;> decide
theorem step_range (hs : okS s) (ha : okA a) : 8 ≤ stepF s a g ∧ stepF s a g ≤ 2240 ∧ stepF s a g % a = 0 ∧ offF a g + s + behF g ≤ stepF s a g ∧ (g = false → stepF s a g ≤ 2048) := by
  have hf := off_range (g := g) ha
  obtain ⟨s1, s2⟩ := hs
  have hb : 0 ≤ behF g ∧ behF g ≤ 8 ∧ (g = false → behF g = 0) := by cases g <;> decide
  unfold stepF ru
  generalize offF a g = F at *
  generalize behF g = b at *
  obtain ⟨f1, f2, _, _, f5⟩ := hf
  obtain ⟨b1, b2, b3⟩ := hb
  rcases ha with rfl | rfl | rfl | rfl | rfl | rfl | rfl <;> simp only [show ((1 : Int) > 8) = False by decide, show ((2 : Int) > 8) = False by decide, show ((4 : Int) > 8) = False by decide, show ((8 : Int) > 8) = False by decide, show ((16 : Int) > 8) = True by decide, show ((32 : Int) > 8) = True by decide, show ((64 : Int) > 8) = True by decide, if_true, if_false] <;> refine ⟨by omega, by omega, by omega, by omega, fun hg => ?_⟩ <;> rw [f5 hg, b3 hg] <;> omega
end
theorem of_ok {s a : Int} {g : Bool} (h : ofE s a g = 0) : okS s ∧ okA a ∧ ∃ k, slabF (stepF s a g) = some k ∧ ofL s a g = inO s a (stepF s a g) (offF a g) k := by
  unfold ofE at h
  split at h
  · rename_i h1
    refine ⟨h1.1, h1.2, ?_⟩
    unfold ofL
    rw [if_pos h1]
    cases hk : slabF (stepF s a g) with
    | none => rw [hk] at h; cases h
    | some k => exact ⟨k, rfl, rfl⟩
  · cases h
/-- what is known of a valid one -/
structure LI (l : Ly) (g : Bool) : Prop where
  s : okS l.size
  a : okA l.align
  step : l.step = stepF l.size l.align g
  off : l.off = offF l.align g
  ord : ∃ k : Nat, k < 4 ∧ l.order = k ∧ l.objs = nO l.step k ∧ l.waste = wO l.step k ∧ 0 < nO l.step k
theorem isOf.li {l : Ly} {g : Bool} (h : isOf l g) : LI l g := by
  obtain ⟨h1, h2⟩ := h
  obtain ⟨h3, h4, k, h5, h6⟩ := of_ok h1
  obtain ⟨h7, h8⟩ := slab_some h5
  rw [h6] at h2
  have e2 : l.step = stepF l.size l.align g := congrArg Ly.step h2
  have e3 : l.off = offF l.align g := congrArg Ly.off h2
  have e4 : l.order = k := congrArg Ly.order h2
  have e5 : l.objs = nO (stepF l.size l.align g) k := congrArg Ly.objs h2
  have e6 : l.waste = wO (stepF l.size l.align g) k := congrArg Ly.waste h2
  rw [← e2] at e5 e6 h8
  exact ⟨h3, h4, e2, e3, k, h7, e4, e5, e6, h8⟩
theorem LI.range {l : Ly} {g : Bool} (h : LI l g) : 8 ≤ l.step ∧ l.step ≤ 2240 ∧ 0 ≤ l.off ∧ l.off ≤ 64 ∧ 1 ≤ l.objs ∧ l.objs ≤ 16 ∧ l.objs * l.step ≤ 2048 := by
  obtain ⟨hs, ha, h1, h2, k, h3, h4, h5, h6, h7⟩ := h
  have q1 := step_range (g := g) hs ha
  have q2 := off_range (g := g) ha
  rw [← h1] at q1
  rw [← h2] at q2
  have q3 := nO_range (k := k) (S := l.step) (by omega) h3
  have q4 := sb_range h3
  rw [h5]
  omega
theorem valid.range {l : Ly} (h : valid l) : 8 ≤ l.step ∧ l.step ≤ 2240 ∧ 0 ≤ l.off ∧ l.off ≤ 64 ∧ 1 ≤ l.objs ∧ l.objs ≤ 16 ∧ l.objs * l.step ≤ 2048 := by
  rcases h with h | h <;> exact h.li.range
/-- what Of returns is valid -/
theorem of_valid {s a : Int} {g : Bool} (h : ofE s a g = 0) : isOf (ofL s a g) g := by
  obtain ⟨h3, h4, k, h5, h6⟩ := of_ok h
  have e1 : (ofL s a g).size = s := by rw [h6]; rfl
  have e2 : (ofL s a g).align = a := by rw [h6]; rfl
  unfold isOf
  rw [e1, e2]
  exact ⟨h, rfl⟩
/-- what At and Index answer -/
def atV (l : Ly) (i : Int) : Int := if valid l then (if i < 0 ∨ l.objs ≤ i then 0 else i * l.step + l.off) else 0
def atE (l : Ly) (i : Int) : Int := if valid l then (if i < 0 ∨ l.objs ≤ i then 9 else 0) else 2
inductive IdxIs (l : Ly) (y : Int) : Int → Bool → Prop
  | bad : ¬ valid l → IdxIs l y 0 false
  | no : valid l → (∀ i : Nat, (i : Int) < l.objs → (i : Int) * l.step + l.off ≠ y) → IdxIs l y 0 false
  | yes (k : Nat) : valid l → (k : Int) < l.objs → (k : Int) * l.step + l.off = y → IdxIs l y k true
theorem IdxIs.ex (l : Ly) (y : Int) : ∃ i b, IdxIs l y i b := by
  by_cases hv : valid l
  · by_cases h : ∃ i : Nat, (i : Int) < l.objs ∧ (i : Int) * l.step + l.off = y
    · obtain ⟨i, h1, h2⟩ := h
      exact ⟨_, _, .yes i hv h1 h2⟩
    · exact ⟨_, _, .no hv (fun i h1 h2 => h ⟨i, h1, h2⟩)⟩
  · exact ⟨_, _, .bad hv⟩
theorem start_inj {l : Ly} (hv : valid l) {i j : Nat} (h : (i : Int) * l.step + l.off = (j : Int) * l.step + l.off) : i = j := by
  have hr := hv.range
  have h1 : (i : Int) * l.step = (j : Int) * l.step := by omega
  have h2 := Int.eq_of_mul_eq_mul_right (by omega : l.step ≠ 0) h1
  omega
theorem IdxIs.one {l : Ly} {y i j : Int} {b c : Bool} (h : IdxIs l y i b) (h' : IdxIs l y j c) : i = j ∧ b = c := by
  cases h with
  | bad hv => cases h' with
    | bad _ => exact ⟨rfl, rfl⟩
    | no hv' => exact absurd hv' hv
    | yes k hv' => exact absurd hv' hv
  | no hv hn => cases h' with
    | bad hv' => exact absurd hv hv'
    | no _ _ => exact ⟨rfl, rfl⟩
    | yes k _ h1 h2 => exact absurd h2 (hn k h1)
  | yes k hv h1 h2 => cases h' with
    | bad hv' => exact absurd hv hv'
    | no _ hn => exact absurd h2 (hn k h1)
    | yes k' _ h3 h4 =>
      obtain rfl := start_inj hv (h2.trans h4.symm)
      exact ⟨rfl, rfl⟩
end Go.Proofs.Ytghmopeaphandaa
