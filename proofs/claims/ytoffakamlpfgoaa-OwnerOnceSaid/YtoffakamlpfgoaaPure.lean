/-
  Owners as a function of slab and object; what each call answers, as relations by their ways; how many objects a test is true of.
-/
import Derived.Test.YtoffakamlpfgoaaBase
set_option linter.unusedVariables false
set_option linter.unusedSimpArgs false
namespace Go.Proofs.Ytoffakamlpfgoaa
open Go Go.RowKit

/-- who owns which object; 0: nobody -/
abbrev Ow := Int → Int → Int
def noO : Ow := fun _ _ => 0
def inn (S O : Nat) (s i : Int) : Prop := 0 ≤ s ∧ s < (S : Int) ∧ 0 ≤ i ∧ i < (O : Int)
instance (S O : Nat) (s i : Int) : Decidable (inn S O s i) := inferInstanceAs (Decidable (0 ≤ s ∧ s < (S : Int) ∧ 0 ≤ i ∧ i < (O : Int)))
def grp (g : Int) : Prop := 1 ≤ g ∧ g ≤ 16
instance (g : Int) : Decidable (grp g) := inferInstanceAs (Decidable (1 ≤ g ∧ g ≤ 16))
def upd (f : Ow) (s i g : Int) : Ow := fun x y => if x = s ∧ y = i then g else f x y
theorem upd_same (f : Ow) (s i g : Int) : upd f s i g s i = g := if_pos ⟨rfl, rfl⟩
theorem upd_other (f : Ow) {s i x y : Int} (g : Int) (h : ¬ (x = s ∧ y = i)) : upd f s i g x y = f x y := if_neg h
def mov (f : Ow) (a b : Int) : Ow := fun x y => if f x y = a then b else f x y
/-- what holds of all owners -/
def OI (S O : Nat) (f : Ow) : Prop := ∀ s i, f s i ≠ 0 → inn S O s i ∧ grp (f s i)
theorem OI.none (S O : Nat) : OI S O noO := fun s i h => absurd rfl h
theorem OI.out {S O : Nat} {f : Ow} (h : OI S O f) {s i : Int} (hn : ¬ inn S O s i) : f s i = 0 := by
  by_cases e : f s i = 0
  · exact e
  · exact absurd (h s i e).1 hn
theorem OI.upd {S O : Nat} {f : Ow} (h : OI S O f) {s i g : Int} (hi : inn S O s i) (hg : g = 0 ∨ grp g) : OI S O (upd f s i g) := by
  intro x y hne
  by_cases e : x = s ∧ y = i
  · obtain ⟨rfl, rfl⟩ := e
    rw [upd_same] at hne ⊢
    exact ⟨hi, hg.resolve_left hne⟩
  · rw [upd_other _ _ e] at hne ⊢
    exact h x y hne
theorem OI.mov {S O : Nat} {f : Ow} (h : OI S O f) {a b : Int} (ha : grp a) (hb : grp b) : OI S O (mov f a b) := by
  intro x y hne
  unfold Go.Proofs.Ytoffakamlpfgoaa.mov at hne ⊢
  by_cases e : f x y = a
  · rw [if_pos e]
    exact ⟨(h x y (by rw [e]; unfold grp at ha; omega)).1, hb⟩
  · rw [if_neg e] at hne ⊢
    exact h x y hne
section
variable {S O : Nat} {f f' : Ow} {s i g e n a b : Int}
inductive SetIs (S O : Nat) (f : Ow) (s i g : Int) : Int → Ow → Prop
  | no : ¬ inn S O s i → SetIs S O f s i g 9 f
  | gr : inn S O s i → ¬ grp g → SetIs S O f s i g 110 f
  | own : inn S O s i → grp g → f s i ≠ 0 → SetIs S O f s i g 140 f
  | ok : inn S O s i → grp g → f s i = 0 → SetIs S O f s i g 0 (upd f s i g)
theorem SetIs.ex (S O : Nat) (f : Ow) (s i g : Int) : ∃ e f', SetIs S O f s i g e f' := by
  by_cases h1 : inn S O s i
  · by_cases h2 : grp g
    · by_cases h3 : f s i = 0
      · exact ⟨_, _, .ok h1 h2 h3⟩
      · exact ⟨_, _, .own h1 h2 h3⟩
    · exact ⟨_, _, .gr h1 h2⟩
  · exact ⟨_, _, .no h1⟩
theorem SetIs.oi (h : SetIs S O f s i g e f') (hi : OI S O f) : OI S O f' := by
  cases h with
  | no => exact hi
  | gr => exact hi
  | own => exact hi
  | ok h1 h2 _ => exact hi.upd h1 (.inr h2)
inductive ClearIs (S O : Nat) (f : Ow) (s i : Int) : Int → Int → Ow → Prop
  | no : ¬ inn S O s i → ClearIs S O f s i 0 9 f
  | none : inn S O s i → f s i = 0 → ClearIs S O f s i 0 140 f
  | ok : inn S O s i → f s i ≠ 0 → ClearIs S O f s i (f s i) 0 (upd f s i 0)
theorem ClearIs.ex (S O : Nat) (f : Ow) (s i : Int) : ∃ a e f', ClearIs S O f s i a e f' := by
  by_cases h1 : inn S O s i
  · by_cases h3 : f s i = 0
    · exact ⟨_, _, _, .none h1 h3⟩
    · exact ⟨_, _, _, .ok h1 h3⟩
  · exact ⟨_, _, _, .no h1⟩
theorem ClearIs.oi (h : ClearIs S O f s i a e f') (hi : OI S O f) : OI S O f' := by
  cases h with
  | no => exact hi
  | none => exact hi
  | ok h1 _ => exact hi.upd h1 (.inl rfl)
end
/-! ### how many -/
def sumN (h : Nat → Nat) : Nat → Nat
  | 0 => 0
  | n + 1 => sumN h n + h n
theorem sumN_congr {h h' : Nat → Nat} (n : Nat) (e : ∀ k, k < n → h k = h' k) : sumN h n = sumN h' n := by
  induction n with
  | zero => rfl
  | succ n ih => unfold sumN; rw [ih (fun k hk => e k (by omega)), e n (by omega)]
theorem sumN_one {h h' : Nat → Nat} (n k d : Nat) (hk : k < n) (e : h' k = h k + d) (ho : ∀ j, j < n → j ≠ k → h' j = h j) : sumN h' n = sumN h n + d := by
  induction n with
  | zero => omega
  | succ n ih =>
    unfold sumN
    by_cases ek : k = n
    · subst ek
      rw [e, sumN_congr k (fun j hj => ho j (by omega) (by omega))]
      omega
    · rw [ih (by omega) (fun j hj hne => ho j (by omega) hne), ho n (by omega) (fun e2 => ek e2.symm)]
      omega
theorem sumN_add (h h' : Nat → Nat) (n : Nat) : sumN (fun k => h k + h' k) n = sumN h n + sumN h' n := by
  induction n with
  | zero => rfl
  | succ n ih => unfold sumN; rw [ih]; omega
theorem sumN_le (h : Nat → Nat) (n m : Nat) (e : ∀ k, k < n → h k ≤ m) : sumN h n ≤ n * m := by
  induction n with
  | zero => simp [sumN]
  | succ n ih =>
    have h1 := ih (fun k hk => e k (by omega))
    have h2 := e n (by omega)
    unfold sumN
    rw [Nat.succ_mul]
    omega
theorem sumN_zero (h : Nat → Nat) (n : Nat) (e : ∀ k, k < n → h k = 0) : sumN h n = 0 := by
  have := sumN_le h n 0 (fun k hk => by rw [e k hk]; omega)
  omega
theorem sumN_step (h : Nat → Nat) (n : Nat) : sumN h (n + 1) = sumN h n + h n := rfl
def b1 (q : Bool) : Nat := if q = true then 1 else 0
abbrev Tst := Int → Int → Bool
/-- of how many objects of one slab -/
def cntR (p : Tst) (s : Nat) (O : Nat) : Nat := sumN (fun i => b1 (p s i)) O
/-- of how many objects of all slabs -/
def cnt (p : Tst) (S O : Nat) : Nat := sumN (fun s => cntR p s O) S
theorem b1_le (q : Bool) : b1 q ≤ 1 := by cases q <;> decide
theorem cntR_le (p : Tst) (s O : Nat) : cntR p s O ≤ O := by
  have := sumN_le (fun i : Nat => b1 (p s i)) O 1 (fun k _ => b1_le _)
  unfold cntR
  omega
theorem cnt_le (p : Tst) (S O : Nat) : cnt p S O ≤ S * O := sumN_le _ S O (fun s _ => cntR_le p s O)
theorem cnt_small (p : Tst) {S O : Nat} (h1 : S ≤ 256) (h2 : O ≤ 16) : cnt p S O ≤ 4096 := Nat.le_trans (cnt_le p S O) (Nat.mul_le_mul h1 h2)
theorem cnt_congr {p p' : Tst} (S O : Nat) (e : ∀ s i : Int, inn S O s i → p s i = p' s i) : cnt p S O = cnt p' S O :=
  sumN_congr S fun s hs => sumN_congr O fun i hi => by rw [e s i ⟨by omega, by omega, by omega, by omega⟩]
theorem cnt_one {p p' : Tst} {S O : Nat} {s i : Int} (hin : inn S O s i) (h0 : p s i = false) (h1 : p' s i = true) (ho : ∀ x y, ¬ (x = s ∧ y = i) → p' x y = p x y) : cnt p' S O = cnt p S O + 1 := by
  obtain ⟨a1, a2, a3, a4⟩ := hin
  obtain ⟨s, rfl⟩ : ∃ n : Nat, s = (n : Int) := ⟨s.toNat, by omega⟩
  obtain ⟨i, rfl⟩ : ∃ n : Nat, i = (n : Int) := ⟨i.toNat, by omega⟩
  refine sumN_one S s 1 (by omega) (sumN_one O i 1 (by omega) (by simp [h0, h1, b1]) fun j hj hne => ?_) fun t ht hne => sumN_congr O fun j hj => ?_
  · rw [ho _ _ (fun e => hne (by omega))]
  · rw [ho _ _ (fun e => hne (by omega))]
theorem cnt_none (p : Tst) (S O : Nat) (e : ∀ s i : Int, inn S O s i → p s i = false) : cnt p S O = 0 :=
  sumN_zero _ S fun s hs => sumN_zero _ O fun i hi => by rw [e s i ⟨by omega, by omega, by omega, by omega⟩]; rfl
theorem cnt_add {p q r : Tst} (S O : Nat) (e : ∀ s i : Int, inn S O s i → b1 (r s i) = b1 (p s i) + b1 (q s i)) : cnt r S O = cnt p S O + cnt q S O := by
  unfold cnt
  rw [← sumN_add]
  refine sumN_congr S fun s hs => ?_
  unfold cntR
  rw [← sumN_add]
  exact sumN_congr O fun i hi => e s i ⟨by omega, by omega, by omega, by omega⟩
/-- is it that group's -/
def ofG (f : Ow) (g : Int) : Tst := fun s i => decide (f s i = g)
/-- how many objects a group owns -/
def countF (S O : Nat) (f : Ow) (g : Int) : Nat := if grp g then cnt (ofG f g) S O else 0
theorem countF_le (S O : Nat) (f : Ow) (g : Int) (h1 : S ≤ 256) (h2 : O ≤ 16) : countF S O f g ≤ 4096 := by
  unfold countF
  split
  · exact cnt_small _ h1 h2
  · omega
inductive MoveIs (S O : Nat) (f : Ow) (a b : Int) : Int → Int → Ow → Prop
  | gr : ¬ (grp a ∧ grp b) → MoveIs S O f a b 0 110 f
  | same : grp a → grp b → a = b → MoveIs S O f a b 0 0 f
  | ok : grp a → grp b → a ≠ b → MoveIs S O f a b (cnt (ofG f a) S O) 0 (mov f a b)
theorem MoveIs.ex (S O : Nat) (f : Ow) (a b : Int) : ∃ n e f', MoveIs S O f a b n e f' := by
  by_cases h1 : grp a ∧ grp b
  · by_cases h2 : a = b
    · exact ⟨_, _, _, .same h1.1 h1.2 h2⟩
    · exact ⟨_, _, _, .ok h1.1 h1.2 h2⟩
  · exact ⟨_, _, _, .gr h1⟩
theorem MoveIs.oi {S O : Nat} {f f' : Ow} {a b n e : Int} (h : MoveIs S O f a b n e f') (hi : OI S O f) : OI S O f' := by
  cases h with
  | gr => exact hi
  | same => exact hi
  | ok h1 h2 _ => exact hi.mov h1 h2
/-- whether there is that slab, and nobody owns anything of it -/
def Emp (S O : Nat) (f : Ow) (s : Int) : Prop := 0 ≤ s ∧ s < (S : Int) ∧ ∀ i : Nat, i < O → f s i = 0
theorem emp_ex (S O : Nat) (f : Ow) (s : Int) : ∃ q : Bool, (q = true ↔ Emp S O f s) := by
  classical exact ⟨decide (Emp S O f s), by simp⟩
end Go.Proofs.Ytoffakamlpfgoaa
