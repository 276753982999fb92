/-
  How often a page is in lists; that each page is in them once just if it is marked.
-/
import Derived.Test.YtpmlmpkjmgebnaaOne
set_option linter.unusedVariables false
set_option linter.unusedSimpArgs false
namespace Go.Proofs.Ytpmlmpkjmgebnaa
open Go Go.RowKit

def sumN (g : Nat → Nat) : Nat → Nat
  | 0 => 0
  | m + 1 => sumN g m + g m
theorem sumN_congr {g h : Nat → Nat} {m : Nat} (e : ∀ i, i < m → g i = h i) : sumN g m = sumN h m := by
  induction m with
  | zero => rfl
  | succ m ih => simp only [sumN, ih (fun i hi => e i (by omega)), e m (by omega)]
theorem sumN_add (g h : Nat → Nat) (m : Nat) : sumN (fun i => g i + h i) m = sumN g m + sumN h m := by
  induction m with
  | zero => rfl
  | succ m ih => simp only [sumN, ih]; omega
theorem sumN_zero (m : Nat) : sumN (fun _ => 0) m = 0 := by
  induction m with
  | zero => rfl
  | succ m ih => simp only [sumN, ih]
theorem sumN_swap (A : Nat → Nat → Nat) (m n : Nat) : sumN (fun x => sumN (fun i => A i x) n) m = sumN (fun i => sumN (fun x => A i x) m) n := by
  induction n with
  | zero => simp only [sumN, sumN_zero]
  | succ n ih => simp only [sumN, sumN_add, ih]
/-- one value is another -/
theorem sumN_upd {g h : Nat → Nat} {c n : Nat} (hc : c < n) (e : ∀ i, i ≠ c → g i = h i) : sumN g n + h c = sumN h n + g c := by
  induction n with
  | zero => omega
  | succ n ih =>
    simp only [sumN]
    by_cases hcn : c = n
    · subst hcn
      rw [sumN_congr (g := g) (h := h) (fun i hi => e i (by omega))]
      omega
    · have := ih (by omega)
      rw [e n (fun h => hcn h.symm)]
      omega
theorem sumN_one {x m : Nat} (hx : x < m) : sumN (fun i => if i = x then 1 else 0) m = 1 := by
  have := sumN_upd (g := fun i => if i = x then 1 else 0) (h := fun _ => 0) (c := x) (n := m) hx (fun i hi => if_neg hi)
  rw [sumN_zero] at this
  simpa using this
theorem sumN_le {g : Nat → Nat} {b m : Nat} (h : ∀ i, i < m → g i ≤ b) : sumN g m ≤ m * b := by
  induction m with
  | zero => simp [sumN]
  | succ m ih =>
    have h1 := ih (fun i hi => h i (by omega))
    have h2 := h m (by omega)
    simp only [sumN, Nat.succ_mul]
    omega
theorem le_sumN {g : Nat → Nat} {c m : Nat} (hc : c < m) : g c ≤ sumN g m := by
  induction m with
  | zero => omega
  | succ m ih =>
    simp only [sumN]
    by_cases e : c = m
    · subst e; omega
    · have := ih (by omega); omega
theorem length_sum (l : List Int) (m : Nat) (h : ∀ y ∈ l, 0 ≤ y ∧ y < m) : l.length = sumN (fun x => l.count (x : Int)) m := by
  induction l with
  | nil => simp [sumN_zero]
  | cons y l ih =>
    obtain ⟨z, rfl⟩ : ∃ z : Nat, y = z := ⟨y.toNat, by have := (h y (by simp)).1; omega⟩
    have hz : z < m := by have := (h z (by simp)).2; omega
    rw [List.length_cons, ih (fun y hy => h y (by simp [hy]))]
    have : ∀ x : Nat, ((z : Int) :: l).count (x : Int) = l.count (x : Int) + (if x = z then 1 else 0) := by
      intro x
      rw [List.count_cons]
      congr 1
      by_cases e : x = z
      · subst e; simp
      · rw [if_neg e, if_neg]
        simp
        omega
    rw [sumN_congr (fun x _ => this x), sumN_add, sumN_one hz]
/-- how often a page is near -/
def cnt (f : F) (n : Nat) (x : Int) : Nat := sumN (fun i => (f i).count x) n
def lens (f : F) (n : Nat) : Nat := sumN (fun i => (f i).length) n
theorem cnt_upd {f : F} {c n : Nat} {l : List Int} {x : Int} (hc : c < n) : cnt (upd f c l) n x + (f c).count x = cnt f n x + l.count x := by
  have := sumN_upd (g := fun i => (upd f c l i).count x) (h := fun i => (f i).count x) hc (fun i hi => by simp only [upd_other _ _ hi])
  simp only [upd_same] at this
  exact this
theorem cnt_pos {f : F} {n i : Nat} {x : Int} (hi : i < n) (hx : x ∈ f i) : 1 ≤ cnt f n x :=
  Nat.le_trans (List.count_pos_iff.2 hx) (le_sumN (g := fun i => (f i).count x) hi)
theorem cnt_zero {f : F} {n : Nat} {x : Int} (h : hasB f n x = false) : cnt f n x = 0 := by
  unfold cnt
  rw [sumN_congr (h := fun _ => 0) (fun i hi => List.count_eq_zero.2 (hasB_no.1 h i hi)), sumN_zero]
def setP (P : Nat → Bool) (x : Nat) (b : Bool) : Nat → Bool := fun i => if i = x then b else P i
abbrev one (b : Bool) : Nat := if b = true then 1 else 0
/-- what is in the lists, or in a list that has left them, is marked, once each -/
structure Inv (n : Nat) (f : F) (out : List Int) (P : Nat → Bool) : Prop where
  inr : ∀ i, i < n → ∀ y ∈ f i, 0 ≤ y ∧ y < 1024
  outr : ∀ y ∈ out, 0 ≤ y ∧ y < 1024
  cnt : ∀ x : Nat, x < 1024 → cnt f n x + out.count (x : Int) = one (P x)
section
variable {n lim : Nat} {f f' : F} {out r : List Int} {P : Nat → Bool}
theorem Inv.start (n : Nat) : Inv n noF [] (fun _ => false) := ⟨fun i _ y hy => by simp [noF] at hy, fun y hy => by simp at hy, fun x _ => by
  have : Go.Proofs.Ytpmlmpkjmgebnaa.cnt noF n x = 0 := cnt_zero (hasB_no.2 fun i _ => by simp [noF])
  simp [this]⟩
theorem bring_in {y : Int} (h : 0 ≤ y ∧ y < 1024) : bring y 1024 = y.toNat := by
  unfold bring
  congr 1
  omega
theorem Inv.step {y : Int} (h : Inv n f (y :: r) P) : (0 ≤ y ∧ y < 1024) ∧ P y.toNat = true ∧ Inv n f r (setP P y.toNat false) := by
  obtain ⟨h1, h2⟩ := h.outr y (by simp)
  obtain ⟨z, rfl⟩ : ∃ z : Nat, y = z := ⟨y.toNat, by omega⟩
  rw [Int.toNat_natCast]
  have hz := h.cnt z (by omega)
  rw [List.count_cons_self] at hz
  have hp : P z = true := by
    cases hp : P z with
    | true => rfl
    | false => rw [hp] at hz; simp [one] at hz
  refine ⟨⟨h1, h2⟩, hp, h.inr, fun y hy => h.outr y (by simp [hy]), fun x hx => ?_⟩
  have hx1 := h.cnt x hx
  unfold setP
  by_cases e : x = z
  · subst e
    rw [hp] at hz
    simp only [if_true, one] at hz ⊢
    simp
    omega
  · rw [if_neg e]
    rw [List.count_cons_of_ne (by omega)] at hx1
    exact hx1
theorem Inv.mark {i : Nat} {y : Int} (h : Inv n f [] P) (hi : i < n) (hy : y ∈ f i) : (0 ≤ y ∧ y < 1024) ∧ P y.toNat = true ∧ hasB f n y = true := by
  obtain ⟨h1, h2⟩ := h.inr i hi y hy
  obtain ⟨z, rfl⟩ : ∃ z : Nat, y = z := ⟨y.toNat, by omega⟩
  rw [Int.toNat_natCast]
  have hz := h.cnt z (by omega)
  have := cnt_pos hi hy
  refine ⟨⟨h1, h2⟩, ?_, hasB_iff.2 ⟨i, hi, hy⟩⟩
  cases hp : P z with
  | true => rfl
  | false => rw [hp] at hz; simp [one] at hz; omega
theorem Inv.unmarked {x : Nat} (h : Inv n f [] P) (hx : x < 1024) (hb : hasB f n x = false) : P x = false := by
  have hz := h.cnt x hx
  rw [cnt_zero hb] at hz
  cases hp : P x with
  | false => rfl
  | true => rw [hp] at hz; simp [one] at hz
theorem Inv.marked {x : Nat} (h : Inv n f [] P) (hb : hasB f n x = true) : P x = true := by
  obtain ⟨i, hi, hx⟩ := hasB_iff.1 hb
  have := (h.mark hi hx).2.1
  rwa [Int.toNat_natCast] at this
/-- a list is another, what was in it is out -/
theorem Inv.move {c : Nat} {l : List Int} (h : Inv n f [] P) (hc : c < n) (he : ∀ y, (f c).count y = l.count y + out.count y) (hm : ∀ y, y ∈ l ∨ y ∈ out → y ∈ f c) : Inv n (upd f c l) out P := by
  refine ⟨fun i hi y hy => ?_, fun y hy => h.inr c hc y (hm y (.inr hy)), fun x hx => ?_⟩
  · by_cases e : i = c
    · subst e; rw [upd_same] at hy; exact h.inr i hi y (hm y (.inl hy))
    · rw [upd_other _ _ e] at hy; exact h.inr i hi y hy
  · have h1 := h.cnt x hx
    have h2 := cnt_upd (f := f) (l := l) (x := (x : Int)) hc
    have h3 := he x
    simp at h1
    omega
/-- a page more -/
theorem Inv.more {c p : Nat} (h : Inv n f [] P) (hc : c < n) (hp : p < 1024) (hb : hasB f n p = false) : Inv n (upd f c (f c ++ [(p : Int)])) [] (setP P p true) := by
  refine ⟨fun i hi y hy => ?_, fun y hy => by simp at hy, fun x hx => ?_⟩
  · by_cases e : i = c
    · subst e
      rw [upd_same, List.mem_append] at hy
      rcases hy with hy | hy
      · exact h.inr i hi y hy
      · have := List.mem_singleton.1 hy; omega
    · rw [upd_other _ _ e] at hy; exact h.inr i hi y hy
  · have h1 := h.cnt x hx
    have h2 := cnt_upd (f := f) (l := f c ++ [(p : Int)]) (x := (x : Int)) hc
    rw [List.count_append] at h2
    have hz := cnt_zero hb
    unfold setP
    by_cases e : x = p
    · subst e
      simp at h2
      simp [one]
      omega
    · have : [(p : Int)].count (x : Int) = 0 := List.count_eq_zero.2 (by simp; omega)
      rw [if_neg e]
      simp at h1 ⊢
      omega
theorem Inv.put {c p : Nat} (h : Inv n f [] P) (hc : c < n) (hp : p < 1024) (hr : PutIs n lim f c p out 0 f') : P p = false ∧ Inv n f' out (setP P p true) := by
  generalize he : (0 : Int) = er at hr
  generalize hcc : (c : Int) = cc at hr
  generalize hpp : (p : Int) = pp at hr
  cases hr with
  | range _ _ h1 => omega
  | block _ _ _ _ _ _ => omega
  | ok c' _ q1 q2 q3 q4 q5 =>
    obtain rfl : c = c' := by omega
    subst hpp
    exact ⟨h.unmarked hp q4, h.more hc hp q4⟩
  | cut c' _ k q1 q2 q3 q4 q5 q6 =>
    obtain rfl : c = c' := by omega
    subst hpp
    refine ⟨h.unmarked hp q4, ?_⟩
    have := (h.more hc hp q4).move (l := (f c ++ [(p : Int)]).drop k) (out := (f c ++ [(p : Int)]).take k) hc (fun y => by
      rw [upd_same]
      conv => lhs; rw [← List.take_append_drop k (f c ++ [(p : Int)])]
      rw [List.count_append]
      omega) (fun y hy => by
      rw [upd_same]
      rcases hy with hy | hy
      · exact List.mem_of_mem_drop hy
      · exact List.mem_of_mem_take hy)
    rw [upd_upd] at this
    exact this
theorem Inv.block {c p : Nat} (h : Inv n f [] P) (hp : p < 1024) (hb : hasB f n p = true) : P p = true := h.marked hb
theorem Inv.take {c : Nat} {l : List Int} {x : Int} (h : Inv n f [] P) (hc : c < n) (hl : f c = l ++ [x]) : Inv n (upd f c l) [x] P :=
  h.move hc (fun y => by rw [hl, List.count_append]) (fun y hy => by rw [hl, List.mem_append]; exact hy)
theorem Inv.drain {c : Nat} (h : Inv n f [] P) (hc : c < n) : Inv n (upd f c []) (f c) P :=
  h.move hc (fun y => by simp) (fun y hy => by simpa using hy)
theorem Inv.total (h : Inv n f [] P) : lens f n = sumN (fun x => one (P x)) 1024 := by
  unfold lens
  rw [sumN_congr (h := fun i => sumN (fun x => (f i).count (x : Int)) 1024) (fun i hi => length_sum (f i) 1024 (h.inr i hi)), ← sumN_swap]
  refine sumN_congr fun x hx => ?_
  have := h.cnt x hx
  simpa [Go.Proofs.Ytpmlmpkjmgebnaa.cnt] using this
end
end Go.Proofs.Ytpmlmpkjmgebnaa
