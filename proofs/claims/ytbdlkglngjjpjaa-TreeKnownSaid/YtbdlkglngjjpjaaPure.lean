/-
  Trees of groups: what a path, a depth, an heir is; what Add, Offline make of them.
-/
import Derived.Test.YtbdlkglngjjpjaaBase
set_option linter.unusedVariables false
set_option linter.unusedSimpArgs false
namespace Go.Proofs.Ytbdlkglngjjpjaa
open Go

/-- how many groups; the parent of each (0: none); whether it is online -/
structure Tr where
  n : Nat
  up : Nat → Nat
  on : Nat → Bool
def upd {α : Type} (f : Nat → α) (c : Nat) (x : α) : Nat → α := fun i => if i = c then x else f i
theorem upd_same {α : Type} (f : Nat → α) (c : Nat) (x : α) : upd f c x c = x := if_pos rfl
theorem upd_other {α : Type} (f : Nat → α) {c i : Nat} (x : α) (h : i ≠ c) : upd f c x i = f i := if_neg h
/-- the group of that number, 0 if there is none -/
def nu (n : Nat) (x : Int) : Nat := if 1 ≤ x ∧ x ≤ n then x.toNat else 0
theorem nu_no {n : Nat} {x : Int} (h : ¬ (1 ≤ x ∧ x ≤ n)) : nu n x = 0 := if_neg h
theorem nu_yes {n g : Nat} (h : 1 ≤ g ∧ g ≤ n) : nu n (g : Int) = g := by
  unfold nu
  rw [if_pos (by omega)]
  omega
theorem nu_le (n : Nat) (x : Int) : nu n x ≤ n := by
  unfold nu
  split <;> omega
theorem nu_pos {n : Nat} {x : Int} (h : nu n x ≠ 0) : x = (nu n x : Nat) ∧ 1 ≤ nu n x ∧ nu n x ≤ n := by
  unfold nu at *
  split at h <;> rename_i h1
  · rw [if_pos h1]; omega
  · exact absurd rfl h
theorem nu_zero {n : Nat} {x : Int} (h : nu n x = 0) : ¬ (1 ≤ x ∧ x ≤ n) := by
  unfold nu at h
  split at h <;> omega
theorem nu_nat0 (n : Nat) : nu n ((0 : Nat) : Int) = 0 := nu_no (by omega)
theorem nu_nat_le (n g : Nat) : nu n (g : Int) ≤ g := by
  unfold nu
  split <;> omega
def pth (t : Tr) : Nat → Nat → List Nat
  | 0, _ => []
  | k + 1, g => if 1 ≤ g ∧ g ≤ t.n then g :: pth t k (t.up g) else []
def path (t : Tr) (g : Nat) : List Nat := pth t g g
def heir (t : Tr) (g : Nat) : Nat := ((path t g).find? t.on).getD 0
structure TI (t : Tr) : Prop where
  n1 : 1 ≤ t.n ∧ t.n ≤ 16
  up0 : t.up 0 = 0
  on0 : t.on 0 = false
  up1 : t.up 1 = 0
  on1 : t.on 1 = true
  lt : ∀ g, 2 ≤ g → g ≤ t.n → 1 ≤ t.up g ∧ t.up g < g
  dep : ∀ g, g ≤ t.n → (path t g).length ≤ 8
section
variable {t t' : Tr} {g p k : Nat}
theorem TI.up_lt (h : TI t) (h1 : 1 ≤ g) (h2 : g ≤ t.n) : t.up g < g := by
  by_cases e : g = 1
  · subst e; rw [h.up1]; omega
  · exact (h.lt g (by omega) h2).2
theorem pth_zero (t : Tr) (k : Nat) : pth t k 0 = [] := by
  cases k with
  | zero => rfl
  | succ k => exact if_neg (by omega)
theorem pth_more (hu : ∀ g, 1 ≤ g → g ≤ t.n → t.up g < g) : ∀ N g, g ≤ N → ∀ k, g ≤ k → pth t k g = pth t g g := by
  intro N
  induction N with
  | zero =>
    intro g hg k _
    obtain rfl : g = 0 := by omega
    rw [pth_zero, pth_zero]
  | succ N ih =>
    intro g hg k hk
    cases g with
    | zero => rw [pth_zero, pth_zero]
    | succ m =>
      obtain ⟨k', rfl⟩ : ∃ k', k = k' + 1 := ⟨k - 1, by omega⟩
      unfold pth
      by_cases hh : 1 ≤ m + 1 ∧ m + 1 ≤ t.n
      · rw [if_pos hh, if_pos hh]
        have h1 := hu (m + 1) hh.1 hh.2
        rw [ih (t.up (m + 1)) (by omega) k' (by omega), ih (t.up (m + 1)) (by omega) m (by omega)]
      · rw [if_neg hh, if_neg hh]
theorem path_no (h : ¬ (1 ≤ g ∧ g ≤ t.n)) : path t g = [] := by
  unfold path
  cases g with
  | zero => rfl
  | succ m => exact if_neg h
theorem path_zero (t : Tr) : path t 0 = [] := rfl
theorem path_yes' (hu : ∀ g, 1 ≤ g → g ≤ t.n → t.up g < g) (h1 : 1 ≤ g) (h2 : g ≤ t.n) : path t g = g :: path t (t.up g) := by
  obtain ⟨m, rfl⟩ : ∃ m, g = m + 1 := ⟨g - 1, by omega⟩
  have h3 := hu _ h1 h2
  unfold path
  rw [show pth t (m + 1) (m + 1) = if 1 ≤ m + 1 ∧ m + 1 ≤ t.n then (m + 1) :: pth t m (t.up (m + 1)) else [] from rfl, if_pos ⟨h1, h2⟩, pth_more hu m (t.up (m + 1)) (by omega) m (by omega)]
theorem path_yes (h : TI t) (h1 : 1 ≤ g) (h2 : g ≤ t.n) : path t g = g :: path t (t.up g) := path_yes' (fun _ => h.up_lt) h1 h2
theorem path_one (h : TI t) : path t 1 = [1] := by rw [path_yes h (by omega) h.n1.1, h.up1, path_zero]
/-- along a path -/
theorem TI.along (h : TI t) {P : Nat → Prop} (h0 : P 1) (hs : ∀ g, 2 ≤ g → g ≤ t.n → P (t.up g) → P g) : ∀ g, 1 ≤ g → g ≤ t.n → P g := by
  have key : ∀ N g, g ≤ N → 1 ≤ g → g ≤ t.n → P g := by
    intro N
    induction N with
    | zero => intro g h1 h2; omega
    | succ N ih =>
      intro g h1 h2 h3
      by_cases e : g = 1
      · subst e; exact h0
      · obtain ⟨h4, h5⟩ := h.lt g (by omega) h3
        exact hs g (by omega) h3 (ih _ (by omega) h4 (by omega))
  exact fun g => key g g (Nat.le_refl _)
theorem path_mem (h : TI t) : ∀ g, 1 ≤ g → g ≤ t.n → ∀ x ∈ path t g, 1 ≤ x ∧ x ≤ g := by
  refine h.along ?_ ?_
  · intro x hx
    rw [path_one h] at hx
    simp at hx
    omega
  · intro g h1 h2 ih x hx
    obtain ⟨h3, h4⟩ := h.lt g h1 h2
    rw [path_yes h (by omega) h2] at hx
    rcases List.mem_cons.1 hx with rfl | hx
    · omega
    · have := ih x hx; omega
theorem path_pos (h : TI t) (h1 : 1 ≤ g) (h2 : g ≤ t.n) : 1 ≤ (path t g).length := by rw [path_yes h h1 h2]; simp
theorem path_first (h : TI t) (h1 : 1 ≤ g) (h2 : g ≤ t.n) : (path t g).getD 0 0 = g := by rw [path_yes h h1 h2]; rfl
theorem path_last (h : TI t) : ∀ g, 1 ≤ g → g ≤ t.n → (path t g).getD ((path t g).length - 1) 0 = 1 := by
  refine h.along ?_ ?_
  · rw [path_one h]; rfl
  · intro g h1 h2 ih
    obtain ⟨h3, h4⟩ := h.lt g h1 h2
    have hp := path_pos h h3 (by omega)
    rw [path_yes h (by omega) h2]
    rw [List.length_cons, Nat.add_sub_cancel]
    obtain ⟨m, hm⟩ : ∃ m, (path t (t.up g)).length = m + 1 := ⟨(path t (t.up g)).length - 1, by omega⟩
    rw [hm] at ih ⊢
    exact ih
theorem path_next (h : TI t) : ∀ g, 1 ≤ g → g ≤ t.n → ∀ i, i + 1 < (path t g).length → (path t g).getD (i + 1) 0 = t.up ((path t g).getD i 0) ∧ (path t g).getD (i + 1) 0 < (path t g).getD i 0 := by
  refine h.along ?_ ?_
  · intro i hi
    rw [path_one h] at hi
    simp at hi
  · intro g h1 h2 ih i hi
    obtain ⟨h3, h4⟩ := h.lt g h1 h2
    rw [path_yes h (by omega) h2] at hi ⊢
    cases i with
    | zero =>
      have e : (g :: path t (t.up g)).getD (0 + 1) 0 = t.up g := path_first h h3 (by omega)
      rw [e]
      exact ⟨rfl, h4⟩
    | succ j =>
      exact ih j (by simpa using hi)
theorem heir_on (h : TI t) (h1 : 1 ≤ g) (h2 : g ≤ t.n) (ho : t.on g = true) : heir t g = g := by
  unfold heir
  rw [path_yes h h1 h2, List.find?_cons_of_pos ho]
  rfl
theorem heir_off (h : TI t) (h1 : 1 ≤ g) (h2 : g ≤ t.n) (ho : t.on g = false) : heir t g = heir t (t.up g) := by
  unfold heir
  rw [path_yes h h1 h2, List.find?_cons_of_neg (by simp [ho])]
theorem heir_zero (t : Tr) : heir t 0 = 0 := rfl
theorem heir_is (h : TI t) : ∀ g, 1 ≤ g → g ≤ t.n → t.on (heir t g) = true ∧ heir t g ∈ path t g := by
  refine h.along ?_ ?_
  · rw [heir_on h (by omega) h.n1.1 h.on1, path_one h]
    exact ⟨h.on1, by simp⟩
  · intro g h1 h2 ih
    cases ho : t.on g with
    | true =>
      rw [heir_on h (by omega) h2 ho, path_yes h (by omega) h2]
      exact ⟨ho, by simp⟩
    | false =>
      rw [heir_off h (by omega) h2 ho, path_yes h (by omega) h2]
      exact ⟨ih.1, List.mem_cons_of_mem _ ih.2⟩
/-- those ahead of the heir are not online -/
theorem heir_ahead (h : TI t) : ∀ g, 1 ≤ g → g ≤ t.n → ∀ k, k < (path t g).length → (∀ j, j < k → (path t g).getD j 0 ≠ heir t g) → (path t g).getD k 0 ≠ heir t g → t.on ((path t g).getD k 0) = false := by
  refine h.along ?_ ?_
  · intro k hk _ hne
    rw [path_one h] at hk hne
    obtain rfl : k = 0 := by simpa using hk
    rw [heir_on h (by omega) h.n1.1 h.on1] at hne
    exact absurd rfl hne
  · intro g h1 h2 ih k hk ha hne
    cases ho : t.on g with
    | true =>
      exfalso
      rw [heir_on h (by omega) h2 ho] at ha hne
      cases k with
      | zero => exact hne (path_first h (by omega) h2)
      | succ k => exact ha 0 (by omega) (path_first h (by omega) h2)
    | false =>
      rw [heir_off h (by omega) h2 ho] at ha hne
      rw [path_yes h (by omega) h2] at hk ha hne ⊢
      cases k with
      | zero => exact ho
      | succ k => exact ih k (by simpa using hk) (fun j hj => by have := ha (j + 1) (by omega); exact this) hne
def Tr.add (t : Tr) (p : Nat) : Tr := ⟨t.n + 1, upd t.up (t.n + 1) p, upd t.on (t.n + 1) true⟩
def Tr.off (t : Tr) (g : Nat) : Tr := ⟨t.n, t.up, upd t.on g false⟩
def noT : Tr := ⟨1, fun _ => 0, fun g => decide (g = 1)⟩
theorem pth_off (t : Tr) (g : Nat) : ∀ k h, pth (t.off g) k h = pth t k h := by
  intro k
  induction k with
  | zero => intro h; rfl
  | succ k ih =>
    intro h
    unfold pth
    rw [show (t.off g).n = t.n from rfl, show (t.off g).up h = t.up h from rfl, ih]
theorem path_off (t : Tr) (g h : Nat) : path (t.off g) h = path t h := pth_off t g h h
theorem add_up (hg : g ≤ t.n) : (t.add p).up g = t.up g := upd_other _ _ (by omega)
theorem add_on (hg : g ≤ t.n) : (t.add p).on g = t.on g := upd_other _ _ (by omega)
theorem add_up_new : (t.add p).up (t.n + 1) = p := upd_same _ _ _
theorem add_on_new : (t.add p).on (t.n + 1) = true := upd_same _ _ _
theorem path_add (h : TI t) : ∀ g, g ≤ t.n → path (t.add p) g = path t g := by
  have key : ∀ N g, g ≤ N → g ≤ t.n → ∀ k, g ≤ k → pth (t.add p) k g = pth t k g := by
    intro N
    induction N with
    | zero =>
      intro g h1 _ k _
      obtain rfl : g = 0 := by omega
      rw [pth_zero, pth_zero]
    | succ N ih =>
      intro g h1 h2 k hk
      cases g with
      | zero => rw [pth_zero, pth_zero]
      | succ m =>
        obtain ⟨k', rfl⟩ : ∃ k', k = k' + 1 := ⟨k - 1, by omega⟩
        unfold pth
        have h3 := h.up_lt (g := m + 1) (by omega) h2
        rw [if_pos ⟨by omega, by show m + 1 ≤ t.n + 1; omega⟩, if_pos ⟨by omega, h2⟩, add_up h2, ih _ (by omega) (by omega) _ (by omega)]
  exact fun g hg => key g g (Nat.le_refl _) hg g (Nat.le_refl _)
theorem path_add_new (h : TI t) (hp : 1 ≤ p ∧ p ≤ t.n) : path (t.add p) (t.n + 1) = (t.n + 1) :: path t p := by
  rw [path_yes' (t := t.add p) (g := t.n + 1) (fun g h1 h2 => ?_) (by omega) (Nat.le_refl _), add_up_new, path_add h p hp.2]
  by_cases e : g = t.n + 1
  · subst e; rw [add_up_new]; omega
  · have h3 : g ≤ t.n := by have : g ≤ t.n + 1 := h2; omega
    rw [add_up h3]
    exact h.up_lt h1 h3
theorem TI.add (h : TI t) (hp : 1 ≤ p ∧ p ≤ t.n) (hn : t.n ≠ 16) (hd : (path t p).length ≠ 8) : TI (t.add p) := by
  have hn1 := h.n1
  refine ⟨⟨by show 1 ≤ t.n + 1; omega, by show t.n + 1 ≤ 16; omega⟩, by rw [add_up (by omega)]; exact h.up0, by rw [add_on (by omega)]; exact h.on0, by rw [add_up (by omega)]; exact h.up1, by rw [add_on (by omega)]; exact h.on1, fun g h1 h2 => ?_, fun g h2 => ?_⟩
  · have h3 : g ≤ t.n + 1 := h2
    by_cases e : g = t.n + 1
    · subst e; rw [add_up_new]; omega
    · rw [add_up (by omega)]; exact h.lt g h1 (by omega)
  · have h3 : g ≤ t.n + 1 := h2
    by_cases e : g = t.n + 1
    · subst e
      rw [path_add_new h hp, List.length_cons]
      have := h.dep p hp.2
      omega
    · rw [path_add h g (by omega)]; exact h.dep g (by omega)
theorem TI.off (h : TI t) (hg : 2 ≤ g) : TI (t.off g) :=
  ⟨h.n1, h.up0, by show upd t.on g false 0 = false; rw [upd_other _ _ (by omega)]; exact h.on0, h.up1, by show upd t.on g false 1 = true; rw [upd_other _ _ (by omega)]; exact h.on1, h.lt, fun x hx => by rw [path_off]; exact h.dep x hx⟩
theorem TI.new : TI noT := by
  refine ⟨⟨by decide, by decide⟩, rfl, rfl, rfl, rfl, fun g h1 h2 => ?_, fun g h => ?_⟩
  · have : g ≤ 1 := h2
    omega
  · have h1 : g ≤ 1 := h
    have : g = 0 ∨ g = 1 := by omega
    rcases this with rfl | rfl <;> decide
/-- what Add answers, and leaves -/
inductive AddIs (t : Tr) (x : Int) : Int → Int → Tr → Prop
  | no (h : t.on (nu t.n x) = false) : AddIs t x 0 110 t
  | many (g : Nat) (h : x = g) (h1 : 1 ≤ g ∧ g ≤ t.n) (ho : t.on g = true) (hn : t.n = 16) : AddIs t x 0 5 t
  | deep (g : Nat) (h : x = g) (h1 : 1 ≤ g ∧ g ≤ t.n) (ho : t.on g = true) (hn : t.n ≠ 16) (hd : (path t g).length = 8) : AddIs t x 0 5 t
  | ok (g : Nat) (h : x = g) (h1 : 1 ≤ g ∧ g ≤ t.n) (ho : t.on g = true) (hn : t.n ≠ 16) (hd : (path t g).length ≠ 8) : AddIs t x ((t.n + 1 : Nat) : Int) 0 (t.add g)
theorem add_is (h : TI t) (x : Int) : ∃ a e t', AddIs t x a e t' := by
  cases ho : t.on (nu t.n x) with
  | false => exact ⟨_, _, _, .no ho⟩
  | true =>
    have h0 : nu t.n x ≠ 0 := by
      intro e
      rw [e, h.on0] at ho
      cases ho
    obtain ⟨hx, h1⟩ := nu_pos h0
    by_cases hn : t.n = 16
    · exact ⟨_, _, _, .many _ hx h1 ho hn⟩
    · by_cases hd : (path t (nu t.n x)).length = 8
      · exact ⟨_, _, _, .deep _ hx h1 ho hn hd⟩
      · exact ⟨_, _, _, .ok _ hx h1 ho hn hd⟩
theorem AddIs.ti {x a e : Int} (h : AddIs t x a e t') (hi : TI t) : TI t' := by
  cases h with
  | ok g _ h1 _ hn hd => exact hi.add h1 hn hd
  | _ => exact hi
/-- what Offline answers, and leaves -/
inductive OffIs (t : Tr) (x : Int) : Int → Tr → Prop
  | no (h : nu t.n x = 0) : OffIs t x 110 t
  | root (h : x = 1) : OffIs t x 292 t
  | off (g : Nat) (h : x = g) (h1 : 2 ≤ g ∧ g ≤ t.n) (ho : t.on g = false) : OffIs t x 292 t
  | ok (g : Nat) (h : x = g) (h1 : 2 ≤ g ∧ g ≤ t.n) (ho : t.on g = true) : OffIs t x 0 (t.off g)
theorem off_is (t : Tr) (x : Int) : ∃ e t', OffIs t x e t' := by
  by_cases h0 : nu t.n x = 0
  · exact ⟨_, _, .no h0⟩
  · obtain ⟨hx, h1⟩ := nu_pos h0
    by_cases e : x = 1
    · exact ⟨_, _, .root e⟩
    · cases ho : t.on (nu t.n x) with
      | false => exact ⟨_, _, .off _ hx (by omega) ho⟩
      | true => exact ⟨_, _, .ok _ hx (by omega) ho⟩
theorem OffIs.ti {x e : Int} (h : OffIs t x e t') (hi : TI t) : TI t' := by
  cases h with
  | ok g _ h1 _ => exact hi.off h1.1
  | _ => exact hi
abbrev ints (l : List Nat) : List Int := l.map fun i : Nat => (i : Int)
theorem pk_ints (l : List Nat) (i : Nat) : pk (ints l) i = ((l.getD i 0 : Nat) : Int) := by
  unfold pk ints
  rw [List.getD_eq_getElem?_getD, List.getD_eq_getElem?_getD, List.getElem?_map]
  cases l[i]? <;> rfl
def belowF (t : Tr) (x y : Int) : Bool := decide (y ∈ ints (path t (nu t.n x)))
end
end Go.Proofs.Ytbdlkglngjjpjaa
