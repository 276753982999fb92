/-
  Rows of records: which may be, what Add, Ready make of them.
-/
import Derived.Test.YtnnpclknlccmiaaBase

set_option linter.unusedVariables false
set_option linter.unusedSimpArgs false
namespace Go.Proofs.Ytnnpclknlccmiaa
open Go

/-- a record may stand behind one of m -/
def Wt.fit (m : Int) (x : Wt) : Prop := 0 ≤ x.who ∧ x.who ≤ 9007199254740991 ∧ m ≤ x.due ∧ x.due ≤ 9007199254740991
instance (m : Int) (x : Wt) : Decidable (x.fit m) := by unfold Wt.fit; infer_instance
/-- records that may stand behind one of m -/
def goB : Int → List Wt → Bool
  | _, [] => true
  | m, x :: r => decide (x.fit m) && goB x.due r
theorem goB_nil (m : Int) : goB m [] = true := rfl
theorem goB_yes {m : Int} {x : Wt} (r : List Wt) (h : x.fit m) : goB m (x :: r) = goB x.due r := by simp [goB, h]
theorem goB_no {m : Int} {x : Wt} (r : List Wt) (h : ¬ x.fit m) : goB m (x :: r) = false := by simp [goB, h]
theorem goB_iff {m : Int} {x : Wt} {r : List Wt} : goB m (x :: r) = true ↔ (0 ≤ x.who ∧ x.who ≤ 9007199254740991 ∧ m ≤ x.due ∧ x.due ≤ 9007199254740991) ∧ goB x.due r = true := by
  show (decide (x.fit m) && goB x.due r) = true ↔ _
  rw [Bool.and_eq_true, decide_eq_true_eq]
  rfl
theorem drop_wt {l : List Wt} {k : Nat} (hk : k < l.length) : l.drop k = wt l k :: l.drop (k + 1) := by
  rw [List.drop_eq_getElem_cons hk, wt_at l k hk]
theorem go_yes {l : List Wt} {m : Int} {k : Nat} (hk : k < l.length) (h : goB 1 l = goB m (l.drop k)) (hf : (wt l k).fit m) : goB 1 l = goB (wt l k).due (l.drop (k + 1)) := by
  rw [h, drop_wt hk, goB_yes _ hf]
theorem go_no {l : List Wt} {m : Int} {k : Nat} (hk : k < l.length) (h : goB 1 l = goB m (l.drop k)) (hf : ¬ (wt l k).fit m) : goB 1 l = false := by
  rw [h, drop_wt hk, goB_no _ hf]
theorem go_all {l : List Wt} {m : Int} (h : goB 1 l = goB m (l.drop l.length)) : goB 1 l = true := by
  rw [h, List.drop_length, goB_nil]
/-- what Check answers -/
def chkF (l : List Wt) : Int := if 256 < l.length then 5 else if goB 1 l = true then 0 else 2
theorem chk_big {l : List Wt} (h : 256 < l.length) : chkF l = 5 := by simp [chkF, h]
theorem chk_ok {l : List Wt} (h : l.length ≤ 256) (g : goB 1 l = true) : chkF l = 0 := by simp [chkF, g]; omega
theorem chk_arg {l : List Wt} (h : l.length ≤ 256) (g : goB 1 l = false) : chkF l = 2 := by simp [chkF, g]; omega
theorem chk_three (l : List Wt) : (chkF l = 5 ∧ 256 < l.length) ∨ (chkF l = 0 ∧ l.length ≤ 256 ∧ goB 1 l = true) ∨ (chkF l = 2 ∧ l.length ≤ 256 ∧ goB 1 l = false) := by
  by_cases h : 256 < l.length
  · exact .inl ⟨chk_big h, h⟩
  · cases g : goB 1 l
    · exact .inr (.inr ⟨chk_arg (by omega) g, by omega, rfl⟩)
    · exact .inr (.inl ⟨chk_ok (by omega) g, by omega, rfl⟩)
theorem chk_len {l : List Wt} (h : chkF l = 0) : l.length ≤ 256 := by
  rcases chk_three l with ⟨e, _⟩ | ⟨_, h, _⟩ | ⟨e, _⟩
  · omega
  · exact h
  · omega
theorem chk_go {l : List Wt} : chkF l = 0 ↔ l.length ≤ 256 ∧ goB 1 l = true := by
  constructor
  · intro h
    rcases chk_three l with ⟨e, _⟩ | ⟨_, h⟩ | ⟨e, _⟩
    · omega
    · exact h
    · omega
  · rintro ⟨h, g⟩
    exact chk_ok h g
/-- the beginning of a row that may be may be -/
theorem goB_append (m : Int) (a b : List Wt) (h : goB m (a ++ b) = true) : goB m a = true := by
  induction a generalizing m with
  | nil => rfl
  | cons x r ih =>
    rw [List.cons_append, goB_iff] at h
    exact goB_iff.2 ⟨h.1, ih _ h.2⟩
theorem goB_drop (m : Int) (a b : List Wt) (hm : 1 ≤ m) (h : goB m (a ++ b) = true) : goB 1 b = true := by
  induction a generalizing m with
  | nil =>
    cases b with
    | nil => rfl
    | cons x r =>
      rw [List.nil_append, goB_iff] at h
      exact goB_iff.2 ⟨⟨h.1.1, h.1.2.1, by omega, h.1.2.2.2⟩, h.2⟩
  | cons x r ih =>
    rw [List.cons_append, goB_iff] at h
    exact ih x.due (by omega) h.2
theorem chk_drop {l : List Wt} (h : chkF l = 0) (k : Nat) : chkF (l.drop k) = 0 := by
  obtain ⟨h1, h2⟩ := chk_go.1 h
  refine chk_go.2 ⟨by simp; omega, goB_drop 1 (l.take k) _ (Int.le_refl _) ?_⟩
  rw [List.take_append_drop]; exact h2
/-- in a row that may be none waits for less than the one ahead -/
theorem goB_sorted (m : Int) (l : List Wt) (h : goB m l = true) : ∀ j, j < l.length → m ≤ (wt l j).due := by
  induction l generalizing m with
  | nil => intro j hj; simp at hj
  | cons x r ih =>
    rw [goB_iff] at h
    intro j hj
    cases j with
    | zero => exact h.1.2.2.1
    | succ j =>
      have := ih x.due h.2 j (by simpa using hj)
      have e : wt (x :: r) (j + 1) = wt r j := by simp [wt]
      rw [e]
      omega
theorem wt_drop (l : List Wt) (k j : Nat) : wt (l.drop k) j = wt l (k + j) := by simp [wt, List.getD_eq_getElem?_getD, List.getElem?_drop]
theorem due_le {l : List Wt} (h : goB 1 l = true) {i j : Nat} (hij : i ≤ j) (hj : j < l.length) : (wt l i).due ≤ (wt l j).due := by
  by_cases e : i = j
  · subst e; exact Int.le_refl _
  have hi : i < l.length := by omega
  have h1 : goB 1 (l.drop i) = true := goB_drop 1 (l.take i) _ (Int.le_refl _) (by rw [List.take_append_drop]; exact h)
  rw [drop_wt hi] at h1
  rw [goB_iff] at h1
  have := goB_sorted _ _ h1.2 (j - (i + 1)) (by simp; omega)
  rw [wt_drop, show i + 1 + (j - (i + 1)) = j by omega] at this
  exact this
/-- what Add answers: the error, the row -/
def addF (l : List Wt) (x : Wt) : Int := if chkF l = 0 then chkF (l ++ [x]) else chkF l
def addL (l : List Wt) (x : Wt) : List Wt := if addF l x = 0 then l ++ [x] else []
theorem add_bad {l : List Wt} {x : Wt} (h : chkF l ≠ 0) : addF l x = chkF l ∧ addL l x = [] := by
  have : addF l x = chkF l := by simp [addF, h]
  exact ⟨this, by simp [addL, this, h]⟩
theorem add_no {l : List Wt} {x : Wt} (h : chkF l = 0) (g : chkF (l ++ [x]) ≠ 0) : addF l x = chkF (l ++ [x]) ∧ addL l x = [] := by
  have : addF l x = chkF (l ++ [x]) := by simp [addF, h]
  exact ⟨this, by simp [addL, this, g]⟩
theorem add_yes {l : List Wt} {x : Wt} (h : chkF l = 0) (g : chkF (l ++ [x]) = 0) : addF l x = 0 ∧ addL l x = l ++ [x] := by
  have : addF l x = 0 := by simp [addF, h, g]
  exact ⟨this, by simp [addL, this]⟩
theorem snoc_five {l : List Wt} {x : Wt} (h : chkF l = 0) (hl : l.length = 256) : chkF (l ++ [x]) = 5 := chk_big (by simp; omega)
theorem snoc_two {l : List Wt} {x : Wt} (h : chkF l = 0) (hl : l.length ≠ 256) (g : chkF (l ++ [x]) ≠ 0) : chkF (l ++ [x]) = 2 := by
  have := chk_len h
  rcases chk_three (l ++ [x]) with ⟨_, e⟩ | ⟨e, _⟩ | ⟨e, _⟩
  · simp at e; omega
  · exact absurd e g
  · exact e
/-- how many are ready: of all that are ahead none waits for more than d -/
def cutN (d : Int) : List Wt → Nat
  | [] => 0
  | x :: r => if x.due ≤ d then cutN d r + 1 else 0
theorem cutN_le (d : Int) (l : List Wt) : cutN d l ≤ l.length := by
  induction l with
  | nil => exact Nat.le_refl _
  | cons x r ih => simp only [cutN]; split <;> simp <;> omega
theorem cutN_lt (d : Int) (l : List Wt) : ∀ j, j < cutN d l → (wt l j).due ≤ d := by
  induction l with
  | nil => intro j hj; simp [cutN] at hj
  | cons x r ih =>
    intro j hj
    simp only [cutN] at hj
    split at hj
    · rename_i hx
      cases j with
      | zero => exact hx
      | succ j => have := ih j (by omega); simpa [wt] using this
    · omega
theorem cutN_at (d : Int) (l : List Wt) (h : cutN d l < l.length) : d < (wt l (cutN d l)).due := by
  induction l with
  | nil => simp at h
  | cons x r ih =>
    by_cases hx : x.due ≤ d
    · have e : cutN d (x :: r) = cutN d r + 1 := by simp [cutN, hx]
      rw [e] at h ⊢
      have := ih (by simpa using h)
      simpa [wt] using this
    · have e : cutN d (x :: r) = 0 := by simp [cutN, hx]
      rw [e]
      simp [wt]
      omega
/-- that it is this many -/
theorem cutN_is {d : Int} {l : List Wt} {k : Nat} (hk : k ≤ l.length) (h1 : ∀ j, j < k → (wt l j).due ≤ d) (h2 : k < l.length → d < (wt l k).due) : cutN d l = k := by
  have a := cutN_le d l
  rcases Nat.lt_trichotomy (cutN d l) k with h | h | h
  · have := cutN_at d l (by omega); have := h1 _ h; omega
  · exact h
  · have := cutN_lt d l k h; have := h2 (by omega); omega
/-- what Ready answers: the Ids, the others -/
def ids (l : List Wt) : List Int := l.map Wt.who
theorem ids_length (l : List Wt) : (ids l).length = l.length := by simp [ids]
def rdyI (l : List Wt) (d : Int) : List Int := if chkF l = 0 then ids (l.take (cutN d l)) else []
def rdyR (l : List Wt) (d : Int) : List Wt := if chkF l = 0 then l.drop (cutN d l) else []
theorem rdy_ok {l : List Wt} {d : Int} (h : chkF l = 0) : rdyI l d = ids (l.take (cutN d l)) ∧ rdyR l d = l.drop (cutN d l) := by simp [rdyI, rdyR, h]
theorem rdy_no {l : List Wt} {d : Int} (h : chkF l ≠ 0) : rdyI l d = [] ∧ rdyR l d = [] := by simp [rdyI, rdyR, h]
theorem take_more {l : List Wt} {k : Nat} (hk : k < l.length) : ids (l.take (k + 1)) = ids (l.take k) ++ [(wt l k).who] := by
  unfold ids
  rw [List.take_succ_eq_append_getElem hk, List.map_append, wt_at l k hk]
  rfl
end Go.Proofs.Ytnnpclknlccmiaa
