/-
  A gap is shorter than a window just if each window holds the processor; the turns that Next takes.
-/
import Derived.Test.YtkbehjkfeoffmaaGap
set_option linter.unusedVariables false
set_option linter.unusedSimpArgs false
namespace Go.Proofs.Ytkbehjkfeoffmaa
open Go Go.RowKit

theorem gap_now (l : List Int) (c : Int) (k : Nat) : (gapK l c k).2 ≤ k ∧ (∀ j, k - (gapK l c k).2 ≤ j → j < k → pk l j ≠ c) ∧ ((gapK l c k).2 < k → pk l (k - (gapK l c k).2 - 1) = c) := by
  induction k with
  | zero => simp [gapK]
  | succ k ih =>
    obtain ⟨h1, h2, h3⟩ := ih
    by_cases hx : pk l k = c
    · rw [gapK_hit l c k hx]
      refine ⟨by simp, fun j hj hk => by simp at hj; omega, fun _ => by simpa using hx⟩
    · rw [gapK_miss l c k hx]
      refine ⟨by simp; omega, fun j hj hk => ?_, fun h => ?_⟩
      · simp only at hj
        by_cases e : j = k
        · subst e; exact hx
        · exact h2 j (by omega) (by omega)
      · simp only at h ⊢
        have := h3 (by omega)
        rwa [show k + 1 - ((gapK l c k).2 + 1) - 1 = k - (gapK l c k).2 - 1 by omega]
theorem gap_window (l : List Int) (c : Int) (w k : Nat) (hw : 1 ≤ w) : (gapK l c k).1 < w ↔ ∀ a, a + w ≤ k → ∃ i, i < w ∧ pk l (a + i) = c := by
  induction k with
  | zero =>
    simp only [gapK]
    exact ⟨fun _ a h => by omega, fun _ => by omega⟩
  | succ k ih =>
    obtain ⟨h1, h2, h3⟩ := gap_now l c k
    by_cases hx : pk l k = c
    · rw [gapK_hit l c k hx]
      constructor
      · intro h a ha
        by_cases e : a + w = k + 1
        · exact ⟨w - 1, by omega, by rw [show a + (w - 1) = k by omega]; exact hx⟩
        · exact ih.1 h a (by omega)
      · intro h
        exact ih.2 (fun a ha => h a (by omega))
    · rw [gapK_miss l c k hx]
      simp only
      constructor
      · intro h a ha
        by_cases e : a + w = k + 1
        · have hk := h3 (by omega)
          exact ⟨k - (gapK l c k).2 - 1 - a, by omega, by rw [show a + (k - (gapK l c k).2 - 1 - a) = k - (gapK l c k).2 - 1 by omega]; exact hk⟩
        · exact ih.1 (by omega) a (by omega)
      · intro h
        have hm := ih.2 (fun a ha => h a (by omega))
        have hn : (gapK l c k).2 + 1 < w := by
          apply Classical.byContradiction
          intro hc
          obtain ⟨i, hi, hp⟩ := h (k + 1 - w) (by omega)
          by_cases e : k + 1 - w + i = k
          · rw [e] at hp; exact hx hp
          · exact h2 _ (by omega) (by omega) hp
        omega
theorem gapF_window (l : List Int) (c : Int) (w : Nat) (hw : 1 ≤ w) : gapF l c < w ↔ ∀ a, a + w ≤ l.length → ∃ i, i < w ∧ pk l (a + i) = c := gap_window l c w l.length hw

/-- k processors of C, one behind the other, from p on -/
def turns (C p k : Nat) : List Int := (List.range k).map fun j => (((p + j) % C : Nat) : Int)
theorem turns_length (C p k : Nat) : (turns C p k).length = k := by simp [turns]
theorem turns_succ (C p k : Nat) : turns C p (k + 1) = turns C p k ++ [(((p + k) % C : Nat) : Int)] := by simp [turns, List.range_succ]
theorem turns_at (C p k j : Nat) (h : j < k) : pk (turns C p k) j = (((p + j) % C : Nat) : Int) := by simp [pk, turns, h]
theorem turn_to (C q c : Nat) (hc : c < C) : ∃ i, i < C ∧ (q + i) % C = c := by
  have hq := Nat.mod_lt q (show 0 < C by omega)
  by_cases h : q % C ≤ c
  · refine ⟨c - q % C, by omega, ?_⟩
    rw [Nat.add_mod, Nat.mod_eq_of_lt (show c - q % C < C by omega), show q % C + (c - q % C) = c by omega, Nat.mod_eq_of_lt hc]
  · refine ⟨c + C - q % C, by omega, ?_⟩
    rw [Nat.add_mod, Nat.mod_eq_of_lt (show c + C - q % C < C by omega), show q % C + (c + C - q % C) = c + C by omega, Nat.add_mod_right, Nat.mod_eq_of_lt hc]
theorem turns_fair (C p k : Nat) (h1 : 1 ≤ C) (h8 : C ≤ 8) : fairF (turns C p k) C C = true := by
  refine fairF_end _ _ _ C (by omega) (by omega) (by omega) (by omega) (fun c hc => ?_)
  have : gapF (turns C p k) c < C := by
    rw [gapF_window _ _ _ h1]
    intro a ha
    rw [turns_length] at ha
    obtain ⟨i, hi, he⟩ := turn_to C (p + a) c hc
    refine ⟨i, hi, ?_⟩
    rw [turns_at _ _ _ _ (by omega), ← Nat.add_assoc, he]
  omega
theorem turns_tight (C p k : Nat) (h2 : 2 ≤ C) (h8 : C ≤ 8) (hk : C ≤ k) : fairF (turns C p k) C ((C : Int) - 1) = false := by
  have hc := Nat.mod_lt (p + (C - 1)) (show 0 < C by omega)
  refine fairF_stop _ _ _ ((p + (C - 1)) % C) (by omega) ?_
  apply Classical.byContradiction
  intro h
  have hlt : gapF (turns C p k) (((p + (C - 1)) % C : Nat) : Int) < C - 1 := by omega
  rw [gapF_window _ _ _ (by omega)] at hlt
  obtain ⟨i, hi, he⟩ := hlt 0 (by rw [turns_length]; omega)
  rw [turns_at _ _ _ _ (by omega), Nat.zero_add] at he
  have he2 : (p + i) % C = (p + (C - 1)) % C := by omega
  have h3 := Nat.div_add_mod (p + i) C
  have h4 := Nat.div_add_mod (p + (C - 1)) C
  rw [he2] at h3
  have h5 : C * ((p + (C - 1)) / C) = C * ((p + i) / C) + (C - 1 - i) := by omega
  have h6 : C - 1 - i = C * ((p + (C - 1)) / C - (p + i) / C) := by rw [Nat.mul_sub]; omega
  generalize (p + (C - 1)) / C - (p + i) / C = d at h6
  cases d with
  | zero => simp at h6; omega
  | succ d =>
    have : C ≤ C * (d + 1) := Nat.le_mul_of_pos_right C (by omega)
    omega
end Go.Proofs.Ytkbehjkfeoffmaa
