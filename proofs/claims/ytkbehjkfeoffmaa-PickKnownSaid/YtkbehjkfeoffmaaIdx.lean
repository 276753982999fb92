/-
  Who runs, counted: the p-th one, how many run ahead of one; what PickAll's table holds behind i picks.
-/
import Derived.Test.YtkbehjkfeoffmaaWorks
set_option linter.unusedVariables false
set_option linter.unusedSimpArgs false
namespace Go.Proofs.Ytkbehjkfeoffmaa
open Go Go.RowKit

theorem getD_left (a b : List Nat) (p : Nat) (h : p < a.length) : (a ++ b).getD p 0 = a.getD p 0 := by
  simp only [List.getD]
  rw [List.getElem?_append_left h]
theorem rank_at (l : List Bool) (m p : Nat) (h : p < (idx l m).length) : (idx l m).getD p 0 < m ∧ run l ((idx l m).getD p 0) = true ∧ (idx l ((idx l m).getD p 0)).length = p := by
  induction m with
  | zero => simp [idx] at h
  | succ m ih =>
    cases hr : run l m with
    | false =>
      rw [idx_no hr] at h ⊢
      obtain ⟨h1, h2, h3⟩ := ih h
      exact ⟨by omega, h2, h3⟩
    | true =>
      rw [idx_yes hr] at h ⊢
      by_cases hp : p < (idx l m).length
      · have e : (idx l m ++ [m]).getD p 0 = (idx l m).getD p 0 := getD_left _ _ _ hp
        rw [e]
        obtain ⟨h1, h2, h3⟩ := ih hp
        exact ⟨by omega, h2, h3⟩
      · have hpe : p = (idx l m).length := by simp at h; omega
        have e : (idx l m ++ [m]).getD p 0 = m := by rw [hpe]; simp [List.getD]
        rw [e]
        exact ⟨by omega, hr, hpe.symm⟩
theorem at_rank (l : List Bool) (c m : Nat) (h : c < m) (hc : run l c = true) : (idx l c).length < (idx l m).length ∧ (idx l m).getD (idx l c).length 0 = c := by
  induction m with
  | zero => omega
  | succ m ih =>
    by_cases hcm : c = m
    · subst hcm
      rw [idx_yes hc]
      refine ⟨by simp, by simp [List.getD]⟩
    · obtain ⟨h1, h2⟩ := ih (by omega)
      cases hr : run l m with
      | false =>
        rw [idx_no hr]
        exact ⟨h1, h2⟩
      | true =>
        rw [idx_yes hr]
        refine ⟨by simp; omega, ?_⟩
        rw [getD_left _ _ _ h1]
        exact h2
/-- how often processor c was told behind i picks from y on -/
def toldK (l : List Bool) (m : Nat) (y : Int) (i c : Nat) : Int := if run l c = true ∧ (((idx l c).length : Int) - y) % ((idx l m).length : Int) < i then 1 else 0
theorem told_start (l : List Bool) (m : Nat) (y : Int) (c : Nat) (hc : c < m) : toldK l m y 0 c = 0 := by
  unfold toldK
  rw [if_neg]
  rintro ⟨h1, h2⟩
  have := (at_rank l c m hc h1).1
  have := Int.emod_nonneg (((idx l c).length : Int) - y) (b := ((idx l m).length : Int)) (by omega)
  simp at h2
  omega
theorem told_end (l : List Bool) (m : Nat) (y : Int) (c : Nat) (hc : c < m) : toldK l m y (idx l m).length c = if run l c = true then 1 else 0 := by
  unfold toldK
  by_cases h1 : run l c = true
  · have := (at_rank l c m hc h1).1
    have := Int.emod_lt_of_pos (((idx l c).length : Int) - y) (b := ((idx l m).length : Int)) (by omega)
    rw [if_pos ⟨h1, this⟩, if_pos h1]
  · rw [if_neg (fun h => h1 h.1), if_neg h1]
/-- who is told at the i-th pick -/
theorem told_step (l : List Bool) (m : Nat) (y : Int) (i : Nat) (hi : i < (idx l m).length) :
    ∃ c, (idx l m).getD (bring (y + i) (idx l m).length) 0 = c ∧ c < m ∧ run l c = true ∧ toldK l m y i c = 0 ∧ ∀ d, d < m → toldK l m y (i + 1) d = if d = c then 1 else toldK l m y i d := by
  have hb := bring_lt (y + i) (idx l m).length (by omega)
  obtain ⟨h1, h2, h3⟩ := rank_at l m _ hb
  have hbi := bring_int (y + i) (idx l m).length (by omega)
  obtain ⟨n, hn⟩ : ∃ n, (idx l m).length = n := ⟨_, rfl⟩
  obtain ⟨c, hc⟩ : ∃ c, (idx l m).getD (bring (y + i) (idx l m).length) 0 = c := ⟨_, rfl⟩
  rw [hc] at h1 h2 h3
  refine ⟨c, hc, h1, h2, ?_, ?_⟩
  · unfold toldK
    rw [if_neg]
    rintro ⟨_, h⟩
    rw [h3, hbi, Int.emod_sub_emod, show y + (i : Int) - y = i by omega, Int.emod_eq_of_lt (by omega) (by omega)] at h
    omega
  · intro d hd
    by_cases e : d = c
    · subst e
      rw [if_pos rfl]
      unfold toldK
      rw [if_pos]
      refine ⟨h2, ?_⟩
      rw [h3, hbi, Int.emod_sub_emod, show y + (i : Int) - y = i by omega, Int.emod_eq_of_lt (by omega) (by omega)]
      omega
    · rw [if_neg e]
      unfold toldK
      by_cases hr : run l d = true
      · obtain ⟨g1, g2⟩ := at_rank l d m hd hr
        have hne : (((idx l d).length : Int) - y) % ((idx l m).length : Int) ≠ i := by
          intro he
          apply e
          rw [← g2, ← hc]
          congr 1
          have h5 : (bring (y + i) (idx l m).length : Int) = ((idx l d).length : Int) := by
            rw [hbi, ← he, Int.add_emod_emod, show y + (((idx l d).length : Int) - y) = ((idx l d).length : Int) by omega, Int.emod_eq_of_lt (by omega) (by omega)]
          omega
        have : ((((idx l d).length : Int) - y) % ((idx l m).length : Int) < ((i + 1 : Nat) : Int)) ↔ ((((idx l d).length : Int) - y) % ((idx l m).length : Int) < (i : Int)) := by omega
        simp only [hr, true_and, this]
      · rw [if_neg (fun h => hr h.1), if_neg (fun h => hr h.1)]
/-- somebody runs -/
theorem pickF_is (l : List Bool) (x : Int) : ((pickF l x).isSome = decide (0 < (idx l l.length).length)) := by
  by_cases h : (idx l l.length).length = 0
  · rw [pickF_none h, h]
    rfl
  · rw [pickF_some (by omega)]
    simp
    cases hh : idx l l.length with
    | nil => rw [hh] at h; simp at h
    | cons a r => simp
theorem firstOf_some {f : Nat → Nat} {p : Nat → Bool} {n c : Nat} (h : firstOf f p n = some c) : ∃ j, j < n ∧ f j = c ∧ p c = true := by
  induction n with
  | zero => simp [firstOf] at h
  | succ n ih =>
    simp only [firstOf] at h
    split at h
    · rename_i c' hc
      obtain rfl : c' = c := by simpa using h
      obtain ⟨j, hj, h1, h2⟩ := ih hc
      exact ⟨j, by omega, h1, h2⟩
    · by_cases hp : p (f n) = true
      · rw [if_pos hp] at h
        obtain rfl : f n = c := by simpa using h
        exact ⟨n, by omega, rfl, hp⟩
      · rw [if_neg hp] at h
        simp at h
theorem nextF_is (l : List Bool) (x : Int) : ((nextF l x).isSome = decide (0 < (idx l l.length).length)) := by
  cases hx : nextF l x with
  | some c =>
    obtain ⟨j, hj, h1, h2⟩ := firstOf_some hx
    have hc : c < l.length := by rw [← h1]; exact Nat.mod_lt _ (by omega)
    have := (at_rank l c _ hc h2).1
    simp
    omega
  | none =>
    by_cases h0 : 0 < (idx l l.length).length
    · obtain ⟨h1, h2, _⟩ := rank_at l _ 0 h0
      obtain ⟨c, hc⟩ : ∃ c, (idx l l.length).getD 0 0 = c := ⟨_, rfl⟩
      rw [hc] at h1 h2
      exfalso
      obtain ⟨s, hs⟩ : ∃ s, startN l.length x = s := ⟨_, rfl⟩
      have hsl := startN_le l.length x
      rw [hs] at hsl
      obtain ⟨j, hj, hj2⟩ : ∃ j, j < l.length ∧ (s + j) % l.length = c := by
        by_cases hcs : s ≤ c
        · exact ⟨c - s, by omega, by rw [show s + (c - s) = c by omega, Nat.mod_eq_of_lt h1]⟩
        · exact ⟨c + l.length - s, by omega, by rw [show s + (c + l.length - s) = c + l.length by omega, Nat.add_mod_right, Nat.mod_eq_of_lt h1]⟩
      have key : ∀ k, firstOf (fun j => (s + j) % l.length) (run l) k = none → ∀ j, j < k → run l ((s + j) % l.length) = false := by
        intro k
        induction k with
        | zero => intro _ j hj; omega
        | succ k ih =>
          intro hk j hj
          simp only [firstOf] at hk
          split at hk
          · simp at hk
          · rename_i hn
            by_cases hp : run l ((s + k) % l.length) = true
            · rw [if_pos hp] at hk
              simp at hk
            · by_cases e : j = k
              · subst e
                simpa using hp
              · exact ih hn j (by omega)
      have := key l.length (by unfold nextF at hx; rw [hs] at hx; exact hx) j hj
      rw [hj2, h2] at this
      simp at this
    · simp [h0]
end Go.Proofs.Ytkbehjkfeoffmaa
