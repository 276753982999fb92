/-
  An array beside the stocks; what all stocks have, group by group, and stock by stock.
-/
import Derived.Test.YthjonjkeaiobdaaOne
import Derived.Test.YthjonjkeaiobdaaDo
set_option linter.unusedVariables false
set_option linter.unusedSimpArgs false
namespace Go.Proofs.Ythjonjkeaiobdaa
open Go Go.RowKit

def updI (f : Nat → Int) (g : Nat) (v : Int) (i : Nat) : Int := if i = g then v else f i
def ownF (own : Nat → Int) (x : Nat) : Value := .int .i64 (own x)
theorem ownF_upd (own : Nat → Int) (z : Nat) (v : Int) (j : Nat) : (if j = z then Value.int .i64 v else ownF own j) = ownF (updI own z v) j := by
  unfold ownF updI
  by_cases e : j = z
  · rw [if_pos e, if_pos e]
  · rw [if_neg e, if_neg e]
section
variable {W w w' : World} {B r c U : Nat} {t t' : Sk} {fu fu' : Nat → Value}
/-- an array beside the stocks -/
structure UK (W w : World) (B r c : Nat) (t : Sk) (U : Nat) (fu : Nat → Value) : Prop where
  o : S1 W w B r c t
  u : w.rowIs U 38 17 fu
  ge : W.heap.size ≤ U
theorem UK.kt (h : UK W w B r c t U fu) (ho : S1 W w' B r c t') (hk : KT tysA w w') : UK W w' B r c t' U fu := ⟨ho, hk.row h.u (by decide), h.ge⟩
theorem UK.below (h : UK W w B r c t U fu) (hb : Below w.heap.size w w') : UK W w' B r c t U fu := h.kt (h.o.below hb) (KT.ofBelow hb)
theorem UK.drew (h : UK W w B r c t U fu) : UK W w.drew B r c t U fu := h.below (Below.refl _ w).drew
theorem UK.setU (h : UK W w B r c t U fu) (i : Nat) (v : Value) (hf : ∀ j, (if j = i then v else fu j) = fu' j) : UK W (w.setCell ⟨U, i, none⟩ v) B r c t U fu' := by
  have hk : Kept (· = U) w (w.setCell ⟨U, i, none⟩ v) := Kept.setCell (S := (· = U)) (p := ⟨U, i, none⟩) (Kept.refl _ w) rfl _
  exact ⟨h.o.kt ⟨_, hk, row_typ h.u⟩ (below_kept h.o.low hk (fun k e => by subst e; exact h.ge)) (by decide), (h.u.set i v).congr (fun j _ => hf j), h.ge⟩
theorem UK.cu (h : UK W w B r c t U fu) {i : Nat} (hi : i < 17) : w.cell? ⟨U, i, none⟩ = some (fu i) := h.u.cell hi
end
/-! ### sums -/
theorem gOf_if (g n x : Int) : (if gOf g n = x then n else 0) = if g = x then n else 0 := by
  unfold gOf
  by_cases h : n = 0
  · subst h; simp
  · rw [if_neg h]
/-- a stock is written: what all have of a group -/
theorem held_new (t : Sk) {k c : Nat} (hk : k < c) (g n x : Int) : held (t.put k g n) x c = held t x c + ((if g = x then n else 0) - (if t.g k = x then t.n k else 0)) := by
  rw [held_put, if_pos hk, gOf_if]
theorem TakeIs.bal {c : Nat} {t t' : Sk} {x g n : Int} {q : Bool} (hr : TakeIs c t x g n q t') : (q = false ∧ t' = t) ∨ (q = true ∧ ∀ y, held t' y c = held t y c - (if g = y then n else 0)) := by
  cases hr with
  | ok k hx hk h1 hg hn =>
    refine .inr ⟨rfl, fun y => ?_⟩
    rw [held_new t hk, hg]
    split <;> omega
  | _ => exact .inl ⟨rfl, rfl⟩
theorem PutIs.bal {c : Nat} {t t' : Sk} {x g n a b e : Int} (hs : SI c t) (hr : PutIs c t x g n a b e t') : (e ≠ 0 ∧ t' = t) ∨ (e = 0 ∧ (∃ z : Nat, a = z ∧ z < 17) ∧ (0 ≤ b ∧ b ≤ n + 1024) ∧ ∀ y, held t' y c = held t y c + (if g = y then n else 0) - (if a = y then b else 0)) := by
  cases hr with
  | bad h => exact .inl ⟨h, rfl⟩
  | big => exact .inl ⟨by decide, rfl⟩
  | swap k hx hk h1 h2 h0 hg h =>
    have h3 := hs k hk
    refine .inr ⟨rfl, ⟨(t.g k).toNat, by unfold okS isG at h3; omega, by unfold okS isG at h3; omega⟩, by have := h3.b; unfold isN at h2; omega, fun y => ?_⟩
    rw [held_new t hk]
    omega
  | fits k hx hk h1 h2 h0 h =>
    refine .inr ⟨rfl, ⟨0, rfl, by decide⟩, by unfold isN at h2; omega, fun y => ?_⟩
    rw [held_new t hk]
    rcases h0 with h0 | h0
    · rw [h0]
      split <;> split <;> split <;> omega
    · rw [h0]
      split <;> split <;> omega
  | over k hx hk h1 h2 h0 h =>
    have h3 := hs k hk
    refine .inr ⟨rfl, ⟨g.toNat, by unfold isG at h1; omega, by unfold isG at h1; omega⟩, by have := h3.b; unfold isN at h2; omega, fun y => ?_⟩
    rw [held_new t hk]
    rcases h0 with h0 | h0
    · rw [h0]
      split <;> split <;> omega
    · rw [h0]
      split <;> omega
theorem DrainIs.bal {c : Nat} {t t' : Sk} {x a b : Int} (hs : SI c t) (hr : DrainIs c t x a b t') : (∃ z : Nat, a = z ∧ z < 17) ∧ (0 ≤ b ∧ b ≤ 1024) ∧ ∀ y, held t' y c = held t y c - (if a = y then b else 0) := by
  cases hr with
  | bad h => exact ⟨⟨0, rfl, by decide⟩, by decide, fun y => by split <;> omega⟩
  | ok k hx hk =>
    have h3 := hs k hk
    refine ⟨⟨(t.g k).toNat, by unfold okS isG at h3; omega, by unfold okS isG at h3; omega⟩, h3.b, fun y => ?_⟩
    rw [held_new t hk]
    split <;> split <;> omega
/-- of no group nothing is there -/
theorem held_zero {c : Nat} {t : Sk} (h : SI c t) {m : Nat} (hm : m ≤ c) : held t 0 m = 0 := by
  induction m with
  | zero => rfl
  | succ m ih =>
    have h1 := h m (by omega)
    rw [held_step, ih (by omega)]
    split
    · unfold okS isG at h1; omega
    · rfl
/-- of the groups from 1 to less than k -/
def sumB (t : Sk) (m : Nat) : Nat → Int
  | 0 => 0
  | k + 1 => sumB t m k + (if 1 ≤ k then held t k m else 0)
theorem sumB_step (t : Sk) (m : Nat) {k : Nat} (h : 1 ≤ k) : sumB t m (k + 1) = sumB t m k + held t k m := by rw [sumB, if_pos h]
/-- of the first m stocks -/
def tot (t : Sk) : Nat → Int
  | 0 => 0
  | m + 1 => tot t m + t.n m
theorem tot_step (t : Sk) (m : Nat) : tot t (m + 1) = tot t m + t.n m := rfl
theorem sumB_more (t : Sk) (m k : Nat) : sumB t (m + 1) k = sumB t m k + (if 1 ≤ t.g m ∧ t.g m < k then t.n m else 0) := by
  induction k with
  | zero => rw [if_neg (by omega)]; rfl
  | succ k ih =>
    rw [sumB, sumB, ih, held_step]
    by_cases h1 : 1 ≤ k
    · rw [if_pos h1, if_pos h1]
      by_cases e : t.g m = (k : Int)
      · rw [if_neg (by omega), if_pos e, if_pos (by omega)]; omega
      · rw [if_neg e]
        by_cases e2 : 1 ≤ t.g m ∧ t.g m < (k : Int)
        · rw [if_pos e2, if_pos (by omega)]; omega
        · rw [if_neg e2, if_neg (by omega)]; omega
    · rw [if_neg h1, if_neg h1, if_neg (by omega), if_neg (by omega)]
      try omega
theorem sumB_zero (t : Sk) (k : Nat) : sumB t 0 k = 0 := by
  induction k with
  | zero => rfl
  | succ k ih => rw [sumB, ih]; split <;> rfl
theorem sumB_tot {c : Nat} {t : Sk} (h : SI c t) {m : Nat} (hm : m ≤ c) : sumB t m 17 = tot t m := by
  induction m with
  | zero => exact sumB_zero t 17
  | succ m ih =>
    have h1 := h m (by omega)
    rw [sumB_more, tot_step, ih (by omega)]
    unfold okS isG at h1
    split <;> omega
theorem sumB_bounds {c : Nat} {t : Sk} (h : SI c t) (k : Nat) : 0 ≤ sumB t c k ∧ sumB t c k ≤ k * (c * 1024) := by
  induction k with
  | zero => exact ⟨Int.le_refl _, by simp [sumB]⟩
  | succ k ih =>
    have h2 := held_bounds h k (Nat.le_refl c)
    have e : ((k + 1 : Nat) : Int) * (c * 1024) = k * (c * 1024) + c * 1024 := by rw [Int.natCast_succ, Int.add_mul, Int.one_mul]
    rw [sumB, e]
    generalize (k : Int) * (c * 1024) = X at *
    split <;> omega
theorem tot_bounds {c : Nat} {t : Sk} (h : SI c t) {m : Nat} (hm : m ≤ c) : 0 ≤ tot t m ∧ tot t m ≤ m * 1024 := by
  induction m with
  | zero => exact ⟨Int.le_refl _, Int.le_refl _⟩
  | succ m ih =>
    have h1 := ih (by omega)
    have h2 := (h m (by omega)).b
    rw [tot_step]
    omega
end Go.Proofs.Ythjonjkeaiobdaa
