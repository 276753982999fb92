/-
  Stocks: a group and bytes for each processor; what the calls answer, as relations; what all stocks have of a group, together.
-/
import Derived.Test.YthjonjkeaiobdaaBase
set_option linter.unusedVariables false
set_option linter.unusedSimpArgs false
namespace Go.Proofs.Ythjonjkeaiobdaa
open Go Go.RowKit

/-- the stocks: of each processor a group and bytes -/
structure Sk where
  g : Nat → Int
  n : Nat → Int
def noS : Sk := ⟨fun _ => 0, fun _ => 0⟩
/-- of no bytes: nothing -/
def gOf (g n : Int) : Int := if n = 0 then 0 else g
def Sk.put (t : Sk) (k : Nat) (g n : Int) : Sk := ⟨fun i => if i = k then gOf g n else t.g i, fun i => if i = k then n else t.n i⟩
def isG (x : Int) : Prop := 1 ≤ x ∧ x ≤ 16
instance (x : Int) : Decidable (isG x) := by unfold isG; infer_instance
def isN (x : Int) : Prop := 0 ≤ x ∧ x ≤ 9007199254740991
instance (x : Int) : Decidable (isN x) := by unfold isN; infer_instance
/-- what a stock is -/
def okS (g n : Int) : Prop := (g = 0 ∧ n = 0) ∨ (isG g ∧ 1 ≤ n ∧ n ≤ 1024)
def SI (c : Nat) (t : Sk) : Prop := ∀ i, i < c → okS (t.g i) (t.n i)
theorem SI.new (c : Nat) : SI c noS := fun i _ => .inl ⟨rfl, rfl⟩
theorem okS.b {g n : Int} (h : okS g n) : 0 ≤ n ∧ n ≤ 1024 := by unfold okS at h; omega
theorem okS.of {g n : Int} (h1 : isG g ∨ n = 0) (h2 : 0 ≤ n) (h3 : n ≤ 1024) : okS (gOf g n) n := by
  unfold okS gOf
  by_cases e : n = 0
  · rw [if_pos e]; exact .inl ⟨rfl, e⟩
  · rw [if_neg e]; exact .inr ⟨by rcases h1 with h1 | h1 <;> first | exact h1 | exact absurd h1 e, by omega, h3⟩
theorem SI.put {c : Nat} {t : Sk} (h : SI c t) (k : Nat) {g n : Int} (h1 : isG g ∨ n = 0) (h2 : 0 ≤ n) (h3 : n ≤ 1024) : SI c (t.put k g n) := by
  intro i hi
  unfold Sk.put
  dsimp only
  by_cases e : i = k
  · rw [if_pos e, if_pos e]; exact .of h1 h2 h3
  · rw [if_neg e, if_neg e]; exact h i hi
theorem put_put (t : Sk) (k : Nat) (g n g' n' : Int) : (t.put k g n).put k g' n' = t.put k g' n' := by
  unfold Sk.put
  congr 1 <;> (funext i; dsimp only; split <;> rfl)
theorem put_g (t : Sk) (k : Nat) (g n : Int) : (t.put k g n).g k = gOf g n := by simp [Sk.put]
theorem put_n (t : Sk) (k : Nat) (g n : Int) : (t.put k g n).n k = n := by simp [Sk.put]
/-- is there the processor? -/
def isC (c : Nat) (x : Int) : Prop := 0 ≤ x ∧ x < c
instance (c : Nat) (x : Int) : Decidable (isC c x) := by unfold isC; infer_instance
theorem isC.nat {c : Nat} {x : Int} (h : isC c x) : ∃ k : Nat, x = (k : Int) ∧ k < c := ⟨x.toNat, by unfold isC at h; omega, by unfold isC at h; omega⟩
theorem isC.of {c k : Nat} (h : k < c) : isC c (k : Int) := by unfold isC; omega
/-- the error of Put's arguments -/
def askE (c : Nat) (x g n : Int) : Int := if isC c x then (if isG g then (if isN n then 0 else 2) else 110) else 9
theorem askE_cases (c : Nat) (x g n : Int) : (askE c x g n = 9 ∧ ¬ isC c x) ∨ (askE c x g n = 110 ∧ isC c x ∧ ¬ isG g) ∨ (askE c x g n = 2 ∧ isC c x ∧ isG g ∧ ¬ isN n) ∨ (askE c x g n = 0 ∧ isC c x ∧ isG g ∧ isN n) := by
  unfold askE
  by_cases h1 : isC c x
  · by_cases h2 : isG g
    · by_cases h3 : isN n
      · simp [h1, h2, h3]
      · simp [h1, h2, h3]
    · simp [h1, h2]
  · simp [h1]
inductive TakeIs (c : Nat) (t : Sk) : Int → Int → Int → Bool → Sk → Prop
  | bad {x g n : Int} (h : ¬ isC c x) : TakeIs c t x g n false t
  | none {x g n : Int} (k : Nat) (hx : x = k) (hk : k < c) (h : n < 1) : TakeIs c t x g n false t
  | other {x g n : Int} (k : Nat) (hx : x = k) (hk : k < c) (h : 1 ≤ n) (hg : t.g k ≠ g) : TakeIs c t x g n false t
  | few {x g n : Int} (k : Nat) (hx : x = k) (hk : k < c) (h : 1 ≤ n) (hg : t.g k = g) (hn : t.n k < n) : TakeIs c t x g n false t
  | ok {x g n : Int} (k : Nat) (hx : x = k) (hk : k < c) (h : 1 ≤ n) (hg : t.g k = g) (hn : n ≤ t.n k) : TakeIs c t x g n true (t.put k g (t.n k - n))
theorem TakeIs.ex (c : Nat) (t : Sk) (x g n : Int) : ∃ q t', TakeIs c t x g n q t' := by
  by_cases h : isC c x
  · obtain ⟨k, rfl, hk⟩ := h.nat
    by_cases h1 : 1 ≤ n
    · by_cases h2 : t.g k = g
      · by_cases h3 : n ≤ t.n k
        · exact ⟨_, _, .ok k rfl hk h1 h2 h3⟩
        · exact ⟨_, _, .few k rfl hk h1 h2 (by omega)⟩
      · exact ⟨_, _, .other k rfl hk h1 h2⟩
    · exact ⟨_, _, .none k rfl hk (by omega)⟩
  · exact ⟨_, _, .bad h⟩
theorem TakeIs.si {c : Nat} {t t' : Sk} {x g n : Int} {q : Bool} (hr : TakeIs c t x g n q t') (h : SI c t) : SI c t' := by
  cases hr with
  | ok k hx hk h1 hg hn =>
    have h2 := h k hk
    refine h.put k ?_ (by omega) (by have := h2.b; omega)
    unfold okS at h2
    subst hg
    rcases h2 with h2 | h2
    · omega
    · exact .inl h2.1
  | _ => exact h
inductive PutIs (c : Nat) (t : Sk) : Int → Int → Int → Int → Int → Int → Sk → Prop
  | bad {x g n : Int} (h : askE c x g n ≠ 0) : PutIs c t x g n 0 0 (askE c x g n) t
  | big {x g n : Int} (k : Nat) (hx : x = k) (hk : k < c) (h1 : isG g) (h2 : isN n) (h0 : 1 ≤ t.n k) (hg : t.g k ≠ g) (h : 1024 < n) : PutIs c t x g n 0 0 2 t
  | swap {x g n : Int} (k : Nat) (hx : x = k) (hk : k < c) (h1 : isG g) (h2 : isN n) (h0 : 1 ≤ t.n k) (hg : t.g k ≠ g) (h : n ≤ 1024) : PutIs c t x g n (t.g k) (t.n k) 0 (t.put k g n)
  | fits {x g n : Int} (k : Nat) (hx : x = k) (hk : k < c) (h1 : isG g) (h2 : isN n) (h0 : t.n k = 0 ∨ t.g k = g) (h : t.n k + n ≤ 1024) : PutIs c t x g n 0 0 0 (t.put k g (t.n k + n))
  | over {x g n : Int} (k : Nat) (hx : x = k) (hk : k < c) (h1 : isG g) (h2 : isN n) (h0 : t.n k = 0 ∨ t.g k = g) (h : 1024 < t.n k + n) : PutIs c t x g n g (t.n k + n - 512) 0 (t.put k g 512)
theorem PutIs.ex {c : Nat} {t : Sk} (hs : SI c t) (x g n : Int) : ∃ a b e t', PutIs c t x g n a b e t' := by
  rcases askE_cases c x g n with ⟨e, _⟩ | ⟨e, _⟩ | ⟨e, _⟩ | ⟨e, hc, hg, hn⟩
  · exact ⟨_, _, _, _, .bad (by omega)⟩
  · exact ⟨_, _, _, _, .bad (by omega)⟩
  · exact ⟨_, _, _, _, .bad (by omega)⟩
  · obtain ⟨k, rfl, hk⟩ := hc.nat
    by_cases h1 : t.n k = 0 ∨ t.g k = g
    · by_cases h2 : t.n k + n ≤ 1024
      · exact ⟨_, _, _, _, .fits k rfl hk hg hn h1 h2⟩
      · exact ⟨_, _, _, _, .over k rfl hk hg hn h1 (by omega)⟩
    · have h3 := (hs k hk).b
      have h4 : 1 ≤ t.n k := by omega
      have h5 : t.g k ≠ g := fun e => h1 (.inr e)
      by_cases h2 : n ≤ 1024
      · exact ⟨_, _, _, _, .swap k rfl hk hg hn h4 h5 h2⟩
      · exact ⟨_, _, _, _, .big k rfl hk hg hn h4 h5 (by omega)⟩
theorem PutIs.si {c : Nat} {t t' : Sk} {x g n a b e : Int} (hr : PutIs c t x g n a b e t') (h : SI c t) : SI c t' := by
  cases hr with
  | bad _ => exact h
  | big => exact h
  | swap k hx hk h1 h2 h0 hg h3 => exact h.put k (.inl h1) h2.1 h3
  | fits k hx hk h1 h2 h0 h3 => exact h.put k (.inl h1) (by have := (h k hk).b; unfold isN at h2; omega) h3
  | over k hx hk h1 h2 h0 h3 => exact h.put k (.inl h1) (by decide) (by decide)
inductive DrainIs (c : Nat) (t : Sk) : Int → Int → Int → Sk → Prop
  | bad {x : Int} (h : ¬ isC c x) : DrainIs c t x 0 0 t
  | ok {x : Int} (k : Nat) (hx : x = k) (hk : k < c) : DrainIs c t x (t.g k) (t.n k) (t.put k 0 0)
theorem DrainIs.ex (c : Nat) (t : Sk) (x : Int) : ∃ a b t', DrainIs c t x a b t' := by
  by_cases h : isC c x
  · obtain ⟨k, rfl, hk⟩ := h.nat
    exact ⟨_, _, _, .ok k rfl hk⟩
  · exact ⟨_, _, _, .bad h⟩
theorem DrainIs.si {c : Nat} {t t' : Sk} {x a b : Int} (hr : DrainIs c t x a b t') (h : SI c t) : SI c t' := by
  cases hr with
  | bad _ => exact h
  | ok k hx hk => exact h.put k (.inr rfl) (by decide) (by decide)
def hasG (c : Nat) (t : Sk) (x : Int) : Int := if isC c x then t.g x.toNat else 0
def hasN (c : Nat) (t : Sk) (x : Int) : Int := if isC c x then t.n x.toNat else 0
theorem hasG_at {c k : Nat} (t : Sk) (hk : k < c) : hasG c t k = t.g k := by unfold hasG; rw [if_pos (isC.of hk)]; rfl
theorem hasN_at {c k : Nat} (t : Sk) (hk : k < c) : hasN c t k = t.n k := by unfold hasN; rw [if_pos (isC.of hk)]; rfl
theorem hasG_no {c : Nat} (t : Sk) {x : Int} (h : ¬ isC c x) : hasG c t x = 0 := by unfold hasG; rw [if_neg h]
theorem hasN_no {c : Nat} (t : Sk) {x : Int} (h : ¬ isC c x) : hasN c t x = 0 := by unfold hasN; rw [if_neg h]
/-- what the first m stocks have of a group -/
def held (t : Sk) (g : Int) : Nat → Int
  | 0 => 0
  | m + 1 => held t g m + (if t.g m = g then t.n m else 0)
theorem held_step (t : Sk) (g : Int) (m : Nat) : held t g (m + 1) = held t g m + (if t.g m = g then t.n m else 0) := rfl
theorem held_bounds {c : Nat} {t : Sk} (h : SI c t) (g : Int) {m : Nat} (hm : m ≤ c) : 0 ≤ held t g m ∧ held t g m ≤ m * 1024 := by
  induction m with
  | zero => exact ⟨Int.le_refl _, Int.le_refl _⟩
  | succ m ih =>
    have h1 := ih (by omega)
    have h2 := (h m (by omega)).b
    rw [held_step]
    split <;> omega
/-- what one stock less, and another one more, make of it -/
theorem held_put (t : Sk) (k : Nat) (g n x : Int) (m : Nat) : held (t.put k g n) x m = held t x m + (if k < m then ((if gOf g n = x then n else 0) - (if t.g k = x then t.n k else 0)) else 0) := by
  induction m with
  | zero => rw [if_neg (by omega)]; rfl
  | succ m ih =>
    rw [held_step, held_step, ih]
    by_cases e : m = k
    · subst e
      rw [if_neg (Nat.lt_irrefl m), if_pos (Nat.lt_succ_self m), put_g, put_n]
      omega
    · have e1 : (t.put k g n).g m = t.g m := by simp [Sk.put, e]
      have e2 : (t.put k g n).n m = t.n m := by simp [Sk.put, e]
      rw [e1, e2]
      by_cases h : k < m
      · rw [if_pos h, if_pos (show k < m + 1 by omega)]; omega
      · rw [if_neg h, if_neg (show ¬ k < m + 1 by omega)]; omega
end Go.Proofs.Ythjonjkeaiobdaa
