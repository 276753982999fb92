/-
  Blocks that are split and merged: the arithmetic of it.
-/
import Derived.Test.YtlljomnpdgmifaaPure

set_option linter.unusedVariables false
set_option linter.unusedSimpArgs false
namespace Go.Proofs.Ytlljomnpdgmifaa
open Go

/-- the head of a free block -/
def fh (o : Nat) : Pg := ⟨0, (o : Int), 0⟩
theorem fh_ok {o : Nat} (h : o ≤ 10) : (fh o).ok = true := Pg.ok_iff.2 ⟨by simp [fh]; omega, .inl ⟨rfl, rfl⟩⟩
theorem fh_sz (o : Nat) : (fh o).sz = 2 ^ o := by simp [Pg.sz, fh]
theorem fh_inj {a b : Nat} (h : fh a = fh b) : a = b := by
  have := congrArg Pg.order h
  simp only [fh] at this
  omega
theorem fh_pin (o : Nat) : fh o ≠ pin := fun h => by have := congrArg Pg.kind h; simp [fh, pin] at this
theorem pin_fh (o : Nat) : pin ≠ fh o := fun h => fh_pin o h.symm
theorem pow_two_pos (k : Nat) : 1 ≤ 2 ^ k := Nat.pow_pos (by decide)
theorem pow_up (k : Nat) : 2 ^ (k + 1) = 2 * 2 ^ k := by rw [Nat.pow_succ]; omega
theorem ok_zero {p : Pg} (h : p.ok = true) (h2 : p.kind ≠ 2) : p = fh p.order.toNat := by
  obtain ⟨⟨h0, h1⟩, h3 | h3⟩ := Pg.ok_iff.1 h
  · obtain ⟨k, o, c⟩ := p
    simp only [fh, Pg.mk.injEq] at *
    omega
  · exact absurd h3.1 h2
/-! tables as functions -/
def upd (f : Nat → Pg) (k : Nat) (p : Pg) : Nat → Pg := fun i => if i = k then p else f i
theorem upd_self (f : Nat → Pg) (k : Nat) (p : Pg) : upd f k p k = p := if_pos rfl
theorem upd_other (f : Nat → Pg) {k i : Nat} (p : Pg) (h : i ≠ k) : upd f k p i = f i := if_neg h
def mk (n : Nat) (f : Nat → Pg) : List Pg := (List.range n).map f
theorem mk_length (n : Nat) (f : Nat → Pg) : (mk n f).length = n := by simp [mk]
theorem pg_mk {n : Nat} (f : Nat → Pg) {i : Nat} (h : i < n) : pg (mk n f) i = f i := by simp [pg, mk, h]
theorem list_ext {l m : List Pg} (h : l.length = m.length) (e : ∀ i, i < l.length → pg l i = pg m i) : l = m := by
  apply List.ext_getElem h
  intro i h1 h2
  have := e i h1
  rwa [← pg_at l i h1, ← pg_at m i h2] at this
theorem mk_congr {n : Nat} {f g : Nat → Pg} (e : ∀ i, i < n → f i = g i) : mk n f = mk n g := by
  apply list_ext (by rw [mk_length, mk_length])
  intro i hi
  rw [mk_length] at hi
  rw [pg_mk f hi, pg_mk g hi, e i hi]
theorem mk_self (l : List Pg) : mk l.length (pg l) = l := list_ext (mk_length _ _) fun i hi => by rw [mk_length] at hi; exact pg_mk _ hi
/-! each page is in a block -/
theorem Starts.disj {l : List Pg} {a b : Nat} (ha : Starts l a) (hb : Starts l b) : a = b ∨ a + (pg l a).sz ≤ b ∨ b + (pg l b).sz ≤ a := by
  rcases Nat.lt_trichotomy a b with h | h | h
  · right; left
    apply Nat.le_of_not_lt
    intro h1
    have := ha.ins b h h1
    exact Pg.kind_ne hb.head (by rw [this]; rfl)
  · exact .inl h
  · right; right
    apply Nat.le_of_not_lt
    intro h1
    have := hb.ins a h h1
    exact Pg.kind_ne ha.head (by rw [this]; rfl)
def Cov (l : List Pg) : Prop := ∀ i, i < l.length → ∃ a, Starts l a ∧ a ≤ i ∧ i < a + (pg l a).sz
theorem Good.cov {l : List Pg} (h : Good l 0) : Cov l := fun i hi => ⟨beg l i, h.at_beg hi⟩
theorem Cov.good {l : List Pg} (h : Cov l) : Good l 0 := by
  have key : ∀ k a, l.length - a ≤ k → a ≤ l.length → (a = 0 ∨ ∃ b, Starts l b ∧ b + (pg l b).sz = a) → Good l a := by
    intro k
    induction k with
    | zero =>
      intro a h1 h2 _
      obtain rfl : a = l.length := by omega
      exact Good.done
    | succ k ih =>
      intro a h1 h2 h3
      by_cases ha : a = l.length
      · subst ha; exact Good.done
      · obtain ⟨x, hs, hx1, hx2⟩ := h a (by omega)
        have hxa : x = a := by
          rcases h3 with h3 | ⟨b, hb, he⟩
          · omega
          · have := (pg l b).sz_pos
            rcases hs.disj hb with e | e | e
            · subst e; omega
            · omega
            · omega
        subst hxa
        have := (pg l x).sz_pos
        exact Good.step x (by omega) hs (ih _ (by omega) hs.fits (.inr ⟨x, hs, rfl⟩))
  exact key l.length 0 (by omega) (Nat.zero_le _) (.inl rfl)
theorem Cov.starts {l : List Pg} (h : Cov l) {i : Nat} (hi : i < l.length) (hk : (pg l i).kind ≠ 1) : Starts l i := by
  obtain ⟨a, hs, h1, h2⟩ := h i hi
  by_cases e : a = i
  · rwa [← e]
  · exact absurd (by rw [hs.ins i (by omega) h2]; rfl) hk
theorem Starts.same {l m : List Pg} {a : Nat} (hn : l.length ≤ m.length) (hs : Starts l a) (e : ∀ j, a ≤ j → j < a + (pg l a).sz → pg m j = pg l j) : pg m a = pg l a ∧ Starts m a := by
  have h0 := e a (Nat.le_refl _) (by have := (pg l a).sz_pos; omega)
  refine ⟨h0, by rw [h0]; exact hs.head, by rw [h0]; exact hs.mult, by rw [h0]; exact Nat.le_trans hs.fits hn, fun j h1 h2 => ?_⟩
  rw [h0] at h2
  rw [e j (by omega) h2]
  exact hs.ins j h1 h2
/-- a stretch of a table is made anew -/
theorem Cov.anew {l m : List Pg} {p q : Nat} (h : Cov l) (hn : m.length = l.length)
    (hx : ∀ a, Starts l a → a + (pg l a).sz ≤ p ∨ q ≤ a ∨ (p ≤ a ∧ a + (pg l a).sz ≤ q))
    (same : ∀ i, i < l.length → (i < p ∨ q ≤ i) → pg m i = pg l i)
    (new : ∀ i, p ≤ i → i < q → ∃ a, Starts m a ∧ a ≤ i ∧ i < a + (pg m a).sz) : Cov m := by
  intro i hi
  rw [hn] at hi
  by_cases hpq : p ≤ i ∧ i < q
  · exact new i hpq.1 hpq.2
  · obtain ⟨a, hs, h1, h2⟩ := h i hi
    have hf := hs.fits
    obtain ⟨e, hs'⟩ := hs.same (m := m) (by omega) (fun j h3 h4 => same j (by omega) (by have := hx a hs; omega))
    exact ⟨a, hs', h1, by rw [e]; exact h2⟩
/-- a block gets another head of the same order -/
theorem Cov.head {l m : List Pg} {p : Nat} (h : Cov l) (hs : Starts l p) (hn : m.length = l.length) (h1 : (pg m p).ok = true) (h2 : (pg m p).order = (pg l p).order)
    (same : ∀ i, i < l.length → i ≠ p → pg m i = pg l i) : Cov m := by
  have hz : (pg m p).sz = (pg l p).sz := by simp only [Pg.sz, h2]
  have hf := hs.fits
  have hs' : Starts m p := ⟨h1, by rw [hz]; exact hs.mult, by rw [hz, hn]; exact hs.fits, fun j h3 h4 => by
    rw [hz] at h4
    rw [same j (by omega) (by omega)]
    exact hs.ins j h3 h4⟩
  refine h.anew (p := p) (q := p + (pg l p).sz) hn (fun a ha => ?_) (fun i h3 h4 => same i h3 (by have := (pg l p).sz_pos; omega)) (fun i h3 h4 => ⟨p, hs', h3, by rw [hz]; exact h4⟩)
  rcases ha.disj hs with e | e | e
  · subst e; omega
  · omega
  · omega
/-- a block is split into halves -/
theorem Cov.split {l m : List Pg} {p o : Nat} (h : Cov l) (hs : Starts l p) (hn : m.length = l.length) (hord : (pg l p).order = ((o + 1 : Nat) : Int)) (h1 : (pg m p).ok = true) (h2 : (pg m p).order = (o : Int))
    (h3 : pg m (p + 2 ^ o) = fh o) (same : ∀ i, i < l.length → i ≠ p → i ≠ p + 2 ^ o → pg m i = pg l i) : Cov m := by
  have hz : (pg l p).sz = 2 ^ (o + 1) := by simp only [Pg.sz, hord, Int.toNat_natCast]
  have hz1 : (pg m p).sz = 2 ^ o := by simp only [Pg.sz, h2, Int.toNat_natCast]
  have hz2 : (pg m (p + 2 ^ o)).sz = 2 ^ o := by rw [h3, fh_sz]
  have hup := pow_up o
  have hp1 := pow_two_pos o
  have hf := hs.fits
  have hm := hs.mult
  rw [hz] at hf hm
  have ho10 : o ≤ 10 := by have := (Pg.ok_iff.1 hs.head).1; omega
  have hm0 : p % 2 ^ o = 0 := dvd_of_pow hm (by omega)
  have ins : ∀ j, p < j → j < p + 2 ^ (o + 1) → j ≠ p + 2 ^ o → pg m j = pin := fun j h4 h5 h6 => by
    rw [same j (by omega) (by omega) h6]
    exact hs.ins j h4 (by rw [hz]; exact h5)
  have s1 : Starts m p := ⟨h1, by rw [hz1]; exact hm0, by rw [hz1, hn]; omega, fun j h4 h5 => ins j h4 (by rw [hz1] at h5; omega) (by rw [hz1] at h5; omega)⟩
  have s2 : Starts m (p + 2 ^ o) := ⟨by rw [h3]; exact fh_ok ho10, by rw [hz2, Nat.add_mod_right]; exact hm0, by rw [hz2, hn]; omega, fun j h4 h5 => ins j (by omega) (by rw [hz2] at h5; omega) (by omega)⟩
  refine h.anew (p := p) (q := p + 2 ^ (o + 1)) hn (fun a ha => ?_) (fun i h4 h5 => same i h4 (by omega) (by omega)) (fun i h4 h5 => ?_)
  · rcases ha.disj hs with e | e | e
    · subst e; rw [hz]; omega
    · omega
    · rw [hz] at e; omega
  · by_cases h6 : i < p + 2 ^ o
    · exact ⟨p, s1, h4, by rw [hz1]; exact h6⟩
    · exact ⟨p + 2 ^ o, s2, by omega, by rw [hz2]; omega⟩
/-! no two buddies are both free -/
def NB (l : List Pg) : Prop := ∀ i h, h < 10 → i % 2 ^ (h + 1) = 0 → i + 2 ^ h < l.length → pg l i = fh h → pg l (i + 2 ^ h) ≠ fh h
structure Std (l : List Pg) : Prop where
  valid : Valid l
  nb : NB l
theorem Std.cov {l : List Pg} (h : Std l) : Cov l := h.valid.2.2.cov
theorem std_of {l : List Pg} (h1 : 1 ≤ l.length) (h2 : l.length ≤ 1024) (h : Cov l) (hb : NB l) : Std l := ⟨⟨h1, h2, h.good⟩, hb⟩
theorem Cov.free_at {l : List Pg} (h : Cov l) {i o : Nat} (hi : i < l.length) (e : pg l i = fh o) : Starts l i ∧ (pg l i).sz = 2 ^ o ∧ i % 2 ^ o = 0 ∧ i + 2 ^ o ≤ l.length ∧ o ≤ 10 := by
  have hs := h.starts hi (by rw [e]; simp [fh])
  have hz : (pg l i).sz = 2 ^ o := by rw [e, fh_sz]
  have h1 := (Pg.ok_iff.1 hs.head).1
  rw [e] at h1
  simp only [fh] at h1
  exact ⟨hs, hz, by rw [← hz]; exact hs.mult, by rw [← hz]; exact hs.fits, by omega⟩
/-! a block is allocated -/
/-- d times split, the first half each time -/
def spl (f : Nat → Pg) (p o : Nat) : Nat → Nat → Pg
  | 0 => f
  | d + 1 => upd (spl f p o d) (p + 2 ^ (o - (d + 1))) (fh (o - (d + 1)))
theorem spl_cases (f : Nat → Pg) (p o d : Nat) (hd : d ≤ o) (i : Nat) : (spl f p o d i = f i ∧ ∀ h, o - d ≤ h → h < o → i ≠ p + 2 ^ h) ∨ ∃ h, o - d ≤ h ∧ h < o ∧ i = p + 2 ^ h ∧ spl f p o d i = fh h := by
  induction d with
  | zero => exact .inl ⟨rfl, fun h h1 h2 => by omega⟩
  | succ d ih =>
    by_cases e : i = p + 2 ^ (o - (d + 1))
    · exact .inr ⟨o - (d + 1), Nat.le_refl _, by omega, e, by unfold spl; rw [← e]; exact upd_self _ _ _⟩
    · rcases ih (by omega) with ⟨h1, h2⟩ | ⟨h, h1, h2, h3, h4⟩
      · refine .inl ⟨by unfold spl; rw [upd_other _ _ e]; exact h1, fun h h3 h4 => ?_⟩
        by_cases h5 : h = o - (d + 1)
        · rw [h5]; exact e
        · exact h2 h (by omega) h4
      · exact .inr ⟨h, by omega, h2, h3, by unfold spl; rw [upd_other _ _ e]; exact h4⟩
theorem spl_in (f : Nat → Pg) (p o d : Nat) (hd : d ≤ o) {i : Nat} (h2 : i < p + 2 ^ (o - d)) : spl f p o d i = f i := by
  rcases spl_cases f p o d hd i with h | ⟨h, h3, h4, h5, _⟩
  · exact h.1
  · have := Nat.pow_le_pow_right (n := 2) (by decide) h3
    omega
structure Fit (l : List Pg) (order o p : Nat) : Prop where
  lo : order ≤ o
  hi : o ≤ 10
  lt : p < l.length
  here : pg l p = fh o
  less : ∀ o', order ≤ o' → o' < o → ∀ i, i < l.length → pg l i ≠ fh o'
  first : ∀ i, i < p → pg l i ≠ fh o
def NoFit (l : List Pg) (order : Nat) : Prop := ∀ o, order ≤ o → o ≤ 10 → ∀ i, i < l.length → pg l i ≠ fh o
theorem first_of {q : Nat → Prop} {n : Nat} (h : ∃ i, i < n ∧ q i) : ∃ i, i < n ∧ q i ∧ ∀ j, j < i → ¬ q j := by
  induction n with
  | zero => obtain ⟨i, h1, _⟩ := h; omega
  | succ n ih =>
    by_cases h1 : ∃ i, i < n ∧ q i
    · obtain ⟨i, h2, h3, h4⟩ := ih h1
      exact ⟨i, by omega, h3, h4⟩
    · obtain ⟨i, h2, h3⟩ := h
      have : i = n := by
        apply Classical.byContradiction
        intro h4
        exact h1 ⟨i, by omega, h3⟩
      subst this
      exact ⟨i, h2, h3, fun j hj hq => h1 ⟨j, hj, hq⟩⟩
theorem fit_or (l : List Pg) (order : Nat) : NoFit l order ∨ ∃ o p, Fit l order o p := by
  by_cases h : ∃ o, o < 11 ∧ (order ≤ o ∧ ∃ i, i < l.length ∧ pg l i = fh o)
  · right
    obtain ⟨o, h1, ⟨h2, h3⟩, h4⟩ := first_of h
    obtain ⟨p, h5, h6, h7⟩ := first_of h3
    exact ⟨o, p, h2, by omega, h5, h6, fun o' h8 h9 i h10 h11 => h4 o' h9 ⟨h8, i, h10, h11⟩, fun i h8 => h7 i h8⟩
  · left
    intro o h1 h2 i h3 h4
    exact h ⟨o, by omega, h1, i, h3, h4⟩
/-- the table behind it -/
def allocL (l : List Pg) (order o p : Nat) (c : Int) : List Pg := mk l.length (upd (spl (pg l) p o (o - order)) p ⟨2, (order : Int), c⟩)
theorem allocL_length (l : List Pg) (order o p : Nat) (c : Int) : (allocL l order o p c).length = l.length := mk_length _ _
theorem alloc_at (l : List Pg) (order o p : Nat) (c : Int) {i : Nat} (hi : i < l.length) : pg (allocL l order o p c) i = upd (spl (pg l) p o (o - order)) p ⟨2, (order : Int), c⟩ i := pg_mk _ hi
theorem alloc_cov {l : List Pg} {o p : Nat} (h : Cov l) (ho : o ≤ 10) (hp : p < l.length) (e : pg l p = fh o) (d : Nat) (hd : d ≤ o) (X : Pg) (hX : X.ok = true) (hXo : X.order = ((o - d : Nat) : Int)) :
    Cov (mk l.length (upd (spl (pg l) p o d) p X)) := by
  obtain ⟨hs, hz, hm, hf, _⟩ := h.free_at hp e
  induction d generalizing X with
  | zero =>
    refine h.head (p := p) hs (mk_length _ _) (by rw [pg_mk _ hp, upd_self]; exact hX) (by rw [pg_mk _ hp, upd_self, hXo, e]; rfl) (fun i hi hne => ?_)
    rw [pg_mk _ hi, upd_other _ _ hne]
    rfl
  | succ d ih =>
    have hup := pow_up (o - (d + 1))
    have hp1 := pow_two_pos (o - (d + 1))
    have hle := Nat.pow_le_pow_right (n := 2) (by decide) (show o - (d + 1) + 1 ≤ o by omega)
    have hc := ih (by omega) (fh (o - d)) (fh_ok (by omega)) rfl
    have ep : pg (mk l.length (upd (spl (pg l) p o d) p (fh (o - d)))) p = fh (o - d) := by rw [pg_mk _ hp, upd_self]
    have hs2 := hc.starts (i := p) (by rw [mk_length]; exact hp) (by rw [ep]; simp [fh])
    have hlt : p + 2 ^ (o - (d + 1)) < l.length := by omega
    refine hc.split (p := p) (o := o - (d + 1)) hs2 (by rw [mk_length, mk_length]) (by rw [ep]; simp only [fh]; omega) (by rw [pg_mk _ hp, upd_self]; exact hX) (by rw [pg_mk _ hp, upd_self]; exact hXo) ?_ (fun i hi h1 h2 => ?_)
    · rw [pg_mk _ hlt, upd_other _ _ (by omega)]
      exact upd_self _ _ _
    · rw [mk_length] at hi
      rw [pg_mk _ hi, pg_mk _ hi, upd_other _ _ h1, upd_other _ _ h1]
      exact upd_other _ _ h2
section
variable {l : List Pg} {order o p : Nat} {c : Int}
theorem Fit.std (hf : Fit l order o p) (h : Std l) (hc0 : 0 ≤ c) (hc : c ≤ 8) : Std (allocL l order o p c) := by
  obtain ⟨hs, hz, hm, hfit, _⟩ := h.cov.free_at hf.lt hf.here
  have hX : (⟨2, (order : Int), c⟩ : Pg).ok = true := Pg.ok_iff.2 ⟨by have := hf.lo; have := hf.hi; simp only; omega, .inr ⟨rfl, hc0, hc⟩⟩
  refine std_of (by rw [allocL_length]; exact h.valid.1) (by rw [allocL_length]; exact h.valid.2.1) (alloc_cov h.cov hf.hi hf.lt hf.here _ (by omega) _ hX (by have := hf.lo; simp only; omega)) ?_
  intro i k hk hmul hlt he hne
  rw [allocL_length] at hlt
  have hk1 := pow_two_pos k
  rw [alloc_at _ _ _ _ _ (by omega)] at he
  rw [alloc_at _ _ _ _ _ hlt] at hne
  have hip : i ≠ p := by
    rintro rfl
    rw [upd_self] at he
    have := congrArg Pg.kind he
    simp [fh] at this
  have hjp : i + 2 ^ k ≠ p := by
    intro e
    rw [e, upd_self] at hne
    have := congrArg Pg.kind hne
    simp [fh] at this
  rw [upd_other _ _ hip] at he
  rw [upd_other _ _ hjp] at hne
  rcases spl_cases (pg l) p o (o - order) (by omega) i with ⟨h1, _⟩ | ⟨k', h1, h2, h3, h4⟩
  · rcases spl_cases (pg l) p o (o - order) (by omega) (i + 2 ^ k) with ⟨h5, _⟩ | ⟨k', h5, h6, h7, h8⟩
    · exact h.nb i k hk hmul hlt (by rw [← h1]; exact he) (by rw [← h5]; exact hne)
    · rw [h8] at hne
      obtain rfl := fh_inj hne
      omega
  · rw [h4] at he
    obtain rfl := fh_inj he
    have hup := pow_up k'
    have : p % 2 ^ (k' + 1) = 0 := dvd_of_pow hm (by omega)
    rw [h3, Nat.add_mod, this, Nat.zero_add, Nat.mod_mod, Nat.mod_eq_of_lt (by omega)] at hmul
    omega
theorem Fit.at_p (hf : Fit l order o p) : pg (allocL l order o p c) p = ⟨2, (order : Int), c⟩ := by rw [alloc_at _ _ _ _ _ hf.lt, upd_self]
/-- the other heads that are out are as they were -/
theorem Fit.other (hf : Fit l order o p) (h : Cov l) {i : Nat} (hi : i < l.length) (hne : i ≠ p) : pg (allocL l order o p c) i = pg l i ∨ ((pg (allocL l order o p c) i).kind ≠ 2 ∧ (pg l i).kind ≠ 2) := by
  obtain ⟨hs, hz, hm, hfit, _⟩ := h.free_at hf.lt hf.here
  rw [alloc_at _ _ _ _ _ hi, upd_other _ _ hne]
  rcases spl_cases (pg l) p o (o - order) (by omega) i with ⟨h1, _⟩ | ⟨k', h1, h2, h3, h4⟩
  · exact .inl h1
  · right
    have := Nat.pow_lt_pow_right (a := 2) (by decide) h2
    have hp1 := pow_two_pos k'
    rw [h4, hs.ins i (by omega) (by rw [hz]; omega)]
    simp [fh, pin]
end
/-! a block is freed -/
def bud (p o : Nat) : Nat := if p % 2 ^ (o + 1) = 0 then p + 2 ^ o else p - 2 ^ o
def isF (l : List Pg) (i o : Nat) : Bool := decide (i < l.length ∧ pg l i = fh o)
def mrg (l : List Pg) : Nat → Nat → Nat → Nat × Nat
  | 0, p, o => (p, o)
  | k + 1, p, o => if isF l (bud p o) o then mrg l k (min p (bud p o)) (o + 1) else (p, o)
theorem half {p o : Nat} (h : p % 2 ^ o = 0) (h1 : ¬ p % 2 ^ (o + 1) = 0) : ∃ q, p = q + 2 ^ o ∧ q % 2 ^ (o + 1) = 0 := by
  have hup := pow_up o
  have hp1 := pow_two_pos o
  obtain ⟨x, rfl⟩ := Nat.dvd_of_mod_eq_zero h
  have hodd : x % 2 = 1 := by
    apply Classical.byContradiction
    intro h2
    apply h1
    obtain ⟨y, rfl⟩ : ∃ y, x = 2 * y := ⟨x / 2, by omega⟩
    rw [hup, show 2 ^ o * (2 * y) = 2 * 2 ^ o * y by rw [← Nat.mul_assoc, Nat.mul_comm (2 ^ o) 2]]
    exact Nat.mul_mod_right _ _
  obtain ⟨y, rfl⟩ : ∃ y, x = 2 * y + 1 := ⟨x / 2, by omega⟩
  refine ⟨2 ^ o * (2 * y), by rw [Nat.mul_add, Nat.mul_one], ?_⟩
  rw [hup, show 2 ^ o * (2 * y) = 2 * 2 ^ o * y by rw [← Nat.mul_assoc, Nat.mul_comm (2 ^ o) 2]]
  exact Nat.mul_mod_right _ _
/-- two halves, whichever of them p is -/
theorem bud_cases {p o : Nat} (h : p % 2 ^ o = 0) : (p % 2 ^ (o + 1) = 0 ∧ bud p o = p + 2 ^ o) ∨ ∃ q, q % 2 ^ (o + 1) = 0 ∧ p = q + 2 ^ o ∧ bud p o = q ∧ ¬ p % 2 ^ (o + 1) = 0 := by
  by_cases h1 : p % 2 ^ (o + 1) = 0
  · exact .inl ⟨h1, if_pos h1⟩
  · obtain ⟨q, e, hq⟩ := half h h1
    exact .inr ⟨q, hq, e, by unfold bud; rw [if_neg h1]; omega, h1⟩
/-- what is merged so far: from p0 on -/
structure MI (l : List Pg) (p0 p o : Nat) : Prop where
  le : o ≤ 10
  mult : p % 2 ^ o = 0
  fits : p + 2 ^ o ≤ l.length
  has : p ≤ p0 ∧ p0 < p + 2 ^ o
  kinds : ∀ i, p ≤ i → i < p + 2 ^ o → i ≠ p0 → (pg l i).kind ≠ 2
  order : (pg l (beg l p)).order ≤ (o : Int)
theorem MI.step {l : List Pg} {p0 p o : Nat} (h : MI l p0 p o) (hc : Cov l) (ho : o < 10) (hF : isF l (bud p o) o = true) : MI l p0 (min p (bud p o)) (o + 1) ∧ Starts l (bud p o) ∧ (pg l (bud p o)).sz = 2 ^ o := by
  simp only [isF, decide_eq_true_eq] at hF
  obtain ⟨hs, hz, hm, hfit, _⟩ := hc.free_at hF.1 hF.2
  have hup := pow_up o
  have hp1 := pow_two_pos o
  have hfits := h.fits
  have hhas := h.has
  have key : ∀ i, bud p o ≤ i → i < bud p o + 2 ^ o → (pg l i).kind ≠ 2 := fun i h1 h2 => by
    by_cases e : i = bud p o
    · rw [e, hF.2]; simp [fh]
    · rw [hs.ins i (by omega) (by rw [hz]; exact h2)]; simp [pin]
  refine ⟨?_, hs, hz⟩
  rcases bud_cases h.mult with ⟨h1, h2⟩ | ⟨q, h1, h2, h3, _⟩
  · rw [h2] at hfit key
    rw [h2, Nat.min_eq_left (by omega)]
    exact ⟨by omega, h1, by omega, by omega, fun i h3 h4 h5 => if h6 : i < p + 2 ^ o then h.kinds i h3 h6 h5 else key i (by omega) (by omega), by have := h.order; omega⟩
  · rw [h3] at hfit key hF hs
    rw [h3, Nat.min_eq_right (by omega)]
    exact ⟨by omega, h1, by omega, by omega, fun i h4 h5 h6 => if h7 : i < q + 2 ^ o then key i h4 h7 else h.kinds i (by omega) (by omega) h6, by
      rw [beg_self (by rw [hF.2]; simp [fh]), hF.2]
      simp only [fh]
      omega⟩
theorem MI.start {l : List Pg} {p : Nat} (hc : Cov l) (hp : p < l.length) (hk : (pg l p).kind = 2) : ∃ o : Nat, (pg l p).order = (o : Int) ∧ MI l p p o := by
  have hs := hc.starts hp (by rw [hk]; decide)
  have ho := (Pg.ok_iff.1 hs.head).1
  refine ⟨(pg l p).order.toNat, by omega, by omega, hs.mult, hs.fits, ⟨Nat.le_refl _, by have := pow_two_pos (pg l p).order.toNat; omega⟩, fun i h1 h2 h3 => ?_, by rw [beg_self (by rw [hk]; decide)]; omega⟩
  rw [hs.ins i (by omega) h2]
  simp [pin]
/-- it has ended -/
def Stops (l : List Pg) (p o : Nat) : Prop := o = 10 ∨ isF l (bud p o) o = false
theorem mrg_ends {l : List Pg} (hc : Cov l) {p0 : Nat} (k p o : Nat) (hk : k = 10 - o) (h : MI l p0 p o) : MI l p0 (mrg l k p o).1 (mrg l k p o).2 ∧ Stops l (mrg l k p o).1 (mrg l k p o).2 := by
  induction k generalizing p o with
  | zero => exact ⟨h, .inl (by have := h.le; simp only [mrg]; omega)⟩
  | succ k ih =>
    unfold mrg
    by_cases hF : isF l (bud p o) o = true
    · rw [if_pos hF]
      exact ih _ _ (by omega) (h.step hc (by omega) hF).1
    · rw [if_neg hF]
      exact ⟨h, .inr (by simpa using hF)⟩
theorem mrg_step {l : List Pg} {p o : Nat} (ho : o < 10) (hF : isF l (bud p o) o = true) : mrg l (10 - o) p o = mrg l (10 - (o + 1)) (min p (bud p o)) (o + 1) := by
  rw [show 10 - o = (10 - (o + 1)) + 1 by omega]
  conv => lhs; unfold mrg
  rw [if_pos hF]
theorem mrg_stop {l : List Pg} {p o : Nat} (h : Stops l p o) (ho : o ≤ 10) : mrg l (10 - o) p o = (p, o) := by
  rcases h with rfl | h
  · rfl
  · by_cases h1 : o = 10
    · subst h1; rfl
    · rw [show 10 - o = (10 - (o + 1)) + 1 by omega]
      unfold mrg
      rw [if_neg (by simp [h])]
theorem MI.std {l : List Pg} {p0 q r : Nat} (h : MI l p0 q r) (hl : Std l) (hst : Stops l q r) : Std (setF l q (fh r)) := by
  have hz := fh_sz r
  have hv : Valid (setF l q (fh r)) := set_valid (hd := fh r) hl.valid (fh_ok h.le) (by rw [hz]; exact h.fits) (by rw [hz]; exact h.mult) h.order
  refine ⟨hv, ?_⟩
  have hp1 := pow_two_pos r
  intro i k hk hmul hlt he hne
  rw [setF_length] at hlt
  have hk1 := pow_two_pos k
  have hup := pow_up k
  rw [setF_at _ _ _ _ (by omega)] at he
  rw [setF_at _ _ _ _ hlt] at hne
  rw [hz] at he hne
  have hstop : k = r → isF l (bud q r) r = true → False := fun e1 e2 => by
    rcases hst with e | e
    · omega
    · rw [e2] at e; cases e
  by_cases h1 : i = q
  · rw [if_pos h1] at he
    obtain rfl := fh_inj he
    subst h1
    rw [if_neg (by omega), if_neg (by omega)] at hne
    exact hstop rfl (by unfold isF bud; rw [if_pos hmul]; exact decide_eq_true ⟨hlt, hne⟩)
  · rw [if_neg h1] at he
    by_cases h2 : q < i ∧ i < q + 2 ^ r
    · rw [if_pos h2] at he
      exact pin_fh _ he
    · rw [if_neg h2] at he
      by_cases h3 : i + 2 ^ k = q
      · rw [if_pos h3] at hne
        obtain rfl := fh_inj hne
        have hq : ¬ q % 2 ^ (r + 1) = 0 := by
          rw [← h3, Nat.add_mod, hmul, Nat.zero_add, Nat.mod_mod, Nat.mod_eq_of_lt (by omega)]
          omega
        exact hstop rfl (by unfold isF bud; rw [if_neg hq, show q - 2 ^ r = i by omega]; exact decide_eq_true ⟨by omega, he⟩)
      · rw [if_neg h3] at hne
        by_cases h4 : q < i + 2 ^ k ∧ i + 2 ^ k < q + 2 ^ r
        · rw [if_pos h4] at hne
          exact pin_fh _ hne
        · rw [if_neg h4] at hne
          exact hl.nb i k hk hmul hlt he hne
/-- the table behind it -/
def freeL (l : List Pg) (p : Nat) : List Pg := setF l (mrg l (10 - (pg l p).order.toNat) p (pg l p).order.toNat).1 (fh (mrg l (10 - (pg l p).order.toNat) p (pg l p).order.toNat).2)
theorem freeL_length (l : List Pg) (p : Nat) : (freeL l p).length = l.length := setF_length _ _ _
theorem free_ends {l : List Pg} (h : Cov l) {p : Nat} (hp : p < l.length) (hk : (pg l p).kind = 2) : ∃ q r, freeL l p = setF l q (fh r) ∧ MI l p q r ∧ Stops l q r := by
  obtain ⟨o, ho, hm⟩ := MI.start h hp hk
  obtain ⟨h1, h2⟩ := mrg_ends h _ p o rfl hm
  refine ⟨_, _, rfl, ?_⟩
  rw [ho, Int.toNat_natCast]
  exact ⟨h1, h2⟩
theorem free_std {l : List Pg} (h : Std l) {p : Nat} (hp : p < l.length) (hk : (pg l p).kind = 2) : Std (freeL l p) := by
  obtain ⟨q, r, e, h1, h2⟩ := free_ends h.cov hp hk
  rw [e]
  exact h1.std h h2
theorem free_at_p {l : List Pg} (h : Cov l) {p : Nat} (hp : p < l.length) (hk : (pg l p).kind = 2) : (pg (freeL l p) p).kind ≠ 2 := by
  obtain ⟨q, r, e, h1, h2⟩ := free_ends h hp hk
  rw [e, setF_at _ _ _ _ hp]
  have := h1.has
  by_cases h3 : p = q
  · rw [if_pos h3]; simp [fh]
  · rw [if_neg h3, if_pos (by rw [fh_sz]; omega)]; simp [pin]
theorem free_other {l : List Pg} (h : Cov l) {p : Nat} (hp : p < l.length) (hk : (pg l p).kind = 2) {i : Nat} (hi : i < l.length) (hne : i ≠ p) : pg (freeL l p) i = pg l i ∨ ((pg (freeL l p) i).kind ≠ 2 ∧ (pg l i).kind ≠ 2) := by
  obtain ⟨q, r, e, h1, h2⟩ := free_ends h hp hk
  rw [e, setF_at _ _ _ _ hi, fh_sz]
  by_cases h3 : i = q
  · rw [if_pos h3]
    exact .inr ⟨by simp [fh], h1.kinds i (by omega) (by have := pow_two_pos r; omega) hne⟩
  · rw [if_neg h3]
    by_cases h4 : q < i ∧ i < q + 2 ^ r
    · rw [if_pos h4]
      exact .inr ⟨by simp [pin], h1.kinds i (by omega) h4.2 hne⟩
    · rw [if_neg h4]
      exact .inl rfl
end Go.Proofs.Ytlljomnpdgmifaa
