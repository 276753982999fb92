/-
  How many pages and blocks are out; pages that are whole: the arithmetic of it.
-/
import Derived.Test.YtlljomnpdgmifaaBud

set_option linter.unusedVariables false
set_option linter.unusedSimpArgs false
namespace Go.Proofs.Ytlljomnpdgmifaa
open Go

def sumTo (u : Nat → Nat) : Nat → Nat
  | 0 => 0
  | k + 1 => sumTo u k + u k
theorem sum_same {u v : Nat → Nat} {n : Nat} (h : ∀ i, i < n → u i = v i) : sumTo u n = sumTo v n := by
  induction n with
  | zero => rfl
  | succ n ih => simp only [sumTo]; rw [ih (fun i hi => h i (by omega)), h n (by omega)]
/-- sums that differ at one place -/
theorem sum_one {u v : Nat → Nat} {n p : Nat} (hp : p < n) (h : ∀ i, i < n → i ≠ p → u i = v i) : sumTo u n + v p = sumTo v n + u p := by
  induction n with
  | zero => omega
  | succ n ih =>
    simp only [sumTo]
    by_cases e : p = n
    · subst e
      rw [sum_same (u := u) (v := v) (n := p) (fun i hi => h i (by omega) (by omega))]
      omega
    · have := ih (by omega) (fun i hi => h i (by omega))
      have := h n (by omega) (by omega)
      omega
theorem sum_zero {u : Nat → Nat} {n : Nat} (h : sumTo u n = 0) {i : Nat} (hi : i < n) : u i = 0 := by
  induction n with
  | zero => omega
  | succ n ih =>
    simp only [sumTo] at h
    by_cases e : i = n
    · subst e; omega
    · exact ih (by omega) (by omega)
theorem sum_all_zero {u : Nat → Nat} {n : Nat} (h : ∀ i, i < n → u i = 0) : sumTo u n = 0 := by
  rw [sum_same (v := fun _ => 0) h]
  clear h
  induction n with
  | zero => rfl
  | succ n ih => simp only [sumTo]; omega
/-- how many heads are out, how many pages they have -/
def one (p : Pg) : Nat := if p.kind = 2 then 1 else 0
def wt (p : Pg) : Nat := if p.kind = 2 then p.sz else 0
def heads (l : List Pg) (k : Nat) : Nat := sumTo (fun i => one (pg l i)) k
def used (l : List Pg) : Nat := sumTo (fun i => wt (pg l i)) l.length
theorem one_no {p : Pg} (h : p.kind ≠ 2) : one p = 0 := if_neg h
theorem one_yes {p : Pg} (h : p.kind = 2) : one p = 1 := if_pos h
theorem wt_no {p : Pg} (h : p.kind ≠ 2) : wt p = 0 := if_neg h
theorem wt_yes {p : Pg} (h : p.kind = 2) : wt p = p.sz := if_pos h
theorem free_used {l : List Pg} (h : Cov l) : freeTo l l.length + used l = l.length := by
  have hg := h.good
  obtain ⟨h1, h2⟩ := Good.sums hg rfl rfl
  have key : ∀ k, k ≤ l.length → allTo l k = outTo l k + sumTo (fun i => wt (pg l i)) k := by
    intro k hk
    induction k with
    | zero => rfl
    | succ k ih =>
      have := ih (by omega)
      simp only [allTo, outTo, sumTo]
      rw [this]
      rcases hg.page (i := k) (by omega) with ⟨hs, _⟩ | ⟨e, _⟩
      · rcases (Pg.ok_iff.1 hs.head).2 with h3 | h3
        · have h4 : (pg l k).kind ≠ 1 := by omega
          rw [if_pos h4, if_pos h3.1, wt_no (by omega)]
          omega
        · have h4 : (pg l k).kind ≠ 1 := by omega
          have h5 : ¬ (pg l k).kind = 0 := by omega
          rw [if_pos h4, if_neg h5, wt_yes (by omega)]
          omega
      · rw [e]
        simp [pin, wt]
  have := key l.length (Nat.le_refl _)
  unfold used
  omega
theorem free_block_le {l : List Pg} (h : Cov l) {p o : Nat} (hp : p < l.length) (e : pg l p = fh o) : 2 ^ o ≤ freeTo l l.length := by
  obtain ⟨h1, h2⟩ := Good.sums h.good rfl rfl
  rw [← h2]
  have key : ∀ k, p < k → 2 ^ o ≤ outTo l k := by
    intro k hk
    induction k with
    | zero => omega
    | succ k ih =>
      simp only [outTo]
      by_cases e2 : p = k
      · subst e2
        rw [e, if_pos (show (fh o).kind = 0 from rfl), fh_sz]
        omega
      · have := ih (by omega)
        omega
  exact key _ hp
section
variable {l : List Pg} {order o p : Nat} {c : Int}
theorem Fit.heads (hf : Fit l order o p) (h : Cov l) : heads (allocL l order o p c) l.length = heads l l.length + 1 := by
  have := sum_one (u := fun i => one (pg (allocL l order o p c) i)) (v := fun i => one (pg l i)) hf.lt (fun i hi hne => by
    rcases hf.other (c := c) h hi hne with e | ⟨e1, e2⟩
    · simp only [e]
    · simp only [one_no e1, one_no e2])
  simp only [hf.at_p, hf.here] at this
  simpa [Go.Proofs.Ytlljomnpdgmifaa.heads, one, fh] using this
theorem Fit.used (hf : Fit l order o p) (h : Cov l) : used (allocL l order o p c) = used l + 2 ^ order := by
  have := sum_one (u := fun i => wt (pg (allocL l order o p c) i)) (v := fun i => wt (pg l i)) hf.lt (fun i hi hne => by
    rcases hf.other (c := c) h hi hne with e | ⟨e1, e2⟩
    · simp only [e]
    · simp only [wt_no e1, wt_no e2])
  simp only [hf.at_p, hf.here] at this
  unfold Go.Proofs.Ytlljomnpdgmifaa.used
  rw [allocL_length]
  simpa [wt, fh, Pg.sz] using this
theorem free_heads (h : Cov l) (hp : p < l.length) (hk : (pg l p).kind = 2) : heads (freeL l p) l.length + 1 = heads l l.length := by
  have := sum_one (u := fun i => one (pg (freeL l p) i)) (v := fun i => one (pg l i)) hp (fun i hi hne => by
    rcases free_other h hp hk hi hne with e | ⟨e1, e2⟩
    · simp only [e]
    · simp only [one_no e1, one_no e2])
  simp only [one_no (free_at_p h hp hk), one_yes hk] at this
  exact this
theorem free_used_less (h : Cov l) (hp : p < l.length) (hk : (pg l p).kind = 2) : used (freeL l p) + (pg l p).sz = used l := by
  have := sum_one (u := fun i => wt (pg (freeL l p) i)) (v := fun i => wt (pg l i)) hp (fun i hi hne => by
    rcases free_other h hp hk hi hne with e | ⟨e1, e2⟩
    · simp only [e]
    · simp only [wt_no e1, wt_no e2])
  simp only [wt_no (free_at_p h hp hk), wt_yes hk] at this
  unfold Go.Proofs.Ytlljomnpdgmifaa.used
  rw [freeL_length]
  exact this
theorem none_out (h : heads l l.length = 0) : ∀ i, i < l.length → (pg l i).kind ≠ 2 := fun i hi hk => by
  have := sum_zero (u := fun i => one (pg l i)) h hi
  simp only [one_yes hk] at this
  omega
theorem none_used (h : ∀ i, i < l.length → (pg l i).kind ≠ 2) : used l = 0 := sum_all_zero fun i hi => wt_no (h i hi)
end
/-! pages that are whole -/
/-- each block is free, and as great as may be -/
structure Ini (n : Nat) (l : List Pg) : Prop where
  len : l.length = n
  cov : Cov l
  free : ∀ i, i < n → (pg l i).kind ≠ 2
  great : ∀ a, Starts l a → (pg l a).order = 10 ∨ a % 2 ^ ((pg l a).order.toNat + 1) ≠ 0 ∨ n < a + 2 ^ ((pg l a).order.toNat + 1)
theorem Ini.unique {n : Nat} {l m : List Pg} (h : Ini n l) (k : Ini n m) : l = m := by
  have step : ∀ a, Starts l a → Starts m a → pg l a = pg m a := by
    intro a hs ks
    have hl := h.len
    have ml := k.len
    have hf := hs.fits
    have kf := ks.fits
    have z1 := (pg l a).sz_pos
    have o1 := (Pg.ok_iff.1 hs.head).1
    have o2 := (Pg.ok_iff.1 ks.head).1
    have aux : ∀ (x y : Pg) (N : Nat), 0 ≤ x.order → x.order < y.order → y.order ≤ 10 → a % y.sz = 0 → a + y.sz ≤ N → ¬ (x.order = 10 ∨ a % 2 ^ (x.order.toNat + 1) ≠ 0 ∨ N < a + 2 ^ (x.order.toNat + 1)) := by
      intro x y N h0 h1 h2 h3 h4 h5
      have h6 : x.order.toNat + 1 ≤ y.order.toNat := by omega
      have h7 := Nat.pow_le_pow_right (n := 2) (by decide) h6
      have h8 : a % 2 ^ (x.order.toNat + 1) = 0 := dvd_of_pow h3 h6
      unfold Pg.sz at h4
      rcases h5 with h5 | h5 | h5
      · omega
      · exact h5 h8
      · omega
    have ho : (pg l a).order = (pg m a).order := by
      rcases Int.lt_trichotomy (pg l a).order (pg m a).order with e | e | e
      · exact absurd (h.great a hs) (aux _ _ _ o1.1 e o2.2 ks.mult (by rw [← ml]; exact kf))
      · exact e
      · exact absurd (k.great a ks) (aux _ _ _ o2.1 e o1.2 hs.mult (by rw [← hl]; exact hf))
    rw [ok_zero hs.head (h.free a (by omega)), ok_zero ks.head (k.free a (by omega)), ho]
  have key : ∀ a, Good l a → Good m a → ∀ j, a ≤ j → j < n → pg l j = pg m j := by
    intro a hg
    induction hg with
    | done => intro _ j h1 h2; have := h.len; omega
    | step a ha hs hg ih =>
      intro kg j h1 h2
      have hl := h.len
      have ml := k.len
      have ks := kg.starts (by omega)
      have e := step a hs ks
      by_cases h3 : j < a + (pg l a).sz
      · by_cases h4 : j = a
        · rw [h4]; exact e
        · rw [hs.ins j (by omega) h3, ks.ins j (by omega) (by rw [← e]; exact h3)]
      · refine ih ?_ j (by omega) h2
        rw [e]
        exact (Good.next (by omega) ks).1 kg
  exact list_ext (by rw [h.len, k.len]) fun i hi => key 0 h.cov.good k.cov.good i (Nat.zero_le _) (by rw [← h.len]; exact hi)
theorem Ini.nb {n : Nat} {l : List Pg} (h : Ini n l) : NB l := by
  intro i k hk hmul hlt he hne
  have hp := pow_two_pos k
  have hup := pow_up k
  obtain ⟨hs, _⟩ := h.cov.free_at (by omega) he
  obtain ⟨_, _, _, hf, _⟩ := h.cov.free_at hlt hne
  have hl := h.len
  have := h.great i hs
  rw [he] at this
  simp only [fh, Int.toNat_natCast] at this
  rcases this with e | e | e
  · omega
  · exact e hmul
  · omega
theorem Ini.std {n : Nat} {l : List Pg} (h : Ini n l) (h1 : 1 ≤ n) (h2 : n ≤ 1024) : Std l := std_of (by rw [h.len]; exact h1) (by rw [h.len]; exact h2) h.cov h.nb
/-- where nothing is out, each stretch is in a block that is as great -/
theorem Std.full {l : List Pg} (h : Std l) (hf : ∀ i, i < l.length → (pg l i).kind ≠ 2) (k : Nat) (hk : k ≤ 10) (b : Nat) (hb : b % 2 ^ k = 0) (hbl : b + 2 ^ k ≤ l.length) :
    ∃ a, Starts l a ∧ k ≤ (pg l a).order.toNat ∧ a ≤ b ∧ b < a + (pg l a).sz := by
  have hp := pow_two_pos k
  induction k generalizing b with
  | zero =>
    obtain ⟨a, hs, h1, h2⟩ := h.cov b (by omega)
    exact ⟨a, hs, Nat.zero_le _, h1, h2⟩
  | succ k ih =>
    have hup := pow_up k
    have hp1 := pow_two_pos k
    have hb0 : b % 2 ^ k = 0 := dvd_of_pow hb (by omega)
    obtain ⟨a, hs, h1, h2, h3⟩ := ih (by omega) b hb0 (by omega) hp1
    by_cases h4 : k + 1 ≤ (pg l a).order.toNat
    · exact ⟨a, hs, h4, h2, h3⟩
    · have e : (pg l a).order.toNat = k := by omega
      have hz : (pg l a).sz = 2 ^ k := by unfold Pg.sz; rw [e]
      have hm := hs.mult
      rw [hz] at hm h3
      have hab : a = b := by
        apply Classical.byContradiction
        intro h5
        exact no_between hm hb0 (by omega) (by omega)
      subst hab
      obtain ⟨c, hs2, h5, h6, h7⟩ := ih (by omega) (a + 2 ^ k) (by rw [Nat.add_mod_right]; exact hb0) (by omega) hp1
      have ea : pg l a = fh k := by rw [ok_zero hs.head (hf a (by omega)), e]
      by_cases h8 : k + 1 ≤ (pg l c).order.toNat
      · exfalso
        have hmc : c % 2 ^ (k + 1) = 0 := dvd_of_pow hs2.mult h8
        by_cases h9 : c ≤ a
        · rcases hs.disj hs2 with e2 | e2 | e2
          · subst e2; omega
          · have := (pg l a).sz_pos; omega
          · omega
        · exact no_between hb hmc (by omega) (by omega)
      · exfalso
        have e2 : (pg l c).order.toNat = k := by omega
        have hz2 : (pg l c).sz = 2 ^ k := by unfold Pg.sz; rw [e2]
        have hm2 := hs2.mult
        rw [hz2] at hm2 h7
        have hc : c = a + 2 ^ k := by
          apply Classical.byContradiction
          intro h9
          exact no_between (b := a + 2 ^ k) hm2 (by rw [Nat.add_mod_right]; exact hb0) (by omega) (by omega)
        subst hc
        exact h.nb a k (by omega) hb (by omega) ea (by rw [ok_zero hs2.head (hf _ (by omega)), e2])
/-- where nothing is out the pages are whole -/
theorem Std.ini {l : List Pg} (h : Std l) (hf : ∀ i, i < l.length → (pg l i).kind ≠ 2) : Ini l.length l := by
  refine ⟨rfl, h.cov, hf, fun a hs => ?_⟩
  by_cases h1 : (pg l a).order = 10
  · exact .inl h1
  · have ho := (Pg.ok_iff.1 hs.head).1
    by_cases h2 : a % 2 ^ ((pg l a).order.toNat + 1) = 0
    · right; right
      apply Nat.lt_of_not_le
      intro h3
      obtain ⟨c, hs2, h5, h6, h7⟩ := h.full hf _ (by omega) a h2 h3
      rcases hs.disj hs2 with e2 | e2 | e2
      · subst e2; omega
      · have := (pg l a).sz_pos; omega
      · omega
    · exact .inr (.inl h2)
/-! a block more, of a table of free ones -/
/-- the beginning of such a table -/
structure Pre (n : Nat) (l : List Pg) : Prop where
  le : l.length ≤ n
  cov : Cov l
  free : ∀ i, i < l.length → (pg l i).kind ≠ 2
  great : ∀ a, Starts l a → (pg l a).order = 10 ∨ a % 2 ^ ((pg l a).order.toNat + 1) ≠ 0 ∨ n < a + 2 ^ ((pg l a).order.toNat + 1)
def blk (o : Nat) : List Pg := fh o :: List.replicate (2 ^ o - 1) pin
theorem blk_length (o : Nat) : (blk o).length = 2 ^ o := by have := pow_two_pos o; simp [blk]; omega
theorem pg_app_l (l m : List Pg) {i : Nat} (h : i < l.length) : pg (l ++ m) i = pg l i := by unfold pg; rw [List.getD_eq_getElem?_getD, List.getD_eq_getElem?_getD, List.getElem?_append_left h]
theorem pg_app_r (l m : List Pg) (i : Nat) : pg (l ++ m) (l.length + i) = pg m i := by unfold pg; rw [List.getD_eq_getElem?_getD, List.getD_eq_getElem?_getD, List.getElem?_append_right (Nat.le_add_right _ _), Nat.add_sub_cancel_left]
theorem pg_blk {o i : Nat} (h : i < 2 ^ o) : pg (blk o) i = if i = 0 then fh o else pin := by
  cases i with
  | zero => rfl
  | succ i =>
    simp only [pg, blk, List.getD_cons_succ, Nat.add_eq_zero_iff, Nat.one_ne_zero, and_false, if_false]
    rw [List.getD_eq_getElem?_getD, List.getElem?_replicate, if_pos (by omega)]
    rfl
theorem Pre.nil (n : Nat) : Pre n [] := ⟨Nat.zero_le _, fun i hi => by simp at hi, fun i hi => by simp at hi, fun a hs => by have := hs.fits; have := (pg [] a).sz_pos; simp at *; omega⟩
theorem Pre.more {n : Nat} {l : List Pg} (h : Pre n l) {o : Nat} (ho : o ≤ 10) (hm : l.length % 2 ^ o = 0) (hf : l.length + 2 ^ o ≤ n) (hg : o = 10 ∨ l.length % 2 ^ (o + 1) ≠ 0 ∨ n < l.length + 2 ^ (o + 1)) : Pre n (l ++ blk o) := by
  have hp := pow_two_pos o
  have hlen : (l ++ blk o).length = l.length + 2 ^ o := by rw [List.length_append, blk_length]
  have e0 : pg (l ++ blk o) l.length = fh o := by rw [show l.length = l.length + 0 from rfl, pg_app_r, pg_blk hp, if_pos rfl]
  have e1 : ∀ j, l.length < j → j < l.length + 2 ^ o → pg (l ++ blk o) j = pin := fun j h1 h2 => by
    obtain ⟨i, rfl⟩ : ∃ i, j = l.length + i := ⟨j - l.length, by omega⟩
    rw [pg_app_r, pg_blk (by omega), if_neg (by omega)]
  have hs0 : Starts (l ++ blk o) l.length := ⟨by rw [e0]; exact fh_ok ho, by rw [e0, fh_sz]; exact hm, by rw [e0, fh_sz, hlen]; omega, fun j h1 h2 => e1 j h1 (by rw [e0, fh_sz] at h2; exact h2)⟩
  have old : ∀ a, Starts l a → pg (l ++ blk o) a = pg l a ∧ Starts (l ++ blk o) a := fun a hs => hs.same (by rw [hlen]; omega) (fun j h1 h2 => pg_app_l _ _ (by have := hs.fits; omega))
  refine ⟨by rw [hlen]; exact hf, fun i hi => ?_, fun i hi => ?_, fun a hs => ?_⟩
  · rw [hlen] at hi
    by_cases h1 : i < l.length
    · obtain ⟨a, hs, h2, h3⟩ := h.cov i h1
      obtain ⟨e, hs'⟩ := old a hs
      exact ⟨a, hs', h2, by rw [e]; exact h3⟩
    · exact ⟨l.length, hs0, by omega, by rw [e0, fh_sz]; exact hi⟩
  · rw [hlen] at hi
    by_cases h1 : i < l.length
    · rw [pg_app_l _ _ h1]; exact h.free i h1
    · by_cases h2 : i = l.length
      · rw [h2, e0]; simp [fh]
      · rw [e1 i (by omega) hi]; simp [pin]
  · by_cases h1 : a < l.length
    · obtain ⟨x, hs2, h2, h3⟩ := h.cov a h1
      obtain ⟨e, hs'⟩ := old x hs2
      rcases hs'.disj hs with e2 | e2 | e2
      · subst e2
        rw [e]
        exact h.great x hs2
      · rw [e] at e2; omega
      · have := (pg (l ++ blk o) a).sz_pos; omega
    · have hfa := hs.fits
      have hz := (pg (l ++ blk o) a).sz_pos
      rcases hs0.disj hs with e2 | e2 | e2
      · subst e2
        rw [e0]
        simp only [fh, Int.toNat_natCast]
        rcases hg with g | g
        · left; omega
        · exact .inr g
      · rw [e0, fh_sz] at e2; omega
      · omega
theorem Pre.ini {n : Nat} {l : List Pg} (h : Pre n l) (e : l.length = n) : Ini n l := ⟨e, h.cov, fun i hi => h.free i (by omega), h.great⟩
/-- the greatest order that may start there -/
theorem greatest (n a : Nat) (ha : a < n) : ∃ o, o ≤ 10 ∧ a % 2 ^ o = 0 ∧ a + 2 ^ o ≤ n ∧ (o = 10 ∨ a % 2 ^ (o + 1) ≠ 0 ∨ n < a + 2 ^ (o + 1)) := by
  have key : ∀ k o, k = 10 - o → o ≤ 10 → a % 2 ^ o = 0 → a + 2 ^ o ≤ n → ∃ o, o ≤ 10 ∧ a % 2 ^ o = 0 ∧ a + 2 ^ o ≤ n ∧ (o = 10 ∨ a % 2 ^ (o + 1) ≠ 0 ∨ n < a + 2 ^ (o + 1)) := by
    intro k
    induction k with
    | zero => intro o h1 h2 h3 h4; exact ⟨o, h2, h3, h4, .inl (by omega)⟩
    | succ k ih =>
      intro o h1 h2 h3 h4
      by_cases h5 : a % 2 ^ (o + 1) = 0
      · by_cases h6 : a + 2 ^ (o + 1) ≤ n
        · exact ih (o + 1) (by omega) (by omega) h5 h6
        · exact ⟨o, h2, h3, h4, .inr (.inr (by omega))⟩
      · exact ⟨o, h2, h3, h4, .inr (.inl h5)⟩
  exact key 10 0 rfl (by omega) (Nat.mod_one _) (by simp; omega)
theorem Pre.exists {n : Nat} : ∀ k (l : List Pg), n - l.length ≤ k → Pre n l → ∃ m, Ini n m := by
  intro k
  induction k with
  | zero => intro l h1 h; exact ⟨l, h.ini (by have := h.le; omega)⟩
  | succ k ih =>
    intro l h1 h
    by_cases e : l.length = n
    · exact ⟨l, h.ini e⟩
    · have hle := h.le
      obtain ⟨o, h2, h3, h4, h5⟩ := greatest n l.length (by omega)
      have := pow_two_pos o
      exact ih _ (by rw [List.length_append, blk_length]; omega) (h.more h2 h3 h4 h5)
noncomputable def ini (n : Nat) : List Pg := Classical.choose (Pre.exists (n := n) n [] (by simp) (Pre.nil n))
theorem ini_is (n : Nat) : Ini n (ini n) := Classical.choose_spec _
theorem Ini.eq {n : Nat} {l : List Pg} (h : Ini n l) : l = ini n := h.unique (ini_is n)
theorem ini_length (n : Nat) : (ini n).length = n := (ini_is n).len
theorem ini_std {n : Nat} (h1 : 1 ≤ n) (h2 : n ≤ 1024) : Std (ini n) := (ini_is n).std h1 h2
/-! the program's way: from the greatest order down, one block of each at most -/
structure Down (n : Nat) (f : Nat → Pg) (k at_ : Nat) : Prop where
  k11 : k ≤ 11
  le : at_ ≤ n
  rest : n < at_ + 2 ^ k
  mult : at_ % 2 ^ k = 0
  cov : ∀ i, i < at_ → ∃ a o, f a = fh o ∧ k ≤ o ∧ o ≤ 10 ∧ a % 2 ^ o = 0 ∧ a + 2 ^ o ≤ at_ ∧ a ≤ i ∧ i < a + 2 ^ o ∧ ∀ j, a < j → j < a + 2 ^ o → f j = pin
  pins : ∀ i, at_ ≤ i → f i = pin
  kinds : ∀ i, (f i).kind ≠ 2
  once : ∀ i j o, f i = fh o → f j = fh o → k ≤ o ∧ i = j
theorem Down.start {n : Nat} (h : n ≤ 1024) : Down n (fun _ => pin) 11 0 :=
  ⟨Nat.le_refl _, Nat.zero_le _, by have : (2 : Nat) ^ 11 = 2048 := by decide
                                    omega, Nat.zero_mod _, fun i hi => by omega, fun _ _ => rfl, fun _ => by simp [pin], fun i j o h => absurd h.symm (fh_pin o)⟩
theorem Down.no {n : Nat} {f : Nat → Pg} {k a : Nat} (h : Down n f (k + 1) a) (hno : n < a + 2 ^ k) : Down n f k a :=
  ⟨by have := h.k11; omega, h.le, hno, dvd_of_pow h.mult (by omega), fun i hi => by
    obtain ⟨x, o, h1, h2, h3⟩ := h.cov i hi
    exact ⟨x, o, h1, by omega, h3⟩, h.pins, h.kinds, fun i j o h1 h2 => by have := h.once i j o h1 h2; exact ⟨by omega, this.2⟩⟩
theorem Down.yes {n : Nat} {f : Nat → Pg} {k a : Nat} (h : Down n f (k + 1) a) (hyes : a + 2 ^ k ≤ n) : Down n (upd f a (fh k)) k (a + 2 ^ k) := by
  have hup := pow_up k
  have hp := pow_two_pos k
  have hr := h.rest
  have hm : a % 2 ^ k = 0 := dvd_of_pow h.mult (by omega)
  refine ⟨by have := h.k11; omega, hyes, by omega, by rw [Nat.add_mod_right]; exact hm, fun i hi => ?_, fun i hi => ?_, fun i => ?_, fun i j o h1 h2 => ?_⟩
  · by_cases h1 : i < a
    · obtain ⟨x, o, h1, h2, h3, h4, h5, h6, h7, h8⟩ := h.cov i h1
      have := pow_two_pos o
      exact ⟨x, o, by rw [upd_other _ _ (by omega)]; exact h1, by omega, h3, h4, by omega, h6, h7, fun j h9 h10 => by rw [upd_other _ _ (by omega)]; exact h8 j h9 h10⟩
    · exact ⟨a, k, upd_self _ _ _, Nat.le_refl _, by have := h.k11; omega, hm, Nat.le_refl _, by omega, hi, fun j h2 h3 => by rw [upd_other _ _ (by omega)]; exact h.pins j (by omega)⟩
  · rw [upd_other _ _ (by omega)]; exact h.pins i (by omega)
  · by_cases e : i = a
    · rw [e, upd_self]; simp [fh]
    · rw [upd_other _ _ e]; exact h.kinds i
  · by_cases e : i = a
    · rw [e, upd_self] at h1
      obtain rfl := fh_inj h1
      by_cases e2 : j = a
      · exact ⟨Nat.le_refl _, by omega⟩
      · rw [upd_other _ _ e2] at h2
        have := (h.once j j _ h2 h2).1
        omega
    · rw [upd_other _ _ e] at h1
      have h3 := (h.once i i _ h1 h1).1
      by_cases e2 : j = a
      · rw [e2, upd_self] at h2
        obtain rfl := fh_inj h2
        omega
      · rw [upd_other _ _ e2] at h2
        exact ⟨by omega, (h.once i j _ h1 h2).2⟩
theorem down_ini {n : Nat} {f : Nat → Pg} {a : Nat} (h : Down n f 0 a) (h1 : 1 ≤ n) (h2 : n ≤ 1024) : a = n ∧ mk n f = ini n := by
  have ha : a = n := by
    have := h.rest
    have := h.le
    simp at *
    omega
  subst ha
  refine ⟨rfl, ?_⟩
  have hl := mk_length a f
  have hcov : Cov (mk a f) := fun i hi => by
    rw [hl] at hi
    obtain ⟨x, o, h3, h4, h5, h6, h7, h8, h9, h10⟩ := h.cov i hi
    have hp := pow_two_pos o
    have e : pg (mk a f) x = fh o := by rw [pg_mk _ (by omega)]; exact h3
    exact ⟨x, ⟨by rw [e]; exact fh_ok h5, by rw [e, fh_sz]; exact h6, by rw [e, fh_sz, hl]; exact h7, fun j h11 h12 => by
      rw [e, fh_sz] at h12
      rw [pg_mk _ (by omega)]
      exact h10 j h11 h12⟩, h8, by rw [e, fh_sz]; exact h9⟩
  have hnb : NB (mk a f) := fun i k hk hmul hlt he hne => by
    rw [hl] at hlt
    have := pow_two_pos k
    rw [pg_mk _ (by omega)] at he
    rw [pg_mk _ hlt] at hne
    have := (h.once _ _ _ he hne).2
    omega
  have := (std_of (by rw [hl]; exact h1) (by rw [hl]; exact h2) hcov hnb).ini (fun i hi => by rw [hl] at hi; rw [pg_mk _ hi]; exact h.kinds i)
  rw [hl] at this
  exact this.eq
/-- the pages are whole just if nothing is out -/
theorem std_whole {l : List Pg} (h : Std l) : l = ini l.length ↔ heads l l.length = 0 := by
  constructor
  · intro e
    exact sum_all_zero fun i hi => one_no (by rw [e]; exact (ini_is l.length).free i hi)
  · intro e
    exact (h.ini (none_out e)).eq
end Go.Proofs.Ytlljomnpdgmifaa
