/-
  Tables of pages: the arithmetic of it.
-/
import Derived.Test.YtlljomnpdgmifaaRows

set_option linter.unusedVariables false
set_option linter.unusedSimpArgs false
namespace Go.Proofs.Ytlljomnpdgmifaa
open Go

/-- A page, hd its three numbers. -/
structure Pg where
  kind : Int
  order : Int
  cache : Int
  deriving DecidableEq, Inhabited
def pz : Pg := ⟨0, 0, 0⟩
def pin : Pg := ⟨1, 0, 0⟩
/-- may it be a head? -/
def Pg.ok (p : Pg) : Bool := decide ((0 ≤ p.order ∧ p.order ≤ 10) ∧ ((p.kind = 0 ∧ p.cache = 0) ∨ (p.kind = 2 ∧ 0 ≤ p.cache ∧ p.cache ≤ 8)))
def Pg.sz (p : Pg) : Nat := 2 ^ p.order.toNat
theorem Pg.ok_iff {p : Pg} : p.ok = true ↔ ((0 ≤ p.order ∧ p.order ≤ 10) ∧ ((p.kind = 0 ∧ p.cache = 0) ∨ (p.kind = 2 ∧ 0 ≤ p.cache ∧ p.cache ≤ 8))) := by simp [Pg.ok]
theorem pow_le (k : Nat) (h : k ≤ 10) : 1 ≤ 2 ^ k ∧ 2 ^ k ≤ 1024 := by
  have h1 : 2 ^ k ≤ 2 ^ 10 := Nat.pow_le_pow_right (by decide) h
  have h2 : 0 < 2 ^ k := Nat.pow_pos (by decide)
  omega
theorem Pg.sz_pos (p : Pg) : 1 ≤ p.sz := Nat.pow_pos (by decide)
theorem Pg.sz_le {p : Pg} (h : p.ok = true) : p.sz ≤ 1024 := (pow_le _ (by have := Pg.ok_iff.1 h; omega)).2
theorem Pg.sz_int {p : Pg} : (2 : Int) ^ p.order.toNat = (p.sz : Int) := by simp [Pg.sz]
theorem Pg.kind_ne {p : Pg} (h : p.ok = true) : p.kind ≠ 1 := by
  rcases (Pg.ok_iff.1 h).2 with h | h
  · omega
  · omega
def pg (l : List Pg) (i : Nat) : Pg := l.getD i pz
theorem pg_at (l : List Pg) (i : Nat) (h : i < l.length) : l[i] = pg l i := by simp [pg, h]
/-- a block starts at a -/
structure Starts (l : List Pg) (a : Nat) : Prop where
  head : (pg l a).ok = true
  mult : a % (pg l a).sz = 0
  fits : a + (pg l a).sz ≤ l.length
  ins : ∀ j, a < j → j < a + (pg l a).sz → pg l j = pin
/-- from a on, block stands behind block, to the end -/
inductive Good (l : List Pg) : Nat → Prop
  | done : Good l l.length
  | step (a : Nat) : a < l.length → Starts l a → Good l (a + (pg l a).sz) → Good l a
/-- the blocks that stand ahead of a place -/
inductive Chain (l : List Pg) : List Nat → Nat → Prop
  | nil : Chain l [] 0
  | snoc (ys : List Nat) (e : Nat) : Chain l ys e → e < l.length → Starts l e → Chain l (ys ++ [e]) (e + (pg l e).sz)
theorem Good.next {l : List Pg} {a : Nat} (ha : a < l.length) (hs : Starts l a) : Good l a ↔ Good l (a + (pg l a).sz) := by
  constructor
  · intro h
    cases h with
    | done => omega
    | step _ _ _ h => exact h
  · exact Good.step a ha hs
theorem Good.starts {l : List Pg} {a : Nat} (h : Good l a) (ha : a < l.length) : Starts l a := by
  cases h with
  | done => omega
  | step _ _ h _ => exact h
theorem Good.le {l : List Pg} {a : Nat} (h : Good l a) : a ≤ l.length := by
  cases h with
  | done => omega
  | step _ h _ _ => omega
theorem Chain.good {l : List Pg} {ys : List Nat} {e : Nat} (h : Chain l ys e) : Good l 0 ↔ Good l e := by
  induction h with
  | nil => exact Iff.rfl
  | snoc ys e _ h1 h2 ih => exact ih.trans (Good.next h1 h2)
theorem Chain.le {l : List Pg} {ys : List Nat} {e : Nat} (h : Chain l ys e) : e ≤ l.length ∧ ys.length ≤ e := by
  induction h with
  | nil => simp
  | snoc ys e _ h1 h2 ih =>
    have := h2.fits
    have := (pg l e).sz_pos
    simp
    omega
/-- where the last block ends -/
def endOf (l : List Pg) (ys : List Nat) : Nat := match ys.getLast? with
  | none => 0
  | some x => x + (pg l x).sz
theorem endOf_snoc (l : List Pg) (ys : List Nat) (x : Nat) : endOf l (ys ++ [x]) = x + (pg l x).sz := by simp [endOf]
theorem Chain.endOf {l : List Pg} {ys : List Nat} {e : Nat} (h : Chain l ys e) : endOf l ys = e := by
  cases h with
  | nil => rfl
  | snoc ys e _ h1 h2 => exact endOf_snoc l ys e
/-- a table that may be -/
def Valid (l : List Pg) : Prop := 1 ≤ l.length ∧ l.length ≤ 1024 ∧ Good l 0
open Classical in
noncomputable def chkF (l : List Pg) : Int := if Valid l then 0 else 50
theorem chk_ok {l : List Pg} (h : Valid l) : chkF l = 0 := by simp [chkF, h]
theorem chk_no {l : List Pg} (h : ¬ Valid l) : chkF l = 50 := by simp [chkF, h]
/-- the block in which a page is starts here -/
def beg (l : List Pg) : Nat → Nat
  | 0 => 0
  | i + 1 => if (pg l (i + 1)).kind = 1 then beg l i else i + 1
theorem beg_le (l : List Pg) (i : Nat) : beg l i ≤ i := by
  induction i with
  | zero => simp [beg]
  | succ i ih => unfold beg; split <;> omega
theorem beg_self {l : List Pg} {i : Nat} (h : (pg l i).kind ≠ 1) : beg l i = i := by
  cases i with
  | zero => rfl
  | succ i => unfold beg; rw [if_neg h]
theorem beg_step {l : List Pg} {i : Nat} (h : (pg l i).kind = 1) (h0 : 0 < i) : beg l i = beg l (i - 1) := by
  cases i with
  | zero => omega
  | succ i => conv => lhs; unfold beg
              rw [if_pos h]; rfl
theorem beg_in {l : List Pg} {a i : Nat} (hs : Starts l a) (h1 : a ≤ i) (h2 : i < a + (pg l a).sz) : beg l i = a := by
  induction i with
  | zero => simp [beg]; omega
  | succ i ih =>
    by_cases h : a = i + 1
    · rw [← h]; exact beg_self (Pg.kind_ne hs.head)
    · have := hs.ins (i + 1) (by omega) h2
      rw [beg_step (by rw [this]; rfl) (by omega)]
      exact ih (by omega) (by omega)
/-- each page of a table is in a block -/
theorem Good.block {l : List Pg} {a i : Nat} (h : Good l a) (h1 : a ≤ i) (h2 : i < l.length) : ∃ x, a ≤ x ∧ Starts l x ∧ x ≤ i ∧ i < x + (pg l x).sz := by
  induction h with
  | done => omega
  | step a ha hs _ ih =>
    by_cases hi : i < a + (pg l a).sz
    · exact ⟨a, Nat.le_refl _, hs, h1, hi⟩
    · obtain ⟨x, hx, h⟩ := ih (by omega)
      exact ⟨x, by omega, h⟩
theorem Good.at_beg {l : List Pg} (h : Good l 0) {i : Nat} (h2 : i < l.length) : Starts l (beg l i) ∧ beg l i ≤ i ∧ i < beg l i + (pg l (beg l i)).sz := by
  obtain ⟨x, _, hs, h3, h4⟩ := h.block (Nat.zero_le _) h2
  rw [beg_in hs h3 h4]
  exact ⟨hs, h3, h4⟩
theorem Good.page {l : List Pg} (h : Good l 0) {i : Nat} (h2 : i < l.length) : (Starts l i ∧ beg l i = i) ∨ (pg l i = pin ∧ 0 < i) := by
  obtain ⟨hs, h3, h4⟩ := h.at_beg h2
  by_cases hi : beg l i = i
  · exact .inl ⟨by rw [hi] at hs; exact hs, hi⟩
  · exact .inr ⟨hs.ins i (by omega) h4, by omega⟩
open Classical in
/-- the head of a page -/
noncomputable def headF (l : List Pg) (page : Int) : Int × Int := if Valid l then (if 0 ≤ page ∧ page < l.length then (((beg l page.toNat : Nat) : Int), 0) else (0, 9)) else (0, 50)
theorem head_no {l : List Pg} {page : Int} (h : ¬ Valid l) : headF l page = (0, 50) := by simp [headF, h]
theorem head_out {l : List Pg} {page : Int} (h : Valid l) (hp : ¬ (0 ≤ page ∧ page < l.length)) : headF l page = (0, 9) := by unfold headF; rw [if_pos h, if_neg hp]
theorem head_in {l : List Pg} {page : Nat} (h : Valid l) (hp : page < l.length) : headF l page = (((beg l page : Nat) : Int), 0) := by unfold headF; rw [if_pos h, if_pos (by omega)]; simp
/-- the free pages of some blocks -/
def freeOf (l : List Pg) : List Nat → Nat
  | [] => 0
  | x :: r => freeOf l r + (if (pg l x).kind = 0 then (pg l x).sz else 0)
def freeIn (l : List Pg) (ys : List Nat) : Nat := freeOf l ys.reverse
theorem freeIn_nil (l : List Pg) : freeIn l [] = 0 := rfl
theorem freeIn_snoc (l : List Pg) (ys : List Nat) (x : Nat) : freeIn l (ys ++ [x]) = freeIn l ys + (if (pg l x).kind = 0 then (pg l x).sz else 0) := by simp [freeIn, freeOf]
/-- the pages below k in free blocks -/
def freeTo (l : List Pg) : Nat → Nat
  | 0 => 0
  | k + 1 => freeTo l k + (if (pg l (beg l k)).kind = 0 then 1 else 0)
theorem freeTo_block {l : List Pg} {a : Nat} (hs : Starts l a) (k : Nat) (hk : k ≤ (pg l a).sz) : freeTo l (a + k) = freeTo l a + (if (pg l a).kind = 0 then k else 0) := by
  induction k with
  | zero => simp
  | succ k ih =>
    rw [← Nat.add_assoc]
    show freeTo l (a + k) + (if (pg l (beg l (a + k))).kind = 0 then 1 else 0) = _
    rw [ih (by omega), beg_in hs (by omega) (by omega)]
    split <;> omega
theorem Chain.free {l : List Pg} {ys : List Nat} {e : Nat} (h : Chain l ys e) : freeIn l ys = freeTo l e := by
  induction h with
  | nil => rfl
  | snoc ys e _ h1 h2 ih => rw [freeIn_snoc, ih, freeTo_block h2 _ (Nat.le_refl _)]
theorem freeTo_le (l : List Pg) (k : Nat) : freeTo l k ≤ k := by
  induction k with
  | zero => simp [freeTo]
  | succ k ih => unfold freeTo; split <;> omega
open Classical in
noncomputable def freeF (l : List Pg) : Nat := if Valid l then freeTo l l.length else 0
theorem free_no {l : List Pg} (h : ¬ Valid l) : freeF l = 0 := by simp [freeF, h]
theorem free_yes {l : List Pg} (h : Valid l) : freeF l = freeTo l l.length := by simp [freeF, h]
/-! a block is set -/
def setF (l : List Pg) (page : Nat) (hd : Pg) : List Pg := (List.range l.length).map fun i => if i = page then hd else if page < i ∧ i < page + hd.sz then pin else pg l i
theorem setF_length (l : List Pg) (page : Nat) (hd : Pg) : (setF l page hd).length = l.length := by simp [setF]
theorem setF_at (l : List Pg) (page : Nat) (hd : Pg) (i : Nat) (h : i < l.length) : pg (setF l page hd) i = if i = page then hd else if page < i ∧ i < page + hd.sz then pin else pg l i := by simp [pg, setF, h]
/-- what Set answers -/
inductive Sets (l : List Pg) (page : Int) (hd : Pg) : Option Nat → Int → Prop
  | table : ¬ Valid l → Sets l page hd none 50
  | arg : Valid l → hd.ok = false → Sets l page hd none 2
  | range : Valid l → hd.ok = true → ¬ (0 ≤ page ∧ page + hd.sz ≤ l.length ∧ page.toNat % hd.sz = 0) → Sets l page hd none 9
  | frame (p : Nat) : Valid l → hd.ok = true → page = p → p + hd.sz ≤ l.length → p % hd.sz = 0 → hd.order < (pg l (beg l p)).order → Sets l page hd none 50
  | set (p : Nat) : Valid l → hd.ok = true → page = p → p + hd.sz ≤ l.length → p % hd.sz = 0 → (pg l (beg l p)).order ≤ hd.order → Sets l page hd (some p) 0
theorem Sets.one {l : List Pg} {page : Int} {hd : Pg} {a b : Option Nat} {e f : Int} (h : Sets l page hd a e) (k : Sets l page hd b f) : a = b ∧ e = f := by
  cases h with
  | table h1 => cases k <;> first | exact ⟨rfl, rfl⟩ | contradiction
  | arg h1 h2 => cases k <;> first | exact ⟨rfl, rfl⟩ | contradiction | simp_all
  | range h1 h2 h3 => cases k <;> first | exact ⟨rfl, rfl⟩ | contradiction | (exfalso; simp_all; done) | (exfalso; subst_vars; simp_all; omega)
  | frame p h1 h2 h3 h4 h5 h6 =>
    cases k with
    | table k1 => exact absurd h1 k1
    | arg k1 k2 => rw [h2] at k2; cases k2
    | range k1 k2 k3 => subst h3; exact absurd ⟨by omega, by omega, by simpa using h5⟩ k3
    | frame q k1 k2 k3 k4 k5 k6 => exact ⟨rfl, rfl⟩
    | set q k1 k2 k3 k4 k5 k6 => obtain rfl : p = q := by omega
                                 omega
  | set p h1 h2 h3 h4 h5 h6 =>
    cases k with
    | table k1 => exact absurd h1 k1
    | arg k1 k2 => rw [h2] at k2; cases k2
    | range k1 k2 k3 => subst h3; exact absurd ⟨by omega, by omega, by simpa using h5⟩ k3
    | frame q k1 k2 k3 k4 k5 k6 => obtain rfl : p = q := by omega
                                   omega
    | set q k1 k2 k3 k4 k5 k6 => obtain rfl : p = q := by omega
                                 exact ⟨rfl, rfl⟩
theorem dvd_of_pow {a i j : Nat} (h : a % 2 ^ j = 0) (hij : i ≤ j) : a % 2 ^ i = 0 := Nat.mod_eq_zero_of_dvd (Nat.dvd_trans (Nat.pow_dvd_pow 2 hij) (Nat.dvd_of_mod_eq_zero h))
theorem no_between {a b d : Nat} (ha : a % d = 0) (hb : b % d = 0) (h1 : a < b) (h2 : b < a + d) : False := by
  obtain ⟨x, rfl⟩ := Nat.dvd_of_mod_eq_zero ha
  obtain ⟨y, rfl⟩ := Nat.dvd_of_mod_eq_zero hb
  have h3 : x < y := Nat.lt_of_mul_lt_mul_left h1
  have h4 : d * (x + 1) ≤ d * y := Nat.mul_le_mul_left d h3
  rw [Nat.mul_add, Nat.mul_one] at h4
  omega
section
variable {l : List Pg} {p : Nat} {hd : Pg}
/-- no block of the table goes over an end of the new one -/
theorem no_cross (hl : Good l 0) (ha : hd.ok = true) (hf : p + hd.sz ≤ l.length) (hm : p % hd.sz = 0) (ho : (pg l (beg l p)).order ≤ hd.order) {x : Nat} (hs : Starts l x) :
    ¬ (x < p ∧ p < x + (pg l x).sz) ∧ ¬ (x < p + hd.sz ∧ p + hd.sz < x + (pg l x).sz) := by
  have h0 := (Pg.ok_iff.1 ha).1
  have h1 := (Pg.ok_iff.1 hs.head).1
  have hsz := hd.sz_pos
  have hme := hs.mult
  have key : ∀ q : Nat, q % hd.sz = 0 → x < q → q < x + (pg l x).sz → (pg l x).order ≤ hd.order → False := fun q hq h2 h3 h4 =>
    no_between hme (dvd_of_pow (i := (pg l x).order.toNat) (j := hd.order.toNat) hq (by omega)) h2 h3
  constructor
  · rintro ⟨h2, h3⟩
    rw [beg_in hs (by omega) h3] at ho
    exact key p hm h2 h3 ho
  · rintro ⟨h2, h3⟩
    have hm2 : (p + hd.sz) % hd.sz = 0 := by rw [Nat.add_mod_right]; exact hm
    by_cases h4 : (pg l x).order ≤ hd.order
    · exact key _ hm2 h2 h3 h4
    · have hx : x % hd.sz = 0 := dvd_of_pow (i := hd.order.toNat) (j := (pg l x).order.toNat) hme (by omega)
      have hxp : x ≤ p := by
        apply Nat.le_of_not_lt
        intro h5
        exact no_between hm hx h5 h2
      rw [beg_in hs hxp (by omega)] at ho
      exact h4 ho
theorem Good.reach {a b : Nat} (h : Good l a) (hab : a ≤ b) (hb : b ≤ l.length) (hx : ∀ x, Starts l x → ¬ (x < b ∧ b < x + (pg l x).sz)) : Good l b := by
  induction h with
  | done => obtain rfl : b = l.length := by omega
            exact Good.done
  | step a ha hs hg ih =>
    by_cases he : a = b
    · subst he; exact Good.step a ha hs hg
    · exact ih (by have := hx a hs; omega)
theorem set_starts (hf : p + hd.sz ≤ l.length) {a : Nat} (hs : Starts l a) (hap : a + (pg l a).sz ≤ p ∨ p + hd.sz ≤ a) : pg (setF l p hd) a = pg l a ∧ Starts (setF l p hd) a := by
  have hz := (pg l a).sz_pos
  have hz2 := hd.sz_pos
  have hfit := hs.fits
  have same : ∀ j, a ≤ j → j < a + (pg l a).sz → pg (setF l p hd) j = pg l j := fun j h1 h2 => by
    rw [setF_at l p hd j (by omega), if_neg (by omega), if_neg (by omega)]
  have h0 := same a (by omega) (by omega)
  refine ⟨h0, ?_, ?_, ?_, ?_⟩
  · rw [h0]; exact hs.head
  · rw [h0]; exact hs.mult
  · rw [h0, setF_length]; exact hs.fits
  · intro j h1 h2
    rw [h0] at h2
    rw [same j (by omega) h2]
    exact hs.ins j h1 h2
theorem set_self (ha : hd.ok = true) (hf : p + hd.sz ≤ l.length) (hm : p % hd.sz = 0) : pg (setF l p hd) p = hd ∧ Starts (setF l p hd) p := by
  have hz := hd.sz_pos
  have h0 : pg (setF l p hd) p = hd := by rw [setF_at l p hd p (by omega), if_pos rfl]
  refine ⟨h0, ?_, ?_, ?_, ?_⟩
  · rw [h0]; exact ha
  · rw [h0]; exact hm
  · rw [h0, setF_length]; exact hf
  · intro j h1 h2
    rw [h0] at h2
    rw [setF_at l p hd j (by omega), if_neg (by omega), if_pos ⟨h1, h2⟩]
theorem set_tail (hf : p + hd.sz ≤ l.length) {a : Nat} (h : Good l a) (hap : p + hd.sz ≤ a) : Good (setF l p hd) a := by
  induction h with
  | done => have := @Good.done (setF l p hd); rwa [setF_length] at this
  | step a ha hs hg ih =>
    obtain ⟨h1, h2⟩ := set_starts hf hs (.inr hap)
    refine Good.step a (by rw [setF_length]; exact ha) h2 ?_
    rw [h1]
    exact ih (by omega)
/-- the table that Set answers may be -/
theorem set_good (hl : Good l 0) (ha : hd.ok = true) (hf : p + hd.sz ≤ l.length) (hm : p % hd.sz = 0) (ho : (pg l (beg l p)).order ≤ hd.order) : Good (setF l p hd) 0 := by
  have hz := hd.sz_pos
  have hc := fun x hs => no_cross hl ha hf hm ho (x := x) hs
  have h1 : Good l (p + hd.sz) := hl.reach (Nat.zero_le _) hf (fun x hs => (hc x hs).2)
  have h2 := set_tail hf h1 (Nat.le_refl _)
  have h3 : Good (setF l p hd) p := by
    obtain ⟨e, hs⟩ := set_self ha hf hm
    refine Good.step p (by rw [setF_length]; omega) hs ?_
    rw [e]
    exact h2
  have key : ∀ a, Good l a → a ≤ p → Good (setF l p hd) a := by
    intro a h
    induction h with
    | done => intro h; omega
    | step a hal hs hg ih =>
      intro hap
      by_cases he : a = p
      · rw [he]; exact h3
      · have h4 := (hc a hs).1
        obtain ⟨h5, h6⟩ := set_starts (hd := hd) (p := p) hf hs (.inl (by omega))
        refine Good.step a (by rw [setF_length]; exact hal) h6 ?_
        rw [h5]
        exact ih (by omega)
  exact key 0 hl (Nat.zero_le _)
theorem set_valid (hl : Valid l) (ha : hd.ok = true) (hf : p + hd.sz ≤ l.length) (hm : p % hd.sz = 0) (ho : (pg l (beg l p)).order ≤ hd.order) : Valid (setF l p hd) :=
  ⟨by rw [setF_length]; exact hl.1, by rw [setF_length]; exact hl.2.1, set_good hl.2.2 ha hf hm ho⟩
theorem set_again : setF (setF l p hd) p hd = setF l p hd := by
  unfold setF
  simp only [List.length_map, List.length_range]
  apply List.map_congr_left
  intro i hi
  have hi' : i < l.length := by simpa using hi
  split
  · rfl
  · split
    · rfl
    · rename_i h1 h2
      rw [show pg ((List.range l.length).map fun i => if i = p then hd else if p < i ∧ i < p + hd.sz then pin else pg l i) i = if i = p then hd else if p < i ∧ i < p + hd.sz then pin else pg l i from setF_at l p hd i hi', if_neg h1, if_neg h2]
theorem set_beg (ha : hd.ok = true) (hf : p + hd.sz ≤ l.length) (hm : p % hd.sz = 0) {i : Nat} (h1 : p ≤ i) (h2 : i < p + hd.sz) : beg (setF l p hd) i = p := by
  obtain ⟨e, hs⟩ := set_self ha hf hm
  exact beg_in hs h1 (by rw [e]; exact h2)
end
/-! the sums of FrameSum -/
def allTo (l : List Pg) : Nat → Nat
  | 0 => 0
  | k + 1 => allTo l k + (if (pg l k).kind ≠ 1 then (pg l k).sz else 0)
def outTo (l : List Pg) : Nat → Nat
  | 0 => 0
  | k + 1 => outTo l k + (if (pg l k).kind = 0 then (pg l k).sz else 0)
theorem sums_block {l : List Pg} {a : Nat} (hs : Starts l a) (k : Nat) (h1 : 1 ≤ k) (hk : k ≤ (pg l a).sz) : allTo l (a + k) = allTo l a + (pg l a).sz ∧ outTo l (a + k) = outTo l a + (if (pg l a).kind = 0 then (pg l a).sz else 0) := by
  induction k with
  | zero => omega
  | succ k ih =>
    rw [← Nat.add_assoc]
    show allTo l (a + k) + _ = _ ∧ outTo l (a + k) + _ = _
    by_cases hk0 : k = 0
    · subst hk0
      have := Pg.kind_ne hs.head
      simp [this]
    · obtain ⟨i1, i2⟩ := ih (by omega) (by omega)
      have h3 := hs.ins (a + k) (by omega) (by omega)
      rw [i1, i2, h3]
      simp [pin]
theorem Good.sums {l : List Pg} {a : Nat} (h : Good l a) (h1 : allTo l a = a) (h2 : outTo l a = freeTo l a) : allTo l l.length = l.length ∧ outTo l l.length = freeTo l l.length := by
  induction h with
  | done => exact ⟨h1, h2⟩
  | step a ha hs hg ih =>
    have hz := (pg l a).sz_pos
    obtain ⟨i1, i2⟩ := sums_block hs _ hz (Nat.le_refl _)
    refine ih (by rw [i1, h1]) ?_
    rw [i2, h2, freeTo_block hs _ (Nat.le_refl _)]
end Go.Proofs.Ytlljomnpdgmifaa
