/-
  Zones: tables without caches; near pages in a table; what is out, and what each call makes of it: the arithmetic of it.
-/
import Derived.Test.YtlljomnpdgmifaaNear
import Derived.Test.YtlljomnpdgmifaaIni
set_option linter.unusedVariables false
set_option linter.unusedSimpArgs false
namespace Go.Proofs.Ytlljomnpdgmifaa
open Go

/-! ### tables without caches -/
def e0 (p : Pg) : Pg := ⟨p.kind, p.order, 0⟩
def er (l : List Pg) : List Pg := l.map e0
theorem er_length (l : List Pg) : (er l).length = l.length := by simp [er]
theorem pg_er (l : List Pg) : pg (er l) = fun i => e0 (pg l i) := by
  funext i
  cases h : l[i]? with
  | none => simp [pg, er, List.getD_eq_getElem?_getD, h]; rfl
  | some x => simp [pg, er, List.getD_eq_getElem?_getD, h]
theorem e0_fh (o : Nat) : e0 (fh o) = fh o := rfl
theorem Cov.fh_of {l : List Pg} (hc : Cov l) {i o : Nat} (hi : i < l.length) (h : e0 (pg l i) = fh o) : pg l i = fh o := by
  have hk : (pg l i).kind = 0 := congrArg Pg.kind h
  have ho : (pg l i).order = o := congrArg Pg.order h
  have hs := hc.starts hi (by omega)
  rw [ok_zero hs.head (by omega), ho]
  rfl
theorem starts_er {l : List Pg} {a : Nat} (h : Starts l a) : Starts (er l) a := by
  have hz : (pg (er l) a).sz = (pg l a).sz := by rw [pg_er]; rfl
  refine ⟨?_, by rw [hz]; exact h.mult, by rw [hz, er_length]; exact h.fits, fun j h1 h2 => ?_⟩
  · rw [pg_er]
    obtain ⟨h1, h2⟩ := Pg.ok_iff.1 h.head
    refine Pg.ok_iff.2 ⟨h1, ?_⟩
    rcases h2 with h2 | h2
    · exact .inl ⟨h2.1, rfl⟩
    · exact .inr ⟨h2.1, Int.le_refl _, by show (0 : Int) ≤ 8; decide⟩
  · rw [hz] at h2
    rw [pg_er]
    show e0 (pg l j) = pin
    rw [h.ins j h1 h2]
    rfl
theorem cov_er {l : List Pg} (h : Cov l) : Cov (er l) := fun i hi => by
  rw [er_length] at hi
  obtain ⟨a, hs, h1, h2⟩ := h i hi
  exact ⟨a, starts_er hs, h1, by rw [pg_er]; exact h2⟩
theorem std_er {l : List Pg} (h : Std l) : Std (er l) := by
  refine std_of (by rw [er_length]; exact h.valid.1) (by rw [er_length]; exact h.valid.2.1) (cov_er h.cov) ?_
  intro i k hk hm hlt he hne
  rw [er_length] at hlt
  rw [pg_er] at he hne
  have := pow_two_pos k
  exact h.nb i k hk hm hlt (h.cov.fh_of (by omega) he) (h.cov.fh_of hlt hne)
theorem fit_er {l : List Pg} (hc : Cov l) {order o p : Nat} (h : Fit l order o p) : Fit (er l) order o p := by
  refine ⟨h.lo, h.hi, by rw [er_length]; exact h.lt, by rw [pg_er]; show e0 (pg l p) = fh o; rw [h.here]; rfl, fun o' h1 h2 i hi e => ?_, fun i hi e => ?_⟩
  · rw [er_length] at hi
    rw [pg_er] at e
    exact h.less o' h1 h2 i hi (hc.fh_of hi e)
  · rw [pg_er] at e
    exact h.first i hi (hc.fh_of (by have := h.lt; omega) e)
theorem nofit_er {l : List Pg} (hc : Cov l) {order : Nat} (h : NoFit l order) : NoFit (er l) order := fun o h1 h2 i hi e => by
  rw [er_length] at hi
  rw [pg_er] at e
  exact h o h1 h2 i hi (hc.fh_of hi e)
theorem spl_er (f : Nat → Pg) (p o d : Nat) : spl (fun i => e0 (f i)) p o d = fun i => e0 (spl f p o d i) := by
  induction d with
  | zero => rfl
  | succ d ih =>
    funext i
    unfold spl
    rw [ih]
    unfold upd
    by_cases h : i = p + 2 ^ (o - (d + 1))
    · simp only [h, if_true]; rfl
    · simp only [h, if_false]
theorem alloc_er (l : List Pg) (order o p : Nat) (c : Int) : allocL (er l) order o p 0 = er (allocL l order o p c) := by
  apply list_ext (by rw [allocL_length, er_length, er_length, allocL_length])
  intro i hi
  rw [allocL_length, er_length] at hi
  rw [alloc_at _ _ _ _ _ (by rw [er_length]; exact hi), pg_er (allocL l order o p c), pg_er l, spl_er]
  show _ = e0 (pg (allocL l order o p c) i)
  rw [alloc_at _ _ _ _ _ hi]
  unfold upd
  by_cases h : i = p
  · simp only [h, if_true]; rfl
  · simp only [h, if_false]
theorem isF_er {l : List Pg} (hc : Cov l) (i o : Nat) : isF (er l) i o = isF l i o := by
  unfold isF
  apply decide_eq_decide.2
  rw [er_length, pg_er]
  constructor
  · rintro ⟨h1, h2⟩; exact ⟨h1, hc.fh_of h1 h2⟩
  · rintro ⟨h1, h2⟩; exact ⟨h1, by show e0 (pg l i) = fh o; rw [h2]; rfl⟩
theorem mrg_er {l : List Pg} (hc : Cov l) (k p o : Nat) : mrg (er l) k p o = mrg l k p o := by
  induction k generalizing p o with
  | zero => rfl
  | succ k ih =>
    unfold mrg
    rw [isF_er hc, ih]
theorem setF_er (l : List Pg) (q r : Nat) : setF (er l) q (fh r) = er (setF l q (fh r)) := by
  apply list_ext (by rw [setF_length, er_length, er_length, setF_length])
  intro i hi
  rw [setF_length, er_length] at hi
  rw [setF_at _ _ _ _ (by rw [er_length]; exact hi), pg_er (setF l q (fh r)), pg_er l]
  show _ = e0 (pg (setF l q (fh r)) i)
  rw [setF_at _ _ _ _ hi]
  by_cases h : i = q
  · simp only [h, if_true]; rfl
  · by_cases h2 : q < i ∧ i < q + (fh r).sz
    · rw [if_neg h, if_pos h2, if_neg h, if_pos h2]; rfl
    · rw [if_neg h, if_neg h2, if_neg h, if_neg h2]
theorem free_er {l : List Pg} (hc : Cov l) (p : Nat) : freeL (er l) p = er (freeL l p) := by
  have e : (pg (er l) p).order = (pg l p).order := by rw [pg_er]; rfl
  unfold freeL
  rw [e, mrg_er hc, setF_er]
theorem used_er (l : List Pg) : used (er l) = used l := by
  unfold used
  rw [er_length, pg_er]
  rfl
theorem heads_er (l : List Pg) (k : Nat) : heads (er l) k = heads l k := by
  unfold heads
  rw [pg_er]
  rfl
theorem left_of {l : List Pg} (h : Std l) : freeF l + used l = l.length := by rw [free_yes h.valid]; exact free_used h.cov
theorem left_er {l : List Pg} (h : Std l) : freeF (er l) = freeF l := by
  have h1 := left_of h
  have h2 := left_of (std_er h)
  rw [used_er, er_length] at h2
  omega
theorem whole_er {l : List Pg} (h : Std l) : er l = ini (er l).length ↔ l = ini l.length := by
  rw [std_whole h, std_whole (std_er h), er_length, heads_er]
/-! a head gets another cache -/
def setC (l : List Pg) (p : Nat) (c : Int) : List Pg := mk l.length (upd (pg l) p ⟨(pg l p).kind, (pg l p).order, c⟩)
theorem setC_length (l : List Pg) (p : Nat) (c : Int) : (setC l p c).length = l.length := mk_length _ _
theorem setC_at (l : List Pg) (p : Nat) (c : Int) {i : Nat} (hi : i < l.length) : pg (setC l p c) i = upd (pg l) p ⟨(pg l p).kind, (pg l p).order, c⟩ i := pg_mk _ hi
theorem setC_p (l : List Pg) (c : Int) {p : Nat} (hp : p < l.length) : pg (setC l p c) p = ⟨(pg l p).kind, (pg l p).order, c⟩ := by rw [setC_at _ _ _ hp, upd_self]
theorem setC_other (l : List Pg) (c : Int) {p i : Nat} (hi : i < l.length) (h : i ≠ p) : pg (setC l p c) i = pg l i := by rw [setC_at _ _ _ hi, upd_other _ _ h]
theorem setC_er (l : List Pg) (p : Nat) (c : Int) : er (setC l p c) = er l := by
  apply list_ext (by rw [er_length, er_length, setC_length])
  intro i hi
  rw [er_length, setC_length] at hi
  rw [pg_er, pg_er]
  show e0 (pg (setC l p c) i) = e0 (pg l i)
  by_cases h : i = p
  · subst h; rw [setC_p _ _ hi]; rfl
  · rw [setC_other _ _ hi h]
theorem setC_std {l : List Pg} (h : Std l) {p : Nat} {c : Int} (hp : p < l.length) (hk : (pg l p).kind = 2) (h0 : 0 ≤ c) (h8 : c ≤ 8) : Std (setC l p c) := by
  have hs := h.cov.starts hp (by rw [hk]; decide)
  have ho := (Pg.ok_iff.1 hs.head).1
  refine std_of (by rw [setC_length]; exact h.valid.1) (by rw [setC_length]; exact h.valid.2.1) (h.cov.head hs (setC_length _ _ _) ?_ (by rw [setC_p _ _ hp]) (fun i hi hne => setC_other _ _ hi hne)) ?_
  · rw [setC_p _ _ hp]
    exact Pg.ok_iff.2 ⟨ho, .inr ⟨hk, h0, h8⟩⟩
  · intro i k hk2 hm hlt he hne
    rw [setC_length] at hlt
    have hp1 := pow_two_pos k
    have n1 : i ≠ p := by
      rintro rfl
      rw [setC_p _ _ hp] at he
      have := congrArg Pg.kind he
      simp only [fh] at this
      omega
    have n2 : i + 2 ^ k ≠ p := by
      intro e
      rw [e, setC_p _ _ hp] at hne
      have := congrArg Pg.kind hne
      simp only [fh] at this
      omega
    rw [setC_other _ _ (by omega) n1] at he
    rw [setC_other _ _ hlt n2] at hne
    exact h.nb i k hk2 hm hlt he hne
theorem setC_used (l : List Pg) (p : Nat) (c : Int) : used (setC l p c) = used l := by
  unfold used
  rw [setC_length]
  apply sum_same
  intro i hi
  by_cases h : i = p
  · subst h; rw [setC_p _ _ hi]; rfl
  · rw [setC_other _ _ hi h]
/-! ### pages go back -/
def backL (l : List Pg) : List Int → List Pg
  | [] => l
  | x :: r => backL (freeL l x.toNat) r
theorem backL_snoc (l : List Pg) (r : List Int) (x : Int) : backL l (r ++ [x]) = freeL (backL l r) x.toNat := by
  induction r generalizing l with
  | nil => rfl
  | cons y r ih => exact ih _
/-- a page that is out, alone, with cache 0 -/
def NearOut (l : List Pg) (x : Int) : Prop := ∃ p : Nat, x = p ∧ p < l.length ∧ pg l p = ⟨2, 0, 0⟩
structure BackOk (l : List Pg) (r : List Int) : Prop where
  std : Std (backL l r)
  len : (backL l r).length = l.length
  other : ∀ p, p < l.length → (p : Int) ∉ r → pg (backL l r) p = pg l p ∨ ((pg (backL l r) p).kind ≠ 2 ∧ (pg l p).kind ≠ 2)
  gone : ∀ p, p < l.length → (p : Int) ∈ r → (pg (backL l r) p).kind ≠ 2
  used : used (backL l r) + r.length = used l
theorem back_ok {l : List Pg} (h : Std l) (r : List Int) (hr : ∀ x ∈ r, NearOut l x) (hn : r.Nodup) : BackOk l r := by
  induction r generalizing l with
  | nil => exact ⟨h, rfl, fun p _ _ => .inl rfl, fun p _ hx => by simp at hx, by simp [backL]⟩
  | cons x r ih =>
    obtain ⟨p, rfl, hp, he⟩ := hr x (by simp)
    have hk : (pg l p).kind = 2 := by rw [he]
    obtain ⟨hxr, hnr⟩ := List.nodup_cons.1 hn
    have hl := freeL_length l p
    have hr1 : ∀ y ∈ r, NearOut (freeL l p) y := fun y hy => by
      obtain ⟨q, rfl, hq, eq⟩ := hr y (by simp [hy])
      refine ⟨q, rfl, by rw [hl]; exact hq, ?_⟩
      rcases free_other h.cov hp hk hq (fun e => hxr (by rw [← e]; exact hy)) with e | ⟨_, e⟩
      · rw [e, eq]
      · rw [eq] at e; exact absurd rfl e
    have B := ih (free_std h hp hk) hr1 hnr
    have eb : backL l ((p : Int) :: r) = backL (freeL l p) r := rfl
    have hBl := B.len
    rw [hl] at hBl
    refine ⟨by rw [eb]; exact B.std, by rw [eb, hBl], fun q hq hnq => ?_, fun q hq hqr => ?_, ?_⟩
    · rw [eb]
      simp only [List.mem_cons, not_or] at hnq
      have hqp : q ≠ p := fun e => hnq.1 (by rw [e])
      rcases B.other q (by rw [hl]; exact hq) hnq.2 with e1 | ⟨e1, e2⟩
      · rcases free_other h.cov hp hk hq hqp with e3 | ⟨e3, e4⟩
        · exact .inl (e1.trans e3)
        · exact .inr ⟨by rw [e1]; exact e3, e4⟩
      · rcases free_other h.cov hp hk hq hqp with e3 | ⟨e3, e4⟩
        · exact .inr ⟨e1, by rw [← e3]; exact e2⟩
        · exact .inr ⟨e1, e4⟩
    · rw [eb]
      rcases List.mem_cons.1 hqr with e | e
      · obtain rfl : q = p := by omega
        rcases B.other q (by rw [hl]; exact hq) hxr with e1 | ⟨e1, _⟩
        · rw [e1]; exact free_at_p h.cov hp hk
        · exact e1
      · exact B.gone q (by rw [hl]; exact hq) e
    · have h1 := B.used
      have h2 := free_used_less h.cov hp hk
      have h3 : (pg l p).sz = 1 := by rw [he]; rfl
      rw [eb, List.length_cons]
      omega
/-! ### near pages -/
def cnt (n : Nat) (f : F) : Nat := sumTo (fun i => (f i).length) n
structure ZInv (n : Nat) (l : List Pg) (f : F) : Prop where
  std : Std l
  near : ∀ i, i < n → ∀ x ∈ f i, NearOut l x
  once : ∀ i, i < n → (f i).Nodup
  apart : ∀ i j, i < n → j < n → i ≠ j → ∀ x ∈ f i, x ∉ f j
theorem hasB_upd {n c : Nat} {f : F} {m : List Int} {x : Int} (h : x ∈ m ↔ x ∈ f c) : hasB (nUpd f c m) n x = hasB f n x := by
  rw [Bool.eq_iff_iff, hasB_iff, hasB_iff]
  constructor
  · rintro ⟨i, h1, h2⟩
    refine ⟨i, h1, ?_⟩
    by_cases e : i = c
    · subst e; rw [upd_same] at h2; exact h.1 h2
    · rwa [nUpd_other _ _ e] at h2
  · rintro ⟨i, h1, h2⟩
    refine ⟨i, h1, ?_⟩
    by_cases e : i = c
    · subst e; rw [upd_same]; exact h.2 h2
    · rwa [nUpd_other _ _ e]
theorem cnt_upd {n c : Nat} (f : F) (m : List Int) (hc : c < n) : cnt n (nUpd f c m) + (f c).length = cnt n f + m.length := by
  have := sum_one (u := fun i => (nUpd f c m i).length) (v := fun i => (f i).length) hc (fun i hi hne => by simp only [nUpd_other _ _ hne])
  simp only [upd_same] at this
  exact this
/-- what is out, and not near -/
def ot (n : Nat) (l : List Pg) (f : F) (h : Nat) : Option Pg := if h < l.length ∧ (pg l h).kind = 2 ∧ hasB f n (h : Int) = false then some (pg l h) else none
theorem ot_some {n : Nat} {l : List Pg} {f : F} {h : Nat} {q : Pg} : ot n l f h = some q ↔ (h < l.length ∧ (pg l h).kind = 2 ∧ hasB f n (h : Int) = false) ∧ pg l h = q := by
  unfold ot
  split
  · next hh => simp [hh]
  · next hh => simp [hh]
theorem ot_none {n : Nat} {l : List Pg} {f : F} {h : Nat} : ot n l f h = none ↔ ¬ (h < l.length ∧ (pg l h).kind = 2 ∧ hasB f n (h : Int) = false) := by
  unfold ot
  split
  · next hh => simp [hh]
  · next hh => simp [hh]
theorem ot_eq {n : Nat} {l l' : List Pg} {f f' : F} {h : Nat} (hl : l'.length = l.length) (hp : h < l.length → pg l' h = pg l h ∨ ((pg l' h).kind ≠ 2 ∧ (pg l h).kind ≠ 2)) (hh : hasB f' n (h : Int) = hasB f n (h : Int)) : ot n l' f' h = ot n l f h := by
  unfold ot
  rw [hl, hh]
  by_cases h1 : h < l.length
  · rcases hp h1 with e | ⟨e1, e2⟩
    · rw [e]
    · rw [if_neg (fun x => e1 x.2.1), if_neg (fun x => e2 x.2.1)]
  · rw [if_neg (fun x => h1 x.1), if_neg (fun x => h1 x.1)]
theorem ZInv.ot_near {n : Nat} {l : List Pg} {f : F} (h : ZInv n l f) {i p : Nat} (hi : i < n) (hx : (p : Int) ∈ f i) : ot n l f p = none := ot_none.2 fun e => by
  rw [hasB_iff.2 ⟨i, hi, hx⟩] at e
  exact absurd e.2.2 (by decide)
/-- nothing goes out, nothing comes back -/
structure Zs (n : Nat) (l : List Pg) (f : F) (l' : List Pg) (f' : F) : Prop where
  inv : ZInv n l' f'
  len : l'.length = l.length
  ot : ∀ q, ot n l' f' q = ot n l f q
  bal : used l' + cnt n f = used l + cnt n f'
/-- a block goes out -/
structure Za (n : Nat) (l : List Pg) (f : F) (l' : List Pg) (f' : F) (p o : Nat) (c : Int) : Prop where
  inv : ZInv n l' f'
  len : l'.length = l.length
  ot0 : ot n l f p = none
  ot1 : ot n l' f' p = some ⟨2, (o : Int), c⟩
  ot : ∀ q, q ≠ p → ot n l' f' q = ot n l f q
  bal : used l' + cnt n f = used l + cnt n f' + 2 ^ o
/-- a block comes back -/
structure Zd (n : Nat) (l : List Pg) (f : F) (l' : List Pg) (f' : F) (p o : Nat) : Prop where
  inv : ZInv n l' f'
  len : l'.length = l.length
  ot0 : ∃ c, ot n l f p = some ⟨2, (o : Int), c⟩
  ot1 : ot n l' f' p = none
  ot : ∀ q, q ≠ p → ot n l' f' q = ot n l f q
  bal : used l' + cnt n f + 2 ^ o = used l + cnt n f'
section
variable {n : Nat} {l l' l'' : List Pg} {f f' f'' : F}
theorem ZInv.refl (h : ZInv n l f) : Zs n l f l f := ⟨h, rfl, fun _ => rfl, rfl⟩
theorem Zs.trans (h : Zs n l f l' f') (k : Zs n l' f' l'' f'') : Zs n l f l'' f'' :=
  ⟨k.inv, k.len.trans h.len, fun q => (k.ot q).trans (h.ot q), by have := h.bal; have := k.bal; omega⟩
theorem Zs.add {p o : Nat} {c : Int} (h : Zs n l f l' f') (k : Za n l' f' l'' f'' p o c) : Za n l f l'' f'' p o c :=
  ⟨k.inv, k.len.trans h.len, (h.ot p).symm.trans k.ot0, k.ot1, fun q e => (k.ot q e).trans (h.ot q), by have := h.bal; have := k.bal; omega⟩
theorem Zd.same {p o : Nat} (h : Zd n l f l' f' p o) (k : Zs n l' f' l'' f'') : Zd n l f l'' f'' p o :=
  ⟨k.inv, k.len.trans h.len, h.ot0, (k.ot p).trans h.ot1, fun q e => (k.ot q).trans (h.ot q e), by have := h.bal; have := k.bal; omega⟩
/-- the first ones of a list go back -/
theorem ZInv.release (h : ZInv n l f) {c : Nat} (hc : c < n) {a b : List Int} (e : f c = a ++ b) : Zs n l f (backL l a) (nUpd f c b) := by
  have hnd := h.once c hc
  rw [e] at hnd
  obtain ⟨na, nb, nab⟩ := List.nodup_append.1 hnd
  have B := back_ok h.std a (fun x hx => h.near c hc x (by rw [e]; exact List.mem_append_left _ hx)) na
  have key : ∀ i, i < n → ∀ x ∈ nUpd f c b i, x ∈ f i ∧ x ∉ a := fun i hi x hx => by
    by_cases ei : i = c
    · subst ei
      rw [upd_same] at hx
      exact ⟨by rw [e]; exact List.mem_append_right _ hx, fun ha => nab x ha x hx rfl⟩
    · rw [nUpd_other _ _ ei] at hx
      exact ⟨hx, fun ha => h.apart i c hi hc ei x hx (by rw [e]; exact List.mem_append_left _ ha)⟩
  refine ⟨⟨B.std, fun i hi x hx => ?_, fun i hi => ?_, fun i j hi hj hij x hx hxj => h.apart i j hi hj hij x (key i hi x hx).1 (key j hj x hxj).1⟩, B.len, fun q => ?_, ?_⟩
  · obtain ⟨h1, h2⟩ := key i hi x hx
    obtain ⟨p, rfl, hp, ep⟩ := h.near i hi x h1
    refine ⟨p, rfl, by rw [B.len]; exact hp, ?_⟩
    rcases B.other p hp h2 with e1 | ⟨_, e1⟩
    · rw [e1, ep]
    · rw [ep] at e1; exact absurd rfl e1
  · by_cases ei : i = c
    · subst ei; rw [upd_same]; exact nb
    · rw [nUpd_other _ _ ei]; exact h.once i hi
  · by_cases hq : (q : Int) ∈ a
    · rw [h.ot_near hc (by rw [e]; exact List.mem_append_left _ hq)]
      refine ot_none.2 fun x => ?_
      rw [B.len] at x
      exact B.gone q x.1 hq x.2.1
    · exact ot_eq B.len (fun hql => B.other q hql hq) (hasB_upd (by rw [e, List.mem_append]; exact ⟨.inr, fun x => x.resolve_left hq⟩))
  · have h1 := B.used
    have h2 := cnt_upd f b hc
    rw [e, List.length_append] at h2
    omega
theorem ZInv.drain (h : ZInv n l f) {c : Nat} (hc : c < n) : Zs n l f (backL l (f c)) (nUpd f c []) := h.release hc (by simp)
/-- the first k processors are drained -/
def emp (k : Nat) (f : F) : F := fun i => if i < k then [] else f i
theorem emp_zero (f : F) : emp 0 f = f := by funext i; simp [emp]
theorem emp_at (k : Nat) (f : F) : emp k f k = f k := by simp [emp]
theorem emp_succ (k : Nat) (f : F) : nUpd (emp k f) k [] = emp (k + 1) f := by
  funext i
  unfold nUpd emp
  by_cases h : i = k
  · subst h; simp
  · rw [if_neg h]
    by_cases h2 : i < k
    · rw [if_pos h2, if_pos (by omega)]
    · rw [if_neg h2, if_neg (by omega)]
def drL (l : List Pg) (f : F) : Nat → List Pg
  | 0 => l
  | k + 1 => backL (drL l f k) (f k)
theorem ZInv.drained (h : ZInv n l f) (k : Nat) (hk : k ≤ n) : Zs n l f (drL l f k) (emp k f) := by
  induction k with
  | zero => rw [emp_zero]; exact h.refl
  | succ k ih =>
    have h1 := ih (by omega)
    have h2 := h1.inv.drain (c := k) (by omega)
    rw [emp_at, emp_succ] at h2
    exact h1.trans h2
theorem cnt_zero : cnt n f = 0 ↔ ∀ i, i < n → f i = [] := by
  constructor
  · intro h i hi
    have := sum_zero (u := fun i => (f i).length) h hi
    exact List.length_eq_zero_iff.1 this
  · intro h
    exact sum_all_zero fun i hi => by rw [h i hi]; rfl
theorem cnt_emp (f : F) : cnt n (emp n f) = 0 := cnt_zero.2 fun i hi => if_pos hi
/-- the last near page goes out -/
theorem ZInv.take (h : ZInv n l f) {c : Nat} (hc : c < n) {r : List Int} {p : Nat} (e : f c = r ++ [(p : Int)]) {cache : Int} (h0 : 0 ≤ cache) (h8 : cache ≤ 8) : Za n l f (setC l p cache) (nUpd f c r) p 0 cache := by
  have hnd := h.once c hc
  rw [e] at hnd
  obtain ⟨nr, _, nrp⟩ := List.nodup_append.1 hnd
  have hpr : (p : Int) ∉ r := fun hx => nrp _ hx _ (by simp) rfl
  have hpc : (p : Int) ∈ f c := by rw [e]; simp
  obtain ⟨p', e', hp, ep⟩ := h.near c hc _ hpc
  obtain rfl : p' = p := by omega
  have key : ∀ i, i < n → ∀ x ∈ nUpd f c r i, x ∈ f i ∧ x ≠ (p' : Int) := fun i hi x hx => by
    by_cases ei : i = c
    · subst ei
      rw [upd_same] at hx
      exact ⟨by rw [e]; exact List.mem_append_left _ hx, fun ex => hpr (by rw [← ex]; exact hx)⟩
    · rw [nUpd_other _ _ ei] at hx
      exact ⟨hx, fun ex => h.apart i c hi hc ei x hx (by rw [ex]; exact hpc)⟩
  refine ⟨⟨setC_std h.std hp (by rw [ep]) h0 h8, fun i hi x hx => ?_, fun i hi => ?_, fun i j hi hj hij x hx hxj => h.apart i j hi hj hij x (key i hi x hx).1 (key j hj x hxj).1⟩, setC_length _ _ _, h.ot_near hc hpc, ?_, fun q hq => ?_, ?_⟩
  · obtain ⟨h1, h2⟩ := key i hi x hx
    obtain ⟨q, rfl, hq, eq⟩ := h.near i hi x h1
    exact ⟨q, rfl, by rw [setC_length]; exact hq, by rw [setC_other _ _ hq (fun e => h2 (by rw [e])), eq]⟩
  · by_cases ei : i = c
    · subst ei; rw [upd_same]; exact nr
    · rw [nUpd_other _ _ ei]; exact h.once i hi
  · refine ot_some.2 ⟨⟨by rw [setC_length]; exact hp, by rw [setC_p _ _ hp, ep], hasB_no.2 fun i hi hx => (key i hi _ hx).2 rfl⟩, by rw [setC_p _ _ hp, ep]; rfl⟩
  · refine ot_eq (setC_length _ _ _) (fun hql => .inl (setC_other _ _ hql hq)) (hasB_upd ?_)
    rw [e, List.mem_append]
    refine ⟨.inl, fun x => x.resolve_right fun y => hq ?_⟩
    have := List.mem_singleton.1 y
    omega
  · have h2 := cnt_upd f r hc
    rw [e, List.length_append] at h2
    rw [setC_used]
    simp only [List.length_singleton] at h2
    omega
/-- a block goes out of the buddies -/
theorem ZInv.alloc (h : ZInv n l f) {order o p : Nat} {cache : Int} (hf : Fit l order o p) (h0 : 0 ≤ cache) (h8 : cache ≤ 8) : Za n l f (allocL l order o p cache) f p order cache := by
  have hp0 : (pg l p).kind ≠ 2 := by rw [hf.here]; simp [fh]
  have hlen := allocL_length l order o p cache
  have same : ∀ q, q < l.length → q ≠ p → (pg l q).kind = 2 → pg (allocL l order o p cache) q = pg l q := fun q hq hne hk => by
    rcases hf.other (c := cache) h.std.cov hq hne with e | ⟨_, e⟩
    · exact e
    · exact absurd hk e
  have hnp : hasB f n (p : Int) = false := hasB_no.2 fun i hi hx => by
    obtain ⟨q, eq, hq, ep⟩ := h.near i hi _ hx
    obtain rfl : q = p := by omega
    exact hp0 (by rw [ep])
  refine ⟨⟨hf.std h.std h0 h8, fun i hi x hx => ?_, h.once, h.apart⟩, hlen, ot_none.2 fun e => hp0 e.2.1, ot_some.2 ⟨⟨by rw [hlen]; exact hf.lt, by rw [hf.at_p], hnp⟩, hf.at_p⟩, fun q hq => ot_eq hlen (fun hql => hf.other h.std.cov hql hq) rfl, ?_⟩
  · obtain ⟨q, rfl, hq, eq⟩ := h.near i hi x hx
    exact ⟨q, rfl, by rw [hlen]; exact hq, by rw [same q hq (fun e => hp0 (by rw [← e, eq])) (by rw [eq]), eq]⟩
  · rw [hf.used h.std.cov]
    omega
/-- a block goes back to the buddies -/
theorem ZInv.free (h : ZInv n l f) {p o : Nat} {c : Int} (ho : ot n l f p = some ⟨2, (o : Int), c⟩) : Zd n l f (freeL l p) f p o := by
  obtain ⟨⟨hp, hk, hb⟩, e⟩ := ot_some.1 ho
  have hlen := freeL_length l p
  refine ⟨⟨free_std h.std hp hk, fun i hi x hx => ?_, h.once, h.apart⟩, hlen, ⟨c, ho⟩, ot_none.2 fun e => free_at_p h.std.cov hp hk e.2.1, fun q hq => ot_eq hlen (fun hql => free_other h.std.cov hp hk hql hq) rfl, ?_⟩
  · obtain ⟨q, rfl, hq, eq⟩ := h.near i hi x hx
    refine ⟨q, rfl, by rw [hlen]; exact hq, ?_⟩
    rcases free_other h.std.cov hp hk hq (fun e => by subst e; exact hasB_no.1 hb i hi hx) with e1 | ⟨_, e1⟩
    · rw [e1, eq]
    · rw [eq] at e1; exact absurd rfl e1
  · have h1 := free_used_less h.std.cov hp hk
    have h2 : (pg l p).sz = 2 ^ o := by rw [e]; rfl
    omega
/-- a single page comes near -/
theorem ZInv.put (h : ZInv n l f) {p c : Nat} {ca : Int} (hc : c < n) (ho : ot n l f p = some ⟨2, 0, ca⟩) : Zd n l f (setC l p 0) (nUpd f c (f c ++ [(p : Int)])) p 0 := by
  obtain ⟨⟨hp, hk, hb⟩, e⟩ := ot_some.1 ho
  have hn0 := hasB_no.1 hb
  have key : ∀ i, i < n → ∀ x ∈ nUpd f c (f c ++ [(p : Int)]) i, x ∈ f i ∨ (i = c ∧ x = (p : Int)) := fun i hi x hx => by
    by_cases ei : i = c
    · subst ei
      rw [upd_same, List.mem_append, List.mem_singleton] at hx
      exact hx.imp id (fun y => ⟨rfl, y⟩)
    · rw [nUpd_other _ _ ei] at hx
      exact .inl hx
  have hs := setC_std h.std hp hk (c := 0) (by decide) (by decide)
  refine ⟨⟨hs, fun i hi x hx => ?_, fun i hi => ?_, fun i j hi hj hij x hx hxj => ?_⟩, setC_length _ _ _, ⟨ca, ho⟩, ot_none.2 fun x => ?_, fun q hq => ?_, ?_⟩
  · rcases key i hi x hx with h1 | ⟨rfl, rfl⟩
    · obtain ⟨q, rfl, hq, eq⟩ := h.near i hi x h1
      exact ⟨q, rfl, by rw [setC_length]; exact hq, by rw [setC_other _ _ hq (fun e => by subst e; exact hn0 i hi h1), eq]⟩
    · exact ⟨p, rfl, by rw [setC_length]; exact hp, by rw [setC_p _ _ hp, e]⟩
  · by_cases ei : i = c
    · subst ei
      rw [upd_same]
      refine List.nodup_append.2 ⟨h.once i hi, by simp, fun a ha b hb' e2 => ?_⟩
      rw [List.mem_singleton.1 hb'] at e2
      exact hn0 i hi (by rw [← e2]; exact ha)
    · rw [nUpd_other _ _ ei]; exact h.once i hi
  · rcases key i hi x hx with h1 | ⟨h1, h2⟩
    · rcases key j hj x hxj with h3 | ⟨h3, h4⟩
      · exact h.apart i j hi hj hij x h1 h3
      · rw [h4] at h1; exact hn0 i hi h1
    · rcases key j hj x hxj with h3 | ⟨h3, h4⟩
      · rw [h2] at h3; exact hn0 j hj h3
      · omega
  · have : hasB (nUpd f c (f c ++ [(p : Int)])) n (p : Int) = true := hasB_iff.2 ⟨c, hc, by rw [upd_same]; simp⟩
    rw [this] at x
    exact absurd x.2.2 (by decide)
  · refine ot_eq (setC_length _ _ _) (fun hql => .inl (setC_other _ _ hql hq)) (hasB_upd ?_)
    rw [List.mem_append, List.mem_singleton]
    refine ⟨fun x => x.resolve_right fun y => hq (by omega), .inl⟩
  · have h2 := cnt_upd f (f c ++ [(p : Int)]) hc
    rw [List.length_append, List.length_singleton] at h2
    rw [setC_used]
    omega
end
/-! ### what each page of what is out says: kind is the head -/
def TG (n : Nat) (l : List Pg) (f : F) (t : Int → Option Pg) : Prop := ∀ x T, t x = some T ↔ ∃ h : Nat, ot n l f h = some ⟨2, T.order, T.cache⟩ ∧ T.kind = (h : Int) ∧ (h : Int) ≤ x ∧ x < ((h + 2 ^ T.order.toNat : Nat) : Int)
def addT (t : Int → Option Pg) (p S : Nat) (T : Pg) : Int → Option Pg := fun x => if (p : Int) ≤ x ∧ x < ((p + S : Nat) : Int) then some T else t x
def delT (t : Int → Option Pg) (p S : Nat) : Int → Option Pg := fun x => if (p : Int) ≤ x ∧ x < ((p + S : Nat) : Int) then none else t x
section
variable {n : Nat} {l l' : List Pg} {f f' : F} {t : Int → Option Pg}
theorem TG.same (h : TG n l f t) (hs : ∀ q, ot n l' f' q = ot n l f q) : TG n l' f' t := fun x T => by
  rw [h x T]
  simp only [hs]
theorem ot_disj (hc : Cov l) {p q : Nat} {a b : Pg} (h1 : ot n l f p = some a) (h2 : ot n l f q = some b) (hne : q ≠ p) : p + 2 ^ a.order.toNat ≤ q ∨ q + 2 ^ b.order.toNat ≤ p := by
  obtain ⟨⟨a1, a2, _⟩, rfl⟩ := ot_some.1 h1
  obtain ⟨⟨b1, b2, _⟩, rfl⟩ := ot_some.1 h2
  have d := (hc.starts a1 (by omega)).disj (hc.starts b1 (by omega))
  simp only [Pg.sz] at d
  omega
theorem TG.add (h : TG n l f t) (hc : Cov l') {p o : Nat} {c : Int} (hp : ot n l' f' p = some ⟨2, (o : Int), c⟩) (h0 : ot n l f p = none) (hs : ∀ q, q ≠ p → ot n l' f' q = ot n l f q) : TG n l' f' (addT t p (2 ^ o) ⟨(p : Int), (o : Int), c⟩) := by
  intro x T
  unfold addT
  constructor
  · intro hx
    split at hx
    · next hr =>
      cases hx
      exact ⟨p, hp, rfl, hr.1, hr.2⟩
    · obtain ⟨q, h1, h2, h3, h4⟩ := (h x T).1 hx
      have e : q ≠ p := by
        rintro rfl
        rw [h0] at h1
        cases h1
      exact ⟨q, by rw [hs q e]; exact h1, h2, h3, h4⟩
  · rintro ⟨q, h1, h2, h3, h4⟩
    by_cases e : q = p
    · subst e
      rw [hp] at h1
      obtain ⟨k, ord, ca⟩ := T
      simp only [Option.some.injEq, Pg.mk.injEq, true_and] at h1 h2
      obtain ⟨rfl, rfl⟩ := h1
      subst h2
      rw [if_pos ⟨h3, h4⟩]
    · have d := ot_disj hc hp h1 e
      simp only [Int.toNat_natCast] at d
      rw [if_neg (by omega)]
      exact (h x T).2 ⟨q, by rw [← hs q e]; exact h1, h2, h3, h4⟩
theorem TG.del (h : TG n l f t) (hc : Cov l) {p o : Nat} {c : Int} (hp : ot n l f p = some ⟨2, (o : Int), c⟩) (h0 : ot n l' f' p = none) (hs : ∀ q, q ≠ p → ot n l' f' q = ot n l f q) : TG n l' f' (delT t p (2 ^ o)) := by
  intro x T
  unfold delT
  constructor
  · intro hx
    split at hx
    · cases hx
    · next hr =>
      obtain ⟨q, h1, h2, h3, h4⟩ := (h x T).1 hx
      have e : q ≠ p := by
        rintro rfl
        rw [hp] at h1
        obtain ⟨k, ord, ca⟩ := T
        simp only [Option.some.injEq, Pg.mk.injEq, true_and] at h1 h4
        obtain ⟨rfl, rfl⟩ := h1
        exact hr ⟨h3, h4⟩
      exact ⟨q, by rw [hs q e]; exact h1, h2, h3, h4⟩
  · rintro ⟨q, h1, h2, h3, h4⟩
    have e : q ≠ p := by
      rintro rfl
      rw [h0] at h1
      cases h1
    rw [hs q e] at h1
    have d := ot_disj hc hp h1 e
    simp only [Int.toNat_natCast] at d
    rw [if_neg (by omega)]
    exact (h x T).2 ⟨q, h1, h2, h3, h4⟩
/-- the head itself -/
theorem TG.head (h : TG n l f t) {p : Nat} {o c : Int} (hp : ot n l f p = some ⟨2, o, c⟩) : t p = some ⟨(p : Int), o, c⟩ :=
  (h p ⟨p, o, c⟩).2 ⟨p, hp, rfl, Int.le_refl _, by have := pow_two_pos o.toNat; show (p : Int) < ((p + 2 ^ o.toNat : Nat) : Int); omega⟩
theorem TG.at_head (h : TG n l f t) {x : Int} {T : Pg} (hx : t x = some T) (e : T.kind = x) : ∃ p : Nat, x = p ∧ ot n l f p = some ⟨2, T.order, T.cache⟩ := by
  obtain ⟨q, h1, h2, h3, h4⟩ := (h x T).1 hx
  exact ⟨q, by omega, h1⟩
theorem TG.range (h : TG n l f t) (hc : Cov l) {x : Int} {T : Pg} (hx : t x = some T) : 0 ≤ x ∧ x < l.length ∧ 0 ≤ T.order ∧ T.order ≤ 10 ∧ 0 ≤ T.cache ∧ T.cache ≤ 8 := by
  obtain ⟨q, h1, h2, h3, h4⟩ := (h x T).1 hx
  obtain ⟨⟨a1, a2, _⟩, e⟩ := ot_some.1 h1
  have hs := hc.starts a1 (by omega)
  have hf := hs.fits
  have hk := Pg.ok_iff.1 hs.head
  rw [e] at hf hk
  simp only [Pg.sz] at hf
  refine ⟨by omega, by omega, hk.1.1, hk.1.2, ?_⟩
  rcases hk.2 with h5 | h5
  · exact absurd (show (2 : Int) = 0 from h5.1) (by decide)
  · exact h5.2
/-- a page's block, by the table -/
theorem TG.by_beg (h : TG n l f t) (hc : Cov l) {x : Nat} (hx : x < l.length) : t x = (ot n l f (beg l x)).map (fun q => ⟨(beg l x : Int), q.order, q.cache⟩) := by
  obtain ⟨hs, h1, h2⟩ := hc.good.at_beg hx
  cases hb : ot n l f (beg l x) with
  | some q =>
    obtain ⟨⟨a1, a2, a3⟩, e⟩ := ot_some.1 hb
    obtain ⟨k, o, c⟩ := q
    rw [e] at a2 h2
    simp only at a2
    subst a2
    exact (h x ⟨(beg l x : Int), o, c⟩).2 ⟨beg l x, hb, rfl, by omega, by simp only [Pg.sz] at h2; show (x : Int) < ((beg l x + 2 ^ o.toNat : Nat) : Int); omega⟩
  | none =>
    show t x = none
    cases ht : t x with
    | none => rfl
    | some T =>
      obtain ⟨q, b1, b2, b3, b4⟩ := (h x T).1 ht
      obtain ⟨⟨a1, a2, a3⟩, e⟩ := ot_some.1 b1
      have hs2 := hc.starts a1 (by omega)
      have hz : (pg l q).sz = 2 ^ T.order.toNat := by rw [e]; rfl
      have : beg l x = q := by
        rcases hs.disj hs2 with d | d | d
        · exact d
        · omega
        · omega
      rw [this, b1] at hb
      cases hb
end
end Go.Proofs.Ytlljomnpdgmifaa
