/-
  What Alloc, Free, Drain of a Zone answer, and what is behind them.
-/
import Derived.Test.YtlljomnpdgmifaaZC
set_option linter.unusedVariables false
set_option linter.unusedSimpArgs false
namespace Go.Proofs.Ytlljomnpdgmifaa
open Go Go.RowKit

theorem alloc_is_er {l m : List Pg} {order : Nat} {cache p e : Int} (hc : Cov l) (h : AllocIs l order cache p e m) (h1 : order ≤ 10) (h2 : 0 ≤ cache) (h3 : cache ≤ 8) : AllocIs (er l) order 0 p e (er m) := by
  generalize ho : (order : Int) = oi at h
  cases h with
  | bad _ _ hb => exact absurd ⟨by omega, by omega, h2, h3⟩ hb
  | full o _ a b c d =>
    obtain rfl : o = order := by omega
    exact .full o 0 a (by decide) (by decide) (nofit_er hc d)
  | ok o k q _ a b c d =>
    obtain rfl : o = order := by omega
    rw [← alloc_er]
    exact .ok o k q 0 a (by decide) (by decide) (fit_er hc d)
/-- what block answers -/
inductive BlkIs (n : Nat) (l : List Pg) (f : F) (c order : Nat) (cache : Int) : Int → Int → List Pg → F → Prop
  | near (r : List Int) (p : Nat) : order = 0 → f c = r ++ [(p : Int)] → BlkIs n l f c order cache p 0 (setC l p cache) (nUpd f c r)
  | here (p e : Int) (m : List Pg) : (order = 0 → f c = []) → AllocIs l order cache p e m → (e = 7 → cnt n f = 0) → BlkIs n l f c order cache p e m f
  | after (p e : Int) (m : List Pg) : (order = 0 → f c = []) → NoFit l order → 0 < cnt n f → AllocIs (drL l f n) order cache p e m → BlkIs n l f c order cache p e m (emp n f)
inductive AlIs (n : Nat) (l : List Pg) (f : F) : Int → Int → Int → Int → Int → List Pg → F → Prop
  | range (cpu order cache : Int) : ¬ (0 ≤ cpu ∧ cpu < n) → AlIs n l f cpu order cache 0 9 l f
  | arg (c : Nat) (order cache : Int) : c < n → ¬ ArgOk order cache → AlIs n l f c order cache 0 2 l f
  | blk (c o : Nat) (cache p e : Int) (l' : List Pg) (f' : F) : c < n → o ≤ 10 → 0 ≤ cache → cache ≤ 8 → BlkIs n l f c o cache p e l' f' → AlIs n l f c o cache p e l' f'
inductive FrIs (n : Nat) (l : List Pg) (f : F) : Int → Int → Int → List Pg → F → Prop
  | range (cpu page : Int) : ¬ (0 ≤ cpu ∧ cpu < n) → FrIs n l f cpu page 9 l f
  | block (c : Nat) (page : Int) : c < n → (∀ p : Nat, page = p → ot n l f p = none) → FrIs n l f c page 60 l f
  | big (c p o : Nat) (ca : Int) : c < n → ot n l f p = some ⟨2, (o : Int), ca⟩ → 0 < o → FrIs n l f c p 0 (freeL l p) f
  | one (c p : Nat) (ca : Int) (out : List Int) (f' : F) : c < n → ot n l f p = some ⟨2, 0, ca⟩ → PutIs n 6 f c p out 0 f' → FrIs n l f c p 0 (backL (setC l p 0) out) f'
inductive DrIs (n : Nat) (l : List Pg) (f : F) : Int → Int → List Pg → F → Prop
  | range (cpu : Int) : ¬ (0 ≤ cpu ∧ cpu < n) → DrIs n l f cpu 9 l f
  | ok (c : Nat) : c < n → DrIs n l f c 0 (backL l (f c)) (nUpd f c [])
section
variable {n : Nat} {l l' : List Pg} {f f' : F}
/-- only a full one or a good one -/
theorem AllocIs.cases' {order : Nat} {cache p e : Int} {m : List Pg} (h : AllocIs l order cache p e m) (h1 : order ≤ 10) (h2 : 0 ≤ cache) (h3 : cache ≤ 8) : (e = 7 ∧ p = 0 ∧ m = l ∧ NoFit l order) ∨ (e = 0 ∧ ∃ o q : Nat, p = q ∧ Fit l order o q ∧ m = allocL l order o q cache) := by
  generalize ho : (order : Int) = oi at h
  cases h with
  | bad _ _ hb => exact absurd ⟨by omega, by omega, h2, h3⟩ hb
  | full o _ a b c d =>
    obtain rfl : o = order := by omega
    exact .inl ⟨rfl, rfl, rfl, d⟩
  | ok o k q _ a b c d =>
    obtain rfl : o = order := by omega
    exact .inr ⟨rfl, k, q, rfl, d, rfl⟩
theorem blk_is (h : ZInv n l f) {c order : Nat} {cache : Int} (hc : c < n) (h1 : order ≤ 10) (h2 : 0 ≤ cache) (h3 : cache ≤ 8) : ∃ p e l' f', BlkIs n l f c order cache p e l' f' := by
  have key : (order = 0 → f c = []) → ∃ p e l' f', BlkIs n l f c order cache p e l' f' := fun hz => by
    obtain ⟨p, e, m, ha⟩ := alloc_is l order cache
    rcases ha.cases' h1 h2 h3 with ⟨rfl, rfl, rfl, hno⟩ | ⟨rfl, _⟩
    · by_cases h0 : cnt n f = 0
      · exact ⟨_, _, _, _, .here _ _ _ hz ha (fun _ => h0)⟩
      · obtain ⟨p2, e2, m2, ha2⟩ := alloc_is (drL m f n) order cache
        exact ⟨_, _, _, _, .after _ _ _ hz hno (by omega) ha2⟩
    · exact ⟨_, _, _, _, .here _ _ _ hz ha (fun e => by omega)⟩
  by_cases h0 : order = 0
  · rcases List.eq_nil_or_concat (f c) with e | ⟨r, x, e⟩
    · exact key fun _ => e
    · rw [List.concat_eq_append] at e
      obtain ⟨p, rfl, _, _⟩ := h.near c hc x (by rw [e]; simp)
      exact ⟨_, _, _, _, .near r p h0 e⟩
  · exact key fun e => absurd e h0
theorem BlkIs.facts {c order : Nat} {cache p e : Int} (h : BlkIs n l f c order cache p e l' f') (hi : ZInv n l f) (hc : c < n) (h1 : order ≤ 10) (h2 : 0 ≤ cache) (h3 : cache ≤ 8) :
    (e = 0 ∧ ∃ q : Nat, p = q ∧ Za n l f l' f' q order cache) ∨ (e = 7 ∧ p = 0 ∧ Zs n l f l' f' ∧ cnt n f' = 0 ∧ NoFit l' order) := by
  cases h with
  | near r p h0 he =>
    subst h0
    exact .inl ⟨rfl, p, rfl, hi.take hc he h2 h3⟩
  | here p e m hz ha h7 =>
    rcases ha.cases' h1 h2 h3 with ⟨rfl, rfl, rfl, hno⟩ | ⟨rfl, o, q, rfl, hf, rfl⟩
    · exact .inr ⟨rfl, rfl, hi.refl, h7 rfl, hno⟩
    · exact .inl ⟨rfl, q, rfl, hi.alloc hf h2 h3⟩
  | after p e m hz hno hcnt ha =>
    have hd := hi.drained n (Nat.le_refl _)
    rcases ha.cases' h1 h2 h3 with ⟨rfl, rfl, rfl, hno2⟩ | ⟨rfl, o, q, rfl, hf, rfl⟩
    · exact .inr ⟨rfl, rfl, hd, cnt_emp f, hno2⟩
    · exact .inl ⟨rfl, q, rfl, hd.add (hd.inv.alloc hf h2 h3)⟩
theorem al_is (h : ZInv n l f) (cpu order cache : Int) : ∃ p e l' f', AlIs n l f cpu order cache p e l' f' := by
  by_cases h1 : 0 ≤ cpu ∧ cpu < n
  · obtain ⟨c, rfl⟩ : ∃ c : Nat, cpu = c := ⟨cpu.toNat, by omega⟩
    by_cases h2 : ArgOk order cache
    · obtain ⟨o, rfl⟩ : ∃ o : Nat, order = o := ⟨order.toNat, by have := h2.1; omega⟩
      obtain ⟨a1, a2, a3, a4⟩ := h2
      obtain ⟨p, e, l', f', hb⟩ := blk_is h (c := c) (order := o) (cache := cache) (by omega) (by omega) a3 a4
      exact ⟨p, e, l', f', .blk c o cache p e l' f' (by omega) (by omega) a3 a4 hb⟩
    · exact ⟨_, _, _, _, .arg c order cache (by omega) h2⟩
  · exact ⟨_, _, _, _, .range cpu order cache h1⟩
theorem put_facts (h : ZInv n l f) (hf : Fine n 6 f) {c p : Nat} {ca er' : Int} {out : List Int} (hc : c < n) (ho : ot n l f p = some ⟨2, 0, ca⟩) (hr : PutIs n 6 f c p out er' f') :
    er' = 0 ∧ (∀ x ∈ out, NearOut (setC l p 0) x) ∧ out.Nodup ∧ Zd n l f (backL (setC l p 0) out) f' p 0 := by
  have hz := h.put hc ho
  have hb := (ot_some.1 ho).1
  generalize hp : (p : Int) = pi at hr
  generalize hci : (c : Int) = ci at hr
  have h1024 := h.std.valid.2.1
  cases hr with
  | range _ _ hx => exact absurd ⟨by omega, by omega, by omega⟩ hx
  | block c' _ a1 a2 a3 a4 => rw [← hp, hb.2.2] at a4; cases a4
  | ok c' _ a1 a2 a3 a4 a5 =>
    obtain rfl : c' = c := by omega
    subst hp
    exact ⟨rfl, fun x hx => by simp at hx, List.nodup_nil, hz⟩
  | cut c' _ k a1 a2 a3 a4 a5 a6 =>
    obtain rfl : c' = c := by omega
    subst hp
    have hzi := hz.inv
    have e : nUpd f c' (f c' ++ [(p : Int)]) c' = (f c' ++ [(p : Int)]).take k ++ (f c' ++ [(p : Int)]).drop k := by rw [upd_same, List.take_append_drop]
    have hs := hzi.release hc e
    rw [upd_upd] at hs
    have hnd := hzi.once c' hc
    rw [upd_same] at hnd
    exact ⟨rfl, fun x hx => hzi.near c' hc x (by rw [upd_same]; exact List.mem_of_mem_take hx), hnd.sublist (List.take_sublist _ _), hz.same hs⟩
theorem fr_is (h : ZInv n l f) (cpu page : Int) : ∃ e l' f', FrIs n l f cpu page e l' f' := by
  by_cases h1 : 0 ≤ cpu ∧ cpu < n
  · obtain ⟨c, rfl⟩ : ∃ c : Nat, cpu = c := ⟨cpu.toNat, by omega⟩
    by_cases h2 : ∃ p : Nat, page = p ∧ ot n l f p ≠ none
    · obtain ⟨p, rfl, hp⟩ := h2
      obtain ⟨q, hq⟩ := Option.ne_none_iff_exists'.1 hp
      obtain ⟨⟨b1, b2, b3⟩, e⟩ := ot_some.1 hq
      have hk := Pg.ok_iff.1 (h.std.cov.starts b1 (by omega)).head
      obtain ⟨k, o, ca⟩ := q
      rw [e] at b2 hk
      simp only at b2 hk
      subst b2
      obtain ⟨o', rfl⟩ : ∃ o' : Nat, o = o' := ⟨o.toNat, by omega⟩
      by_cases h0 : 0 < o'
      · exact ⟨_, _, _, .big c p o' ca (by omega) hq h0⟩
      · obtain rfl : o' = 0 := by omega
        obtain ⟨out, e2, f', hr⟩ := put_is n 6 f c p
        have h1024 := h.std.valid.2.1
        have e0 : e2 = 0 := by
          cases hr with
          | range _ _ hx => exact absurd ⟨by omega, by omega, by omega⟩ hx
          | block c' _ a1 a2 a3 a4 => rw [b3] at a4; cases a4
          | ok => rfl
          | cut => rfl
        subst e0
        exact ⟨_, _, _, .one c p ca out f' (by omega) hq hr⟩
    · exact ⟨_, _, _, .block c page (by omega) (fun p e => Classical.byContradiction fun hn => h2 ⟨p, e, hn⟩)⟩
  · exact ⟨_, _, _, .range cpu page h1⟩
theorem dr_is (n : Nat) (l : List Pg) (f : F) (cpu : Int) : ∃ e l' f', DrIs n l f cpu e l' f' := by
  by_cases h1 : 0 ≤ cpu ∧ cpu < n
  · obtain ⟨c, rfl⟩ : ∃ c : Nat, cpu = c := ⟨cpu.toNat, by omega⟩
    exact ⟨_, _, _, .ok c (by omega)⟩
  · exact ⟨_, _, _, .range cpu h1⟩
theorem FrIs.facts {cpu page e : Int} (h : FrIs n l f cpu page e l' f') (hi : ZInv n l f) (hf : Fine n 6 f) : (e = 0 ∧ ∃ p o : Nat, page = p ∧ Zd n l f l' f' p o) ∨ (e ≠ 0 ∧ l' = l ∧ f' = f) := by
  cases h with
  | range _ _ _ => exact .inr ⟨by decide, rfl, rfl⟩
  | block _ _ _ _ => exact .inr ⟨by decide, rfl, rfl⟩
  | big c p o ca hc ho h0 => exact .inl ⟨rfl, p, o, rfl, hi.free ho⟩
  | one c p ca out f' hc ho hr => exact .inl ⟨rfl, p, 0, rfl, (put_facts hi hf hc ho hr).2.2.2⟩
theorem DrIs.facts {cpu e : Int} (h : DrIs n l f cpu e l' f') (hi : ZInv n l f) : Zs n l f l' f' := by
  cases h with
  | range _ _ => exact hi.refl
  | ok c hc => exact hi.drain hc
theorem AlIs.facts {cpu order cache p e : Int} (h : AlIs n l f cpu order cache p e l' f') (hi : ZInv n l f) : (e = 0 ∧ ∃ q o : Nat, p = q ∧ order = o ∧ o ≤ 10 ∧ Za n l f l' f' q o cache) ∨ (e ≠ 0 ∧ p = 0 ∧ Zs n l f l' f') := by
  cases h with
  | range _ _ _ _ => exact .inr ⟨by decide, rfl, hi.refl⟩
  | arg _ _ _ _ _ => exact .inr ⟨by decide, rfl, hi.refl⟩
  | blk c o cache p e l' f' hc h1 h2 h3 hb =>
    rcases hb.facts hi hc h1 h2 h3 with ⟨rfl, q, rfl, ha⟩ | ⟨rfl, rfl, hs, _⟩
    · exact .inl ⟨rfl, q, o, rfl, rfl, h1, ha⟩
    · exact .inr ⟨by decide, rfl, hs⟩
end
end Go.Proofs.Ytlljomnpdgmifaa
