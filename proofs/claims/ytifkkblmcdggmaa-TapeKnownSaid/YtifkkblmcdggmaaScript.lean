/-
  The program's readCalls and Script.
-/
import Derived.Test.YtifkkblmcdggmaaRead
set_option linter.unusedVariables false
set_option linter.unusedSimpArgs false
namespace Go.Proofs.Ytifkkblmcdggmaa
open Go Go.RowKit

/-- What is built of calls; of lists; of numbers. -/
def OwnCalls (B : Nat) (w : World) (v : Value) (l : List Cl) : Prop := w.ownsRow B 44 4 v l.length (calls l)
def OwnVals (B : Nat) (w : World) (v : Value) (l : List Value) : Prop := w.ownsRow B 42 1 v l.length l
def OwnInts (B : Nat) (w : World) (v : Value) (l : List Int) : Prop := w.ownsRow B 3 1 v l.length (ints l)
theorem infoC : (Try.prog.info? 44).map (fun i => (i.zero, i.size, i.bytes)) = some (some (.agg #[.int .i64 0, .int .i64 0, .int .i64 0, .int .i64 0]), 4, 32) := by kernel_rfl
theorem infoL : (Try.prog.info? 42).map (fun i => (i.zero, i.size, i.bytes)) = some (some (.slice none 0 0), 1, 24) := by kernel_rfl
theorem infoI : (Try.prog.info? 3).map (fun i => (i.zero, i.size, i.bytes)) = some (some (.int .i64 0), 1, 8) := by kernel_rfl
theorem kept_grown {w w' : World} {B size n k : Nat} {e : TypeId} {v : Value} {xs : List Value} (h : w.ownsRow B e size v n xs) (hg : w.grownBy w' (some k)) (hk : k < B) : w'.ownsRow B e size v n xs := by
  refine World.ownsRow.kept h hg ?_
  right
  intro e
  have := (World.ownsRow.lt h k e).1
  omega
theorem OwnCalls.shows {B : Nat} {w : World} {v : Value} {l : List Cl} (h : OwnCalls B w v l) : ShowCalls w v l := Shows.ofOwns h
theorem OwnInts.shows {B : Nat} {w : World} {v : Value} {l : List Int} (h : OwnInts B w v l) : ShowInts w v l := Shows.ofOwns h

theorem append_calls {ops : Array Oper} {rest : List Oper} {o : Oper} {a : Act} {Q : Exit → Act → World → Prop} {w : World} {B : Nat} (hgd : o.guard = none) (s x : Operand)
    (ho : o.op = .call { callee := .builtin .append, args := #[s, x], argTypes := #[42, 42] })
    (v : Value) (l : List Cl) (hown : OwnCalls B w v l) (hs : a.eval s = v) (c : Cl) (hx : a.eval x = .slice (some ⟨w.heap.size, 0, none⟩) 1 1)
    (hl : l.length ≤ 100000) (hB : B ≤ w.heap.size)
    (h : ∀ v' w', OwnCalls B w' v' (l ++ [c]) → Grew w w' v v' → wpList Try.prog ops Q rest (a.put o.dst v') w') :
    wpList Try.prog ops Q (o :: rest) a (w.alloc (.cells #[.int .i64 c.op, .int .i64 c.a, .int .i64 c.b, .int .i64 c.c] 44)) := by
  obtain ⟨i0, hi, hz0, hz1, hz2⟩ := info_parts infoC
  refine append_new hgd s x 42 ho Try.underlying42 hi hz0 hz1 hz2 rfl (by decide) v l.length (calls l) hs hown #[.int .i64 c.op, .int .i64 c.a, .int .i64 c.b, .int .i64 c.c] 1 hx (by simp) (by intro u hu; simp at hu; rcases hu with rfl | rfl | rfl | rfl <;> rfl) (by unfold maxLen; omega) (by omega) hB ?_
  intro v' w' hown' hg
  refine h v' w' ?_ hg
  unfold OwnCalls
  simpa [calls, Cl.cells] using hown'

set_option maxHeartbeats 4000000 in
set_option maxRecDepth 100000 in
theorem cReadCalls (B k : Nat) (l : List Int) (w : World) (h : Rd B w k l) (hy : Bytey l) :
    Calls Try.prog 30 #[nextOf k] w fun e w' => ∃ v, e = .returned v ∧ OwnCalls w.heap.size w' v (decL l) ∧ Rd B w' k (stepL l) ∧ w.grownBy w' (some k) := by
  have hk := h.lt
  have hBk := h.1
  obtain ⟨x0, e0⟩ : ∃ x, nx l = x := ⟨_, rfl⟩
  obtain ⟨n, hn⟩ : ∃ n, num l = n := ⟨_, rfl⟩
  have hn64 : n ≤ 64 := by rw [← hn]; exact num_lt l
  have hm : x0.tmod 65 = (n : Int) := by
    rw [← hn, num_eq, e0]
    exact Int.tmod_eq_emod_of_nonneg (by rw [← e0]; exact hy.nx.1)
  have HD : Hid (decL l = decC n (l.drop 1)) := Lib.hid (by unfold decL; rw [hn])
  have HS : Hid (stepL l = l.drop (1 + 5 * n)) := Lib.hid (by unfold stepL; rw [hn])
  have H0 := Lib.hid e0
  have hx0 : 0 ≤ x0 ∧ x0 ≤ 255 := by rw [← e0]; exact hy.nx
  clear e0 hn
  rw [HD.out, HS.out]
  go_enter Try.func30, Try.ntmps30
  go_wp2_with fail
  refine (cNext B k l _ h hy).mono ?_
  rintro e w1 ⟨rfl, r1, g1⟩
  rw [H0.out]
  go_wp2
  go_loopw [3, 7] (fun o i wr => ∃ j : Nat, j ≤ n ∧ i = .int .i64 j ∧ OwnCalls w.heap.size wr o (decC j (l.drop 1)) ∧ Rd B wr k (l.drop (1 + 5 * j)) ∧ w.grownBy wr (some k)) (fun _ i _ => n - (intOf i).toNat)
  case atStart => exact ⟨0, by omega, rfl, World.ownsRow_nil _ _ _ _, r1, g1⟩
  case round =>
    obtain ⟨j, hj, rfl, hown, hr, hg⟩ := hrel
    by_cases hlt : j < n
    · have hz := hg.size
      have HR : Hid (l.drop (1 + 5 * j + 5) = l.drop (1 + 5 * (j + 1))) := Lib.hid (by rw [show 1 + 5 * j + 5 = 1 + 5 * (j + 1) by omega])
      have HC : Hid (decC (j + 1) (l.drop 1) = decC j (l.drop 1) ++ [callAt (l.drop (1 + 5 * j))]) := Lib.hid (by rw [decC_succ, List.drop_drop])
      have HL : Hid ((decC j (l.drop 1)).length ≤ 100000) := Lib.hid (by rw [decC_length]; omega)
      go_wp2_with fail
      refine (cReadCall B k _ _ hr (hy.drop _)).mono ?_
      rintro e w2 ⟨rfl, r2, g2⟩
      rw [List.drop_drop, HR.out] at r2
      have hown2 : OwnCalls w.heap.size w2 u3 (decC j (l.drop 1)) := kept_grown hown g2 hk
      have hz2 := g2.size
      generalize callAt (l.drop (1 + 5 * j)) = c at HC
      go_wp2_with (at_builtin; refine append_calls (by rfl) _ _ (by rfl) _ _ hown2 (by rfl) c (by rfl) HL.out (by omega) ?_)
      intro v3 w3 hown3 hg3
      have hv : ∀ i, u3.ownBlock = some i → w.heap.size ≤ i := fun i hi => (World.ownsRow.lt hown2 i hi).1
      have hb3 : Below B w2 w3 := hg3.below (by omega) (fun i hi => by have := hv i hi; omega)
      have r3 : Rd B w3 k (l.drop (1 + 5 * (j + 1))) := r2.keep (hg3.grow.block k (by omega) (fun e => by have := hv k e.symm; omega)) hb3
      go_wp2
      go_roundw
      case rel => exact ⟨j + 1, by omega, by go_num, by rw [HC.out]; simpa only [List.drop_one] using hown3, r3, grown_own (grown_trans hg g2) hg3 (Nat.le_refl _) hv⟩
      case measure => simp [intOf]; omega
    · have hke : j = n := by omega
      subst hke
      go_wp2
      go_ret
      exact ⟨_, rfl, hown, hr, hg⟩


theorem step_one {P : Program} {B e bs : Nat} {i : TypeInfo} {z : Value} {ops : Array Oper} {o : Oper} {a : Act} {K : Act → World → Prop} {Q : Exit → Act → World → Prop} {E : Prop} {w : World} (hgd : o.guard = none) (s x : Operand) (t : TypeId)
    (ho : o.op = .call { callee := .builtin .append, args := #[s, x], argTypes := #[t, t] })
    (ht : P.underlying t = some (.slice e)) (hi : P.info? e = some i) (hz : i.zero = some z) (hsize : i.size = 1) (hby : i.bytes = bs) (hzs : z.cells.size = 1)
    (v : Value) (xs : List Value) (hown : w.ownsRow B e 1 v xs.length xs) (hs : a.eval s = v) (u : Value) (hu : u.oneCell' = true) (g : Nat) (fr : Nat × Nat) (hnew : w.heap[g]? = some (.cells #[u] e fr)) (hx : a.eval x = .slice (some ⟨g, 0, none⟩) 1 1)
    (hl : xs.length ≤ 100000) (hb : bs ≤ 1000) (hB : B ≤ w.heap.size)
    (h : ∀ v' w', w'.ownsRow B e 1 v' (xs ++ [u]).length (xs ++ [u]) → Grew w w' v v' → K (a.put o.dst v') w') :
    if Region.wanted o (yielded ops a.tmps) = true then Oper.wp P o a w K Q else E := by
  have hbytes : (xs.length + 1) * bs ≤ 140737488355328 := Nat.le_trans (Nat.mul_le_mul (show xs.length + 1 ≤ 100001 by omega) hb) (by omega)
  refine step_append_lies w hgd s x t ho B e i z 1 bs ht hi hz hsize hby hzs (by decide) v xs.length xs hs hown ⟨g, 0, none⟩ 1 1 [u] hx (by simp)
    (World.news_of_block hnew) (by intro y hy; simp at hy; subst hy; exact hu) (by decide) (by unfold maxLen; omega) hbytes hB _ rfl ?_
  intro g' cap w' hown' hgrow hat hlt
  refine h _ w' ?_ ⟨hgrow, fun k hk => ?_⟩
  · simpa using hown'
  · have e : g' = k := by simpa [Value.ownBlock] using hk
    subst e
    rcases hat with h1 | h1
    · exact .inl h1
    · exact .inr (by omega)
theorem own_form {w : World} {B n size : Nat} {e : TypeId} {v : Value} {xs : List Value} (h : w.ownsRow B e size v n xs) : ∃ ao cap, v = .slice ao n cap := by
  rcases h.2 with ⟨rfl, rfl⟩ | ⟨g, cap, cur, rfl, _⟩
  · exact ⟨none, 0, rfl⟩
  · exact ⟨_, _, rfl⟩
theorem step_vals {ops : Array Oper} {o : Oper} {a : Act} {K : Act → World → Prop} {Q : Exit → Act → World → Prop} {E : Prop} {w : World} {B : Nat} (hgd : o.guard = none) (s x : Operand)
    (ho : o.op = .call { callee := .builtin .append, args := #[s, x], argTypes := #[22, 22] })
    (v : Value) (xs : List Value) (hown : OwnVals B w v xs) (hs : a.eval s = v) (u : Value) (hu : u.oneCell' = true) (g : Nat) (fr : Nat × Nat) (hnew : w.heap[g]? = some (.cells #[u] 42 fr)) (hx : a.eval x = .slice (some ⟨g, 0, none⟩) 1 1)
    (hl : xs.length ≤ 100000) (hB : B ≤ w.heap.size)
    (h : ∀ ao m cap w', OwnVals B w' (.slice ao m cap) (xs ++ [u]) → Grew w w' v (.slice ao m cap) → K (a.put o.dst (.slice ao m cap)) w') :
    if Region.wanted o (yielded ops a.tmps) = true then Oper.wp Try.prog o a w K Q else E := by
  obtain ⟨i0, hi, hz0, hz1, hz2⟩ := info_parts infoL
  refine step_one hgd s x 22 ho Try.underlying22 hi hz0 hz1 hz2 rfl v xs hown hs u hu g fr hnew hx hl (by decide) hB ?_
  intro v' w' h1 h2
  obtain ⟨ao, cap, rfl⟩ := own_form h1
  exact h ao _ cap w' h1 h2
theorem step_ints {ops : Array Oper} {o : Oper} {a : Act} {K : Act → World → Prop} {Q : Exit → Act → World → Prop} {E : Prop} {w : World} {B : Nat} (hgd : o.guard = none) (s x : Operand)
    (ho : o.op = .call { callee := .builtin .append, args := #[s, x], argTypes := #[23, 23] })
    (v : Value) (l : List Int) (hown : OwnInts B w v l) (hs : a.eval s = v) (u : Int) (g : Nat) (fr : Nat × Nat) (hnew : w.heap[g]? = some (.cells #[.int .i64 u] 3 fr)) (hx : a.eval x = .slice (some ⟨g, 0, none⟩) 1 1)
    (hl : l.length ≤ 100000) (hB : B ≤ w.heap.size)
    (h : ∀ ao m cap w', OwnInts B w' (.slice ao m cap) (l ++ [u]) → Grew w w' v (.slice ao m cap) → K (a.put o.dst (.slice ao m cap)) w') :
    if Region.wanted o (yielded ops a.tmps) = true then Oper.wp Try.prog o a w K Q else E := by
  obtain ⟨i0, hi, hz0, hz1, hz2⟩ := info_parts infoI
  refine step_one hgd s x 23 ho Try.underlying23 hi hz0 hz1 hz2 rfl v (ints l) (by simpa [OwnInts] using hown) hs (.int .i64 u) rfl g fr hnew hx (by simpa using hl) (by decide) hB ?_
  intro v' w' h1 h2
  obtain ⟨ao, cap, rfl⟩ := own_form h1
  refine h ao _ cap w' ?_ h2
  unfold OwnInts
  simpa using h1

/-- The lists that have been read so far. -/
def Lists (B : Nat) (w : World) (v : Value) (L : List (List Cl)) : Prop := ∃ vs, OwnVals B w v vs ∧ vs.length = L.length ∧ ∀ i (h : i < L.length) (h' : i < vs.length), OwnCalls B w vs[i] L[i]
theorem Lists.shows {B : Nat} {w : World} {v : Value} {L : List (List Cl)} (h : Lists B w v L) : ShowLists w v L := by
  obtain ⟨vs, h1, h2, h3⟩ := h
  refine ⟨vs, h2, ?_, fun i hi hi' => (h3 i hi hi').shows⟩
  rw [← h2]
  exact Shows.ofOwns h1
theorem Lists.nil (B : Nat) (w : World) : Lists B w (.slice none 0 0) [] := ⟨[], World.ownsRow_nil _ _ _ _, rfl, fun i h => absurd h (Nat.not_lt_zero _)⟩
theorem Lists.kept {B k : Nat} {w w' : World} {v : Value} {L : List (List Cl)} (h : Lists B w v L) (hg : w.grownBy w' (some k)) (hk : k < B) : Lists B w' v L := by
  obtain ⟨vs, h1, h2, h3⟩ := h
  exact ⟨vs, kept_grown h1 hg hk, h2, fun i hi hi' => kept_grown (h3 i hi hi') hg hk⟩
theorem ownType {w : World} {B n size n' size' : Nat} {e e' : TypeId} {v v' : Value} {xs xs' : List Value} {k : Nat} (h : w.ownsRow B e size v n xs) (h' : w.ownsRow B e' size' v' n' xs') (hv : v.ownBlock = some k) (hv' : v'.ownBlock = some k) : e = e' := by
  rcases h.2 with ⟨rfl, _⟩ | ⟨g, cap, cur, rfl, _, hg, _⟩
  · simp [Value.ownBlock] at hv
  rcases h'.2 with ⟨rfl, _⟩ | ⟨g', cap', cur', rfl, _, hg', _⟩
  · simp [Value.ownBlock] at hv'
  have e1 : g = k := by simpa [Value.ownBlock] using hv
  have e2 : g' = k := by simpa [Value.ownBlock] using hv'
  subst e1 e2
  rw [hg] at hg'
  simpa using (Obj.cells.inj (Option.some.inj hg')).2.1
/-- one list more -/
theorem Lists.snoc {B : Nat} {w w' : World} {v v' u : Value} {vs : List Value} {L : List (List Cl)} {c : List Cl} (h0 : OwnVals B w v vs) (h : OwnVals B w' v' (vs ++ [u])) (hg : w.grownBy w' v.ownBlock) (hl : vs.length = L.length)
    (hall : ∀ i (h : i < L.length) (h' : i < vs.length), OwnCalls B w vs[i] L[i]) (hu : OwnCalls B w u c) : Lists B w' v' (L ++ [c]) := by
  have keep : ∀ (x : Value) (y : List Cl), OwnCalls B w x y → OwnCalls B w' x y := by
    intro x y hx
    refine World.ownsRow.kept hx hg ?_
    by_cases hn : x.ownBlock = none
    · exact .inl hn
    · right
      intro e
      obtain ⟨k, hk⟩ : ∃ k, x.ownBlock = some k := by
        cases hb : x.ownBlock with
        | none => exact absurd hb hn
        | some k => exact ⟨k, rfl⟩
      have := ownType hx h0 hk (e.symm.trans hk)
      exact absurd this (by decide)
  refine ⟨vs ++ [u], h, by simp [hl], fun i hi hi' => ?_⟩
  by_cases hlt : i < L.length
  · rw [List.getElem_append_left (by omega), List.getElem_append_left hlt]
    exact keep _ _ (hall i hlt (by omega))
  · have e : i = L.length := by simp at hi; omega
    subst e
    rw [List.getElem_append_right (by omega), List.getElem_append_right (by omega)]
    simpa [hl] using keep _ _ hu
/-- a row of another kind grows -/
theorem kept_other {w w' : World} {B n size n' size' : Nat} {e e' : TypeId} {v v' : Value} {xs xs' : List Value} (h : w.ownsRow B e size v n xs) (h' : w.ownsRow B e' size' v' n' xs') (hne : e ≠ e') (g : w.grownBy w' v'.ownBlock) : w'.ownsRow B e size v n xs := by
  refine World.ownsRow.kept h g ?_
  by_cases hn : v.ownBlock = none
  · exact .inl hn
  · right
    intro e1
    obtain ⟨k, hk⟩ : ∃ k, v.ownBlock = some k := by
      cases hb : v.ownBlock with
      | none => exact absurd hb hn
      | some k => exact ⟨k, rfl⟩
    exact hne (ownType h h' hk (e1.symm.trans hk))
theorem Lists.other {B : Nat} {w w' : World} {v vp : Value} {L : List (List Cl)} {l : List Int} (h : Lists B w v L) (hp : OwnInts B w vp l) (g : w.grownBy w' vp.ownBlock) : Lists B w' v L := by
  obtain ⟨vs, h1, h2, h3⟩ := h
  exact ⟨vs, kept_other h1 hp (by decide) g, h2, fun i hi hi' => kept_other (h3 i hi hi') hp (by decide) g⟩
theorem Lists.set {B K : Nat} {w : World} {v : Value} {L : List (List Cl)} (h : Lists B w v L) (hK : K < B) (j : Nat) (u : Value) : Lists B (w.setCell ⟨K, j, none⟩ u) v L := h.kept (grown_setCell w K j u) hK
theorem OwnInts.set {B K : Nat} {w : World} {v : Value} {l : List Int} (h : OwnInts B w v l) (hK : K < B) (j : Nat) (u : Value) : OwnInts B (w.setCell ⟨K, j, none⟩ u) v l := kept_grown h (grown_setCell w K j u) hK

/-- What the walk of Script holds at the block of s. -/
def SelfIs (w : World) (K : Nat) (cpus pages : Int) (vc vp : Value) : Prop := w.heap[K]? = some (.cells #[.int .i64 cpus, .int .i64 pages, vc, vp] 25 (0, 0))
theorem SelfIs.set2 {w : World} {K : Nat} {cpus pages : Int} {vc vp : Value} (h : SelfIs w K cpus pages vc vp) (u : Value) : SelfIs (w.setCell ⟨K, 2, none⟩ u) K cpus pages u vp := by
  have hlt := lt_of_block h
  have h' : w.heap[K] = .cells #[.int .i64 cpus, .int .i64 pages, vc, vp] 25 (0, 0) := by simpa [SelfIs, Array.getElem?_eq_getElem hlt] using h
  show (w.heap.modify K _)[K]? = _
  rw [Array.getElem?_eq_getElem (by simpa using hlt), Array.getElem_modify_self, h']
  rfl
theorem SelfIs.set3 {w : World} {K : Nat} {cpus pages : Int} {vc vp : Value} (h : SelfIs w K cpus pages vc vp) (u : Value) : SelfIs (w.setCell ⟨K, 3, none⟩ u) K cpus pages vc u := by
  have hlt := lt_of_block h
  have h' : w.heap[K] = .cells #[.int .i64 cpus, .int .i64 pages, vc, vp] 25 (0, 0) := by simpa [SelfIs, Array.getElem?_eq_getElem hlt] using h
  show (w.heap.modify K _)[K]? = _
  rw [Array.getElem?_eq_getElem (by simpa using hlt), Array.getElem_modify_self, h']
  rfl
theorem SelfIs.grown {w w' : World} {K k : Nat} {cpus pages : Int} {vc vp : Value} (h : SelfIs w K cpus pages vc vp) (g : w.grownBy w' (some k)) (hne : K ≠ k) : SelfIs w' K cpus pages vc vp :=
  (g.block K (lt_of_block h) (fun e => by cases e; exact hne rfl)).trans h
theorem SelfIs.grew {w w' : World} {K : Nat} {cpus pages : Int} {vc vp v v' : Value} (h : SelfIs w K cpus pages vc vp) (g : Grew w w' v v') (hne : v.ownBlock ≠ some K) : SelfIs w' K cpus pages vc vp :=
  (g.grow.block K (lt_of_block h) (Ne.symm hne)).trans h
theorem OwnCalls_one {B : Nat} {w : World} {v : Value} {l : List Cl} (h : OwnCalls B w v l) : v.oneCell' = true := by
  rcases h.2 with ⟨rfl, _⟩ | ⟨g, cap, cur, rfl, _⟩ <;> rfl
theorem OwnCalls.mono {B B' : Nat} {w : World} {v : Value} {l : List Cl} (h : OwnCalls B w v l) (hB : B' ≤ B) : OwnCalls B' w v l := by
  refine ⟨h.1, ?_⟩
  rcases h.2 with h2 | ⟨g, cap, cur, h1, h2, h3⟩
  · exact .inl h2
  · exact .inr ⟨g, cap, cur, h1, Nat.le_trans hB h2, h3⟩
theorem OwnInts.mono {B B' : Nat} {w : World} {v : Value} {l : List Int} (h : OwnInts B w v l) (hB : B' ≤ B) : OwnInts B' w v l := by
  refine ⟨h.1, ?_⟩
  rcases h.2 with h2 | ⟨g, cap, cur, h1, h2, h3⟩
  · exact .inl h2
  · exact .inr ⟨g, cap, cur, h1, Nat.le_trans hB h2, h3⟩
end Go.Proofs.Ytifkkblmcdggmaa
