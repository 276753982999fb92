/-
  The document's own Copy: a script in memory of its own.
-/
import Derived.Test.YtifkkblmcdggmaaRScript
import Derived.Test.YtifkkblmcdggmaaSmall
set_option linter.unusedVariables false
set_option linter.unusedSimpArgs false
namespace Go.Proofs.Ytifkkblmcdggmaa
open Go Go.RowKit

theorem key4c {W0 w : World} {K : Nat} {a b c d : Value} (h : W0.cell? ⟨K, 0, none⟩ = some a ∧ W0.cell? ⟨K, 1, none⟩ = some b ∧ W0.cell? ⟨K, 2, none⟩ = some c ∧ W0.cell? ⟨K, 3, none⟩ = some d) (hb : Below W0.heap.size W0 w) :
    w.cell? ⟨K, 0, none⟩ = some a ∧ w.cell? ⟨K, 1, none⟩ = some b ∧ w.cell? ⟨K, 2, none⟩ = some c ∧ w.cell? ⟨K, 3, none⟩ = some d ∧ Below W0.heap.size W0 w :=
  ⟨(hb.cell (World.block_lt_of_cell? W0 _ h.1)).trans h.1, (hb.cell (World.block_lt_of_cell? W0 _ h.2.1)).trans h.2.1, (hb.cell (World.block_lt_of_cell? W0 _ h.2.2.1)).trans h.2.2.1, (hb.cell (World.block_lt_of_cell? W0 _ h.2.2.2)).trans h.2.2.2, hb⟩
theorem cCopyIntsF (u : Value) (a : List Int) (w : World) (hu : ShowInts w u a) (hl : a.length * 8 ≤ 140737488355328) :
    Calls Try.prog 21 #[u] w fun e w' => ∃ ao n cap, e = .returned (.slice ao n cap) ∧ OwnInts w.heap.size w' (.slice ao n cap) a ∧ Below w.heap.size w w' := by
  refine (cCopyInts u a w hu hl).mono ?_
  rintro e w' ⟨v, rfl, h1, h2⟩
  obtain ⟨ao, cap, rfl⟩ := own_form h1
  exact ⟨ao, _, cap, rfl, h1, h2⟩
theorem heap_newd (w : World) (o : Obj) : (w.alloc o).drew.heap[w.heap.size]? = some o := heap_new w o
theorem below_newd {w w' : World} {o : Obj} (h : Below (w.alloc o).drew.heap.size (w.alloc o).drew w') : w'.heap[w.heap.size]? = some o := (h.block w.heap.size (by show w.heap.size < (w.alloc o).heap.size; rw [size_alloc]; omega)).trans (heap_newd w o)
theorem step_oneB {P : Program} {B e bs : Nat} {i : TypeInfo} {z : Value} {ops : Array Oper} {o : Oper} {a : Act} {K : Act → World → Prop} {Q : Exit → Act → World → Prop} {E : Prop} {w : World} (hgd : o.guard = none) (s x : Operand) (t : TypeId)
    (ho : o.op = .call { callee := .builtin .append, args := #[s, x], argTypes := #[t, t] })
    (ht : P.underlying t = some (.slice e)) (hi : P.info? e = some i) (hz : i.zero = some z) (hsize : i.size = 1) (hby : i.bytes = bs) (hzs : z.cells.size = 1)
    (v : Value) (xs : List Value) (hown : w.ownsRow B e 1 v xs.length xs) (hs : a.eval s = v) (u : Value) (hu : u.oneCell' = true) (g : Nat) (fr : Nat × Nat) (hnew : w.heap[g]? = some (.cells #[u] e fr)) (hx : a.eval x = .slice (some ⟨g, 0, none⟩) 1 1)
    (hbytes : (xs.length + 1) * bs ≤ 140737488355328) (hb : 0 < bs) (hB : B ≤ w.heap.size)
    (h : ∀ v' w', w'.ownsRow B e 1 v' (xs ++ [u]).length (xs ++ [u]) → Grew w w' v v' → K (a.put o.dst v') w') :
    if Region.wanted o (yielded ops a.tmps) = true then Oper.wp P o a w K Q else E := by
  have hlen : xs.length + 1 ≤ 140737488355328 := Nat.le_trans (Nat.le_mul_of_pos_right _ hb) hbytes
  refine step_append_lies w hgd s x t ho B e i z 1 bs ht hi hz hsize hby hzs (by decide) v xs.length xs hs hown ⟨g, 0, none⟩ 1 1 [u] hx (by simp)
    (World.news_of_block hnew) (by intro y hy; simp at hy; subst hy; exact hu) (by decide) (by unfold maxLen; omega) hbytes hB _ rfl ?_
  intro g' cap w' hown' hgrow hat hlt
  refine h _ w' ?_ ⟨hgrow, fun k hk => ?_⟩
  · simpa using hown'
  · have e : g' = k := by simpa [Value.ownBlock] using hk
    subst e
    rcases hat with h1 | h1
    · exact .inl h1
    · exact .inr (by omega)
theorem step_valsB {ops : Array Oper} {o : Oper} {a : Act} {K : Act → World → Prop} {Q : Exit → Act → World → Prop} {E : Prop} {w : World} {B : Nat} (hgd : o.guard = none) (s x : Operand)
    (ho : o.op = .call { callee := .builtin .append, args := #[s, x], argTypes := #[22, 22] })
    (v : Value) (xs : List Value) (hown : OwnVals B w v xs) (hs : a.eval s = v) (u : Value) (hu : u.oneCell' = true) (g : Nat) (fr : Nat × Nat) (hnew : w.heap[g]? = some (.cells #[u] 42 fr)) (hx : a.eval x = .slice (some ⟨g, 0, none⟩) 1 1)
    (hl : (xs.length + 1) * 24 ≤ 140737488355328) (hB : B ≤ w.heap.size)
    (h : ∀ ao m cap w', OwnVals B w' (.slice ao m cap) (xs ++ [u]) → Grew w w' v (.slice ao m cap) → K (a.put o.dst (.slice ao m cap)) w') :
    if Region.wanted o (yielded ops a.tmps) = true then Oper.wp Try.prog o a w K Q else E := by
  obtain ⟨i0, hi, hz0, hz1, hz2⟩ := info_parts infoL
  refine step_oneB hgd s x 22 ho Try.underlying22 hi hz0 hz1 hz2 rfl v xs hown hs u hu g fr hnew hx hl (by decide) hB ?_
  intro v' w' h1 h2
  obtain ⟨ao, cap, rfl⟩ := own_form h1
  exact h ao _ cap w' h1 h2

theorem run_copy_calls {w : World} {u : Value} {l : List Cl} (hu : ShowCalls w u l) (hl : l.length * 32 ≤ 140737488355328) (ty : TypeId) :
    ∃ ao m cap w', (Builtin.append_ #[42, 42] ty #[.slice none 0 0, u]).run Try.prog w = .ok (.slice ao m cap) w' ∧ OwnCalls w.heap.size w' (.slice ao m cap) l ∧ Below w.heap.size w w' := by
  obtain ⟨i0, hi, hz0, hz1, hz2⟩ := info_parts infoC
  obtain ⟨ao, cap, rfl, hcap, hat⟩ := hu.form
  cases ao with
  | none =>
    have h0 : l = [] := by
      cases l with
      | nil => rfl
      | cons x l => obtain ⟨b, o, e, _⟩ := hat 0 (by simp); cases e
    subst h0
    refine ⟨none, 0, 0, w, ?_, World.ownsRow_nil _ _ _ _, Below.refl _ _⟩
    simp [Builtin.append_, run_underlying Try.underlying42, sizeOf, typeInfo, hi, Builtin.lenOf, Builtin.firstCells]
  | some ad =>
    have hnews : ∀ j v, (calls l)[j]? = some v → w.cell? (ad.add j) = some v := by
      intro j v hj
      have hlt : j < l.length * 4 := by
        have := (List.getElem?_eq_some_iff.1 hj).1
        rwa [calls_length] at this
      obtain ⟨b, o, e, c0, c1, c2, c3⟩ := hat (j / 4) (by omega)
      obtain rfl := Option.some.inj e
      have hq : j = j / 4 * 4 + j % 4 := by omega
      have h2 := calls_at l (j / 4) (j % 4) (by omega) (by omega)
      rw [← hq, hj] at h2
      have ha : (⟨b, o, none⟩ : Addr).add j = ⟨b, o + j / 4 * 4 + j % 4, none⟩ := by
        rw [Nat.add_assoc, ← hq]
        by_cases hj0 : j = 0
        · subst hj0; rfl
        · simp [Addr.add, hj0]
      rw [ha, h2]
      have h4 : j % 4 = 0 ∨ j % 4 = 1 ∨ j % 4 = 2 ∨ j % 4 = 3 := by omega
      rcases h4 with h | h | h | h
      · simp only [h, Cl.cells, List.getElem_cons_zero, Nat.add_zero]; exact c0
      · simp only [h, Cl.cells]; exact c1
      · simp only [h, Cl.cells]; exact c2
      · simp only [h, Cl.cells]; exact c3
    have hone : ∀ u ∈ calls l, u.oneCell' = true := by
      intro u hu
      obtain ⟨c, _, hc⟩ := List.mem_flatMap.1 hu
      simp only [Cl.cells, List.mem_cons, List.mem_nil_iff, or_false] at hc
      rcases hc with rfl | rfl | rfl | rfl <;> rfl
    obtain ⟨v', w', hr, hown, hg, _, _⟩ := run_append_own_at (P := Try.prog) w w.heap.size 42 ty 44 i0 _ 4 32 Try.underlying42 hi hz0 hz1 hz2 rfl (by decide) (.slice none 0 0) 0 [] (World.ownsRow_nil _ _ _ _) ad l.length cap (calls l) (calls_length l) hnews hone (by unfold maxLen; omega) (by omega) (Nat.le_refl _)
    have hown' : OwnCalls w.heap.size w' v' l := by
      unfold OwnCalls
      simpa using hown
    obtain ⟨a', c', rfl⟩ := own_form hown'
    exact ⟨a', _, c', w', hr, hown', (Below.refl _ w).grown hg (Nat.le_refl _) (fun k hk => by simp [Value.ownBlock] at hk)⟩
theorem step_copy {ops : Array Oper} {o : Oper} {a : Act} {K : Act → World → Prop} {Q : Exit → Act → World → Prop} {E : Prop} {w : World} (hgd : o.guard = none) (s x : Operand)
    (ho : o.op = .call { callee := .builtin .append, args := #[s, x], argTypes := #[42, 42] })
    (hs : a.eval s = .slice none 0 0) (u : Value) (l : List Cl) (hu : ShowCalls w u l) (hx : a.eval x = u) (hl : l.length * 32 ≤ 140737488355328)
    (h : ∀ ao m cap w', OwnCalls w.heap.size w' (.slice ao m cap) l → Below w.heap.size w w' → K (a.put o.dst (.slice ao m cap)) w') :
    if Region.wanted o (yielded ops a.tmps) = true then Oper.wp Try.prog o a w K Q else E := by
  have hw : Region.wanted o (yielded ops a.tmps) = true := by simp [Region.wanted, hgd]
  rw [if_pos hw]
  obtain ⟨ao, m, cap, w', hr, h1, h2⟩ := run_copy_calls hu hl o.type
  unfold Oper.wp execOp
  simp only [ho, resolve, invoke, builtin, Sem.run_bind, Sem.run_pure, Result.andThen_ok, List.map_toArray, List.map_cons, List.map_nil, hs, hx, hr]
  exact h _ _ _ _ h1 h2
end Go.Proofs.Ytifkkblmcdggmaa
