/-
  Records in memory of one's own: append; Copy, queue.
-/
import Derived.Test.YtnnpclknlccmiaaCheck

set_option linter.unusedVariables false
set_option linter.unusedSimpArgs false
namespace Go.Proofs.Ytnnpclknlccmiaa
open Go Go.RowKit

theorem wts_one (l : List Wt) : ∀ u ∈ wts l, u.oneCell' = true := by
  intro u hu
  obtain ⟨c, _, hc⟩ := List.mem_flatMap.1 hu
  simp only [Wt.cells, List.mem_cons, List.mem_nil_iff, or_false] at hc
  rcases hc with rfl | rfl <;> rfl
theorem wts_append (a b : List Wt) : wts (a ++ b) = wts a ++ wts b := by simp [wts]
/-- a row of one's own -/
abbrev OwnW (B : Nat) (w : World) (v : Value) (l : List Wt) : Prop := w.ownsRow B 82 2 v l.length (wts l)
theorem OwnW.shows {B : Nat} {w : World} {v : Value} {l : List Wt} (h : OwnW B w v l) : ShowW w v l := Shows.ofOwns h
theorem OwnW.nil (B : Nat) (w : World) : OwnW B w (.slice none 0 0) [] := World.ownsRow_nil _ _ _ _
theorem OwnW.below {B : Nat} {w w' : World} {v : Value} {l : List Wt} (h : OwnW B w v l) (hb : Below w.heap.size w w') : OwnW B w' v l := own_below h hb
theorem OwnW.le {B B' : Nat} {w : World} {v : Value} {l : List Wt} (h : OwnW B w v l) (hB : B' ≤ B) : OwnW B' w v l := by
  refine ⟨h.1, ?_⟩
  rcases h.2 with h | ⟨g, cap, cur, e, hb, hr⟩
  · exact .inl h
  · exact .inr ⟨g, cap, cur, e, Nat.le_trans hB hb, hr⟩
theorem run_appendW {w : World} {B : Nat} {v u : Value} {l b : List Wt} (hown : OwnW B w v l) (hu : ShowW w u b) (hl : l.length + b.length ≤ 1000) (hB : B ≤ w.heap.size) (ty : TypeId) :
    ∃ ao cap w', (Builtin.append_ #[76, 76] ty #[v, u]).run Try.prog w = .ok (.slice ao (l ++ b).length cap) w' ∧ OwnW B w' (.slice ao (l ++ b).length cap) (l ++ b) ∧ Below B w w' := by
  obtain ⟨i0, hi, hz0, hz1, hz2⟩ := info_parts infoW
  obtain ⟨ao, cap, rfl, hcap, hat⟩ := hu.form
  cases ao with
  | none =>
    have h0 : b = [] := by
      cases b with
      | nil => rfl
      | cons x l => obtain ⟨b, o, e, _⟩ := hat 0 (by simp); cases e
    subst h0
    obtain ⟨va, vc, rfl, hv1, hv2⟩ := own_shape hown
    rw [List.append_nil]
    refine ⟨va, vc, w, ?_, hown, Below.refl _ _⟩
    simp [Builtin.append_, run_underlying Try.underlying76, sizeOf, typeInfo, hi, Builtin.lenOf, Builtin.firstCells, hv1]
    cases va <;> simp [storeCells, List.forM_nil]
  | some ad =>
    have hnews : ∀ j v, (wts b)[j]? = some v → w.cell? (ad.add j) = some v := by
      intro j v hj
      have hlt := (List.getElem?_eq_some_iff.1 hj).1
      rw [wts_length] at hlt
      obtain ⟨b1, o, e, c0, c1⟩ := hat (j / 2) (by omega)
      obtain rfl := Option.some.inj e
      have hq : j = j / 2 * 2 + j % 2 := by omega
      have h2 := wts_at b (j / 2) (j % 2) (by omega) (by omega)
      rw [← hq, hj] at h2
      rw [plain_add, hq, h2, ← Nat.add_assoc]
      have h4 : j % 2 = 0 ∨ j % 2 = 1 := by omega
      rcases h4 with h | h
      · simp only [h, Wt.cells, List.getElem_cons_zero, Nat.add_zero, wt_at b (j / 2) (by omega)]; exact c0
      · simp only [h, Wt.cells, List.getElem_cons_succ, List.getElem_cons_zero, wt_at b (j / 2) (by omega)]; exact c1
    obtain ⟨v', w', hr, hown', hg, _, _⟩ := run_append_own_at (P := Try.prog) w B 76 ty 82 i0 _ 2 16 Try.underlying76 hi hz0 hz1 hz2 rfl (by decide) v l.length (wts l) hown ad b.length cap (wts b) (wts_length b) hnews (wts_one b) (by unfold maxLen; omega) (by omega) hB
    have hown2 : OwnW B w' v' (l ++ b) := by
      unfold OwnW
      rw [wts_append, List.length_append]
      exact hown'
    obtain ⟨a', c', rfl, _⟩ := own_shape hown2
    exact ⟨a', c', w', hr, hown2, (Below.refl _ w).grown hg hB (own_ge hown)⟩
theorem wpList_appendW {ops : Array Oper} {rest : List Oper} {o : Oper} {a : Act} {Q : Exit → Act → World → Prop} {w : World} (hgd : o.guard = none) (s x : Operand)
    (ho : o.op = .call { callee := .builtin .append, args := #[s, x], argTypes := #[76, 76] })
    (B : Nat) (v u : Value) (l b : List Wt) (hs : a.eval s = v) (hx : a.eval x = u) (hown : OwnW B w v l) (hu : ShowW w u b) (hl : l.length + b.length ≤ 1000) (hB : B ≤ w.heap.size)
    (h : ∀ ao cap w', OwnW B w' (.slice ao (l ++ b).length cap) (l ++ b) → Below B w w' → wpList Try.prog ops Q rest (a.put o.dst (.slice ao (l ++ b).length cap)) w') :
    wpList Try.prog ops Q (o :: rest) a w := by
  refine wpList_plain hgd fun K hK => ?_
  obtain ⟨ao, cap, w', hr, h1, h2⟩ := run_appendW hown hu hl hB o.type
  unfold Oper.wp execOp
  simp only [ho, resolve, invoke, builtin, Sem.run_bind, Sem.run_pure, Result.andThen_ok, List.map_toArray, List.map_cons, List.map_nil, hs, hx, hr]
  exact hK _ _ (h _ _ _ h1 h2)
theorem step_appendW {ops : Array Oper} {o : Oper} {a : Act} {K : Act → World → Prop} {Q : Exit → Act → World → Prop} {E : Prop} {w : World} (hgd : o.guard = none) (s x : Operand)
    (ho : o.op = .call { callee := .builtin .append, args := #[s, x], argTypes := #[76, 76] })
    (B : Nat) (v u : Value) (l b : List Wt) (hs : a.eval s = v) (hx : a.eval x = u) (hown : OwnW B w v l) (hu : ShowW w u b) (hl : l.length + b.length ≤ 1000) (hB : B ≤ w.heap.size)
    (h : ∀ ao cap w', OwnW B w' (.slice ao (l ++ b).length cap) (l ++ b) → Below B w w' → K (a.put o.dst (.slice ao (l ++ b).length cap)) w') :
    if Region.wanted o (yielded ops a.tmps) = true then Oper.wp Try.prog o a w K Q else E := by
  have hw : Region.wanted o (yielded ops a.tmps) = true := by simp [Region.wanted, hgd]
  rw [if_pos hw]
  obtain ⟨ao, cap, w', hr, h1, h2⟩ := run_appendW hown hu hl hB o.type
  unfold Oper.wp execOp
  simp only [ho, resolve, invoke, builtin, Sem.run_bind, Sem.run_pure, Result.andThen_ok, List.map_toArray, List.map_cons, List.map_nil, hs, hx, hr]
  exact h _ _ _ h1 h2
/-- records of one's own are answered -/
def GivesW (w : World) (l : List Wt) (e : Ending) (w' : World) : Prop := ∃ ao cap, e = .returned (.slice ao l.length cap) ∧ OwnW w.heap.size w' (.slice ao l.length cap) l ∧ Below w.heap.size w w'
set_option maxHeartbeats 1000000 in
theorem rCopy (u : Value) (l : List Wt) (w : World) (hu : ShowW w u l) (hl : l.length ≤ 1000) : Calls Try.prog 55 #[u] w (GivesW w l) := by
  go_enter Try.func55, Try.ntmps55
  go_wp2_with (at_builtin; refine wpList_appendW (by rfl) _ _ (by rfl) w.heap.size _ u [] l (by rfl) (by rfl) (OwnW.nil _ _) hu (by simpa using hl) (Nat.le_refl _) ?_)
  intro ao cap w' hown hb
  go_wp2
  go_ret
  exact ⟨_, _, rfl, hown, hb⟩
set_option maxHeartbeats 1000000 in
theorem cQueue (u v : Value) (l b : List Wt) (w : World) (hu : ShowW w u l) (hv : ShowW w v b) (hl : l.length + b.length ≤ 1000) : Calls Try.prog 53 #[u, v] w (GivesW w (l ++ b)) := by
  go_enter Try.func53, Try.ntmps53
  go_wp2_with (at_builtin; refine wpList_appendW (by rfl) _ _ (by rfl) w.heap.size _ u [] l (by rfl) (by rfl) (OwnW.nil _ _) hu (by simp; omega) (Nat.le_refl _) ?_)
  intro ao cap w1 hown1 hb1
  go_wp2_with (at_builtin; refine wpList_appendW (by rfl) _ _ (by rfl) w.heap.size _ v l b (by rfl) (by rfl) hown1 (hv.below hb1) hl hb1.size ?_)
  intro ao2 cap2 w2 hown2 hb2
  go_wp2
  go_ret
  exact ⟨ao2, cap2, by rw [List.length_append]; rfl, by rwa [← List.length_append] at hown2, hb1.trans hb2⟩
end Go.Proofs.Ytnnpclknlccmiaa
