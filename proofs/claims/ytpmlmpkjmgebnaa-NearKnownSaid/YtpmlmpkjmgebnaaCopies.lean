/-
  copyOf, CopyInts: a list in memory of its own.
-/
import Derived.Test.YtpmlmpkjmgebnaaNear
set_option linter.unusedVariables false
set_option linter.unusedSimpArgs false
namespace Go.Proofs.Ytpmlmpkjmgebnaa
open Go Go.RowKit

theorem nms_one (l : List Int) : ∀ u ∈ nms l, u.oneCell' = true := by
  intro u hu
  obtain ⟨x, _, rfl⟩ := List.mem_map.1 hu
  rfl
theorem run_copyI {w : World} {u : Value} {l : List Int} (hu : ShowI w u l) (hl : l.length ≤ 1000) (ty : TypeId) :
    ∃ ao cap w', (Builtin.append_ #[33, 33] ty #[.slice none 0 0, u]).run Try.prog w = .ok (.slice ao l.length cap) w' ∧ w'.ownsRow w.heap.size 3 1 (.slice ao l.length cap) l.length (nms l) ∧ Below w.heap.size w w' := by
  obtain ⟨i0, hi, hz0, hz1, hz2⟩ := info_parts infoI
  obtain ⟨ao, cap, rfl, hcap, hat⟩ := hu.form
  cases ao with
  | none =>
    have h0 : l = [] := by
      cases l with
      | nil => rfl
      | cons x l => obtain ⟨b, o, e, _⟩ := hat 0 (by simp); cases e
    subst h0
    refine ⟨none, 0, w, ?_, World.ownsRow_nil _ _ _ _, Below.refl _ _⟩
    simp [Builtin.append_, run_underlying Try.underlying33, sizeOf, typeInfo, hi, Builtin.lenOf, Builtin.firstCells]
  | some ad =>
    have hnews : ∀ j v, (nms l)[j]? = some v → w.cell? (ad.add j) = some v := by
      intro j v hj
      have hlt : j < l.length := by
        have := (List.getElem?_eq_some_iff.1 hj).1
        simpa using this
      obtain ⟨b, o, e, c0⟩ := hat j hlt
      obtain rfl := Option.some.inj e
      rw [plain_add, c0, ← hj, nms_at hlt]
    obtain ⟨v', w', hr, hown, hg, _, _⟩ := run_append_own_at (P := Try.prog) w w.heap.size 33 ty 3 i0 _ 1 8 Try.underlying33 hi hz0 hz1 hz2 rfl (by decide) (.slice none 0 0) 0 [] (World.ownsRow_nil _ _ _ _) ad l.length cap (nms l) (by simp) hnews (nms_one l) (by unfold maxLen; omega) (by omega) (Nat.le_refl _)
    have hown' : w'.ownsRow w.heap.size 3 1 v' l.length (nms l) := by simpa using hown
    obtain ⟨a', c', rfl, _⟩ := own_shape hown'
    exact ⟨a', c', w', hr, hown', (Below.refl _ w).grown hg (Nat.le_refl _) (fun k hk => by simp [Value.ownBlock] at hk)⟩
theorem wpList_copyI {ops : Array Oper} {rest : List Oper} {o : Oper} {a : Act} {Q : Exit → Act → World → Prop} {w : World} (hgd : o.guard = none) (s x : Operand)
    (ho : o.op = .call { callee := .builtin .append, args := #[s, x], argTypes := #[33, 33] })
    (hs : a.eval s = .slice none 0 0) (u : Value) (l : List Int) (hu : ShowI w u l) (hx : a.eval x = u) (hl : l.length ≤ 1000)
    (h : ∀ ao cap w', w'.ownsRow w.heap.size 3 1 (.slice ao l.length cap) l.length (nms l) → Below w.heap.size w w' → wpList Try.prog ops Q rest (a.put o.dst (.slice ao l.length cap)) w') :
    wpList Try.prog ops Q (o :: rest) a w := by
  refine wpList_plain hgd fun K hK => ?_
  obtain ⟨ao, cap, w', hr, h1, h2⟩ := run_copyI hu hl o.type
  unfold Oper.wp execOp
  simp only [ho, resolve, invoke, builtin, Sem.run_bind, Sem.run_pure, Result.andThen_ok, List.map_toArray, List.map_cons, List.map_nil, hs, hx, hr]
  exact hK _ _ (h _ _ _ h1 h2)
/-- a copy of one's own -/
def CopyIs (w : World) (l : List Int) (e : Ending) (w' : World) : Prop := ∃ ao cap, e = .returned (.slice ao l.length cap) ∧ w'.ownsRow w.heap.size 3 1 (.slice ao l.length cap) l.length (nms l) ∧ Below w.heap.size w w'
set_option maxHeartbeats 1000000 in
theorem cCopyOf (u : Value) (l : List Int) (w : World) (hu : ShowI w u l) (hl : l.length ≤ 1000) : Calls Try.prog 24 #[u] w (CopyIs w l) := by
  go_enter Try.func24, Try.ntmps24
  go_wp2_with (at_builtin; refine wpList_copyI (by rfl) _ _ (by rfl) (by rfl) u l hu (by rfl) hl ?_)
  intro ao cap w' hown hb
  go_wp2
  go_ret
  exact ⟨_, _, rfl, hown, hb⟩
set_option maxHeartbeats 1000000 in
theorem cCopyInts (u : Value) (l : List Int) (w : World) (hu : ShowI w u l) (hl : l.length ≤ 1000) : Calls Try.prog 26 #[u] w (CopyIs w l) := by
  go_enter Try.func26, Try.ntmps26
  go_wp2_with (at_builtin; refine wpList_copyI (by rfl) _ _ (by rfl) (by rfl) u l hu (by rfl) hl ?_)
  intro ao cap w' hown hb
  go_wp2
  go_ret
  exact ⟨_, _, rfl, hown, hb⟩
end Go.Proofs.Ytpmlmpkjmgebnaa
