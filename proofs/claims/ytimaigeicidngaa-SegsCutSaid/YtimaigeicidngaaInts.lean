/-
  Numbers in memory of one's own: append; the end of a list of records.
-/
import Derived.Test.YtimaigeicidngaaAdd
set_option linter.unusedVariables false
set_option linter.unusedSimpArgs false
namespace Go.Proofs.Ytimaigeicidngaa
open Go Go.RowKit

theorem nms_one (l : List Int) : ∀ u ∈ nms l, u.oneCell' = true := by
  intro u hu
  obtain ⟨x, _, rfl⟩ := List.mem_map.1 hu
  rfl
theorem nms_at {l : List Int} {i : Nat} (h : i < l.length) : (nms l)[i]? = some (.int .i64 (pk l i)) := by
  rw [← pk_at l i h]
  simp [h]
theorem nms_append (a b : List Int) : nms (a ++ b) = nms a ++ nms b := by simp
/-- a row of one's own -/
abbrev OwnI (B : Nat) (w : World) (v : Value) (l : List Int) : Prop := w.ownsRow B 3 1 v l.length (nms l)
theorem OwnI.shows {B : Nat} {w : World} {v : Value} {l : List Int} (h : OwnI B w v l) : ShowI w v l := own_i h
theorem OwnI.nil (B : Nat) (w : World) : OwnI B w (.slice none 0 0) [] := World.ownsRow_nil _ _ _ _
theorem OwnI.below {B : Nat} {w w' : World} {v : Value} {l : List Int} (h : OwnI B w v l) (hb : Below w.heap.size w w') : OwnI B w' v l := own_below h hb
theorem OwnI.le {B B' : Nat} {w : World} {v : Value} {l : List Int} (h : OwnI B w v l) (hB : B' ≤ B) : OwnI B' w v l := by
  refine ⟨h.1, ?_⟩
  rcases h.2 with h | ⟨g, cap, cur, e, hb, hr⟩
  · exact .inl h
  · exact .inr ⟨g, cap, cur, e, Nat.le_trans hB hb, hr⟩
theorem run_appendI {w : World} {B : Nat} {v u : Value} {l b : List Int} (hown : OwnI B w v l) (hu : ShowI w u b) (hl : l.length + b.length ≤ 1000) (hB : B ≤ w.heap.size) (ty : TypeId) :
    ∃ ao cap w', (Builtin.append_ #[34, 34] ty #[v, u]).run Try.prog w = .ok (.slice ao (l ++ b).length cap) w' ∧ OwnI B w' (.slice ao (l ++ b).length cap) (l ++ b) ∧ Below B w w' ∧ w.grownBy w' v.ownBlock := by
  obtain ⟨i0, hi, hz0, hz1, hz2⟩ := info_parts infoI
  obtain ⟨ao, cap, rfl, hcap, hat⟩ := hu.form
  cases ao with
  | none =>
    have h0 : b = [] := by
      cases b with
      | nil => rfl
      | cons x l => obtain ⟨b, o, e, _⟩ := hat 0 (by simp); cases e
    subst h0
    obtain ⟨va, vc, rfl, hv1, hv2⟩ := own_shape hown
    rw [List.append_nil]
    refine ⟨va, vc, w, ?_, hown, Below.refl _ _, grown_of_below (B := 0) (Below.refl _ _) (Nat.le_refl _)⟩
    simp [Builtin.append_, run_underlying Try.underlying34, sizeOf, typeInfo, hi, Builtin.lenOf, Builtin.firstCells, hv1]
    cases va <;> simp [storeCells, List.forM_nil]
  | some ad =>
    have hnews : ∀ j v, (nms b)[j]? = some v → w.cell? (ad.add j) = some v := by
      intro j v hj
      have hlt : j < b.length := by
        have := (List.getElem?_eq_some_iff.1 hj).1
        simpa using this
      obtain ⟨b1, o, e, c0⟩ := hat j hlt
      obtain rfl := Option.some.inj e
      rw [plain_add, c0, ← hj, nms_at hlt]
    obtain ⟨v', w', hr, hown', hg, _, _⟩ := run_append_own_at (P := Try.prog) w B 34 ty 3 i0 _ 1 8 Try.underlying34 hi hz0 hz1 hz2 rfl (by decide) v l.length (nms l) hown ad b.length cap (nms b) (by simp) hnews (nms_one b) (by unfold maxLen; omega) (by omega) hB
    have hown2 : OwnI B w' v' (l ++ b) := by
      unfold OwnI
      rw [nms_append, List.length_append]
      exact hown'
    obtain ⟨a', c', rfl, _⟩ := own_shape hown2
    exact ⟨a', c', w', hr, hown2, (Below.refl _ w).grown hg hB (own_ge hown), hg⟩
theorem wpList_appendI {ops : Array Oper} {rest : List Oper} {o : Oper} {a : Act} {Q : Exit → Act → World → Prop} {w : World} (hgd : o.guard = none) (s x : Operand)
    (ho : o.op = .call { callee := .builtin .append, args := #[s, x], argTypes := #[34, 34] })
    (B : Nat) (v u : Value) (l b : List Int) (n : Nat) (hs : a.eval s = v) (hx : a.eval x = u) (hown : OwnI B w v l) (hu : ShowI w u b) (hl : l.length + b.length ≤ 1000) (hB : B ≤ w.heap.size) (hn : (l ++ b).length = n)
    (h : ∀ ao cap w', OwnI B w' (.slice ao n cap) (l ++ b) → Below B w w' → wpList Try.prog ops Q rest (a.put o.dst (.slice ao n cap)) w') :
    wpList Try.prog ops Q (o :: rest) a w := by
  subst hn
  refine wpList_plain hgd fun K hK => ?_
  obtain ⟨ao, cap, w', hr, h1, h2, h3⟩ := run_appendI hown hu hl hB o.type
  unfold Oper.wp execOp
  simp only [ho, resolve, invoke, builtin, Sem.run_bind, Sem.run_pure, Result.andThen_ok, List.map_toArray, List.map_cons, List.map_nil, hs, hx, hr]
  exact hK _ _ (h _ _ _ h1 h2)
theorem wpList_appendI2 {ops : Array Oper} {rest : List Oper} {o : Oper} {a : Act} {Q : Exit → Act → World → Prop} {w : World} (hgd : o.guard = none) (s x : Operand)
    (ho : o.op = .call { callee := .builtin .append, args := #[s, x], argTypes := #[34, 34] })
    (B : Nat) (v u : Value) (l b : List Int) (n : Nat) (hs : a.eval s = v) (hx : a.eval x = u) (hown : OwnI B w v l) (hu : ShowI w u b) (hl : l.length + b.length ≤ 1000) (hB : B ≤ w.heap.size) (hn : (l ++ b).length = n)
    (h : ∀ ao cap w', OwnI B w' (.slice ao n cap) (l ++ b) → Below B w w' → w.grownBy w' v.ownBlock → wpList Try.prog ops Q rest (a.put o.dst (.slice ao n cap)) w') :
    wpList Try.prog ops Q (o :: rest) a w := by
  subst hn
  refine wpList_plain hgd fun K hK => ?_
  obtain ⟨ao, cap, w', hr, h1, h2, h3⟩ := run_appendI hown hu hl hB o.type
  unfold Oper.wp execOp
  simp only [ho, resolve, invoke, builtin, Sem.run_bind, Sem.run_pure, Result.andThen_ok, List.map_toArray, List.map_cons, List.map_nil, hs, hx, hr]
  exact hK _ _ (h _ _ _ h1 h2 h3)
/-- another row stays, when one of one's own is appended to -/
theorem other_stays {w w' : World} {B n k : Nat} {t : TypeId} {v u : Value} {xs : List Value} (h : w.ownsRow B t k v n xs) (hg : w.grownBy w' u.ownBlock) (hu : ∀ j, u.ownBlock = some j → j < B) : w'.ownsRow B t k v n xs := by
  refine h.kept hg ?_
  cases hv : v.ownBlock with
  | none => exact .inl rfl
  | some j =>
    refine .inr (fun e => ?_)
    have h1 := own_ge h j hv
    have h2 := hu j e.symm
    omega
theorem own_lt {w : World} {B n k : Nat} {t : TypeId} {v : Value} {xs : List Value} (h : w.ownsRow B t k v n xs) : ∀ j, v.ownBlock = some j → j < w.heap.size := fun j e => (World.ownsRow.lt h j e).2
/-- all behind the first k -/
theorem ShowW.rest {w : World} {b o cap k : Nat} {l : List Wt} (h : ShowW w (.slice (some ⟨b, o, none⟩) l.length cap) l) (hk : k ≤ l.length) (m c : Nat) (hm : m = l.length - k) (hc : c = cap - k) :
    ShowW w (.slice (some ⟨b, o + k * 2, none⟩) m c) (l.drop k) := by
  subst hm hc
  unfold ShowW
  rw [List.length_drop, wts_drop]
  obtain ⟨hl, ao', cap', hv, hcc, hs⟩ := h
  cases hv
  refine ⟨by rw [List.length_drop, wts_length]; omega, _, _, rfl, by omega, fun hn => ?_⟩
  obtain ⟨b', o', ha, hx⟩ := hs (by omega)
  cases ha
  refine ⟨b, o + k * 2, rfl, fun j hj => ?_⟩
  rw [List.getElem?_drop, ← hx (k * 2 + j) (by omega), Nat.add_assoc]
theorem ShowW.none_left {w : World} {ao : Option Addr} {c : Nat} {l : List Wt} (hl : l = []) (hc : c ≤ 9223372036854775807) : ShowW w (.slice ao 0 c) l := by
  subst hl
  exact ⟨rfl, ao, c, rfl, ⟨Nat.zero_le _, by unfold maxLen; omega⟩, fun h => absurd h (Nat.lt_irrefl _)⟩
end Go.Proofs.Ytimaigeicidngaa
