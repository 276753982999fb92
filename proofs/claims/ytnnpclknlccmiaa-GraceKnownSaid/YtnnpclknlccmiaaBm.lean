/-
  What is noted, in a world: the rows of records, how they are written, appended to, and cut.
-/
import Derived.Test.YtnnpclknlccmiaaBook
import Derived.ArgAppend
set_option linter.unusedVariables false
set_option linter.unusedSimpArgs false
namespace Go.Proofs.Ytnnpclknlccmiaa
open Go Go.RowKit

/-- a row of records: at a place of its block; an empty one without room may be anywhere -/
def RowR (w : World) (v : Value) (l : List Rc) : Prop := (∃ a, v = .slice a 0 0 ∧ l = []) ∨
  ∃ b O cap cur, v = .slice (some ⟨b, O, none⟩) l.length cap ∧ l.length ≤ cap ∧ cap ≤ 9223372036854775807 ∧ w.heap[b]? = some (.cells cur 68 (0, 0)) ∧ cur.size = O + cap * 17 ∧
    ∀ i, i < l.length → ∀ j, j < 17 → w.cell? ⟨b, O + i * 17 + j, none⟩ = (rc l i).cells[j]?
theorem RowR.nil (w : World) : RowR w (.slice none 0 0) [] := .inl ⟨none, rfl, rfl⟩
section
variable {S : Nat → Prop} {w w' : World} {v : Value} {l : List Rc}
theorem RowR.of_block (h : RowR w v l) (e : ∀ b, v.ownBlock = some b → (∃ cur, w.heap[b]? = some (.cells cur 68 (0, 0))) → w'.heap[b]? = w.heap[b]?) : RowR w' v l := by
  rcases h with h | ⟨b, O, cap, cur, rfl, h1, h2, hb, h3, h4⟩
  · exact .inl h
  · have := e b rfl ⟨cur, hb⟩
    exact .inr ⟨b, O, cap, cur, rfl, h1, h2, this.trans hb, h3, fun i hi j hj => by rw [World.cell?_of_block (a := ⟨b, O + i * 17 + j, none⟩) this]; exact h4 i hi j hj⟩
theorem RowR.kept {Ts : List TypeId} (h : RowR w v l) (hk : Kept S w w') (hS : ∀ k, S k → Typ w Ts k) (hT : 68 ∉ Ts) : RowR w' v l :=
  h.of_block fun b _ ⟨cur, hb⟩ => hk.block b (lt_of_block hb) (fun e => (hS b e).ne hb hT rfl)
theorem RowR.shape (h : RowR w v l) : ∃ a c, v = .slice a l.length c ∧ l.length ≤ c ∧ c ≤ 9223372036854775807 := by
  rcases h with ⟨a, rfl, rfl⟩ | ⟨b, O, cap, cur, rfl, h1, h2, _⟩
  · exact ⟨a, 0, rfl, Nat.le_refl _, by omega⟩
  · exact ⟨_, cap, rfl, h1, h2⟩
theorem RowR.some (h : RowR w v l) (h0 : 0 < l.length) : ∃ b O cap cur, v = .slice (some ⟨b, O, none⟩) l.length cap ∧ l.length ≤ cap ∧ cap ≤ 9223372036854775807 ∧ w.heap[b]? = some (.cells cur 68 (0, 0)) ∧ cur.size = O + cap * 17 ∧
    ∀ i, i < l.length → ∀ j, j < 17 → w.cell? ⟨b, O + i * 17 + j, none⟩ = (rc l i).cells[j]? := by
  rcases h with ⟨a, _, rfl⟩ | h
  · simp at h0
  · exact h
/-- a cell of one record is written -/
theorem RowR.write {b O cap : Nat} {l' : List Rc} {k j : Nat} {u : Value} (h : RowR w (.slice (.some ⟨b, O, none⟩) l.length cap) l) (hk : k < l.length) (hl : l'.length = l.length)
    (hc : ∀ i, i < l.length → ∀ m, m < 17 → (rc l' i).cells[m]? = if i = k ∧ m = j then .some u else (rc l i).cells[m]?) (hj : j < 17) : RowR (w.setCell ⟨b, O + k * 17 + j, none⟩ u) (.slice (.some ⟨b, O, none⟩) l.length cap) l' := by
  obtain ⟨b', O', cap', cur, e, h1, h2, hb, h3, h4⟩ := h.some (by omega)
  cases e
  refine .inr ⟨b, O, cap, _, by rw [hl], by omega, h2, cells_set hb (O + k * 17 + j) u, by simpa using h3, fun i hi m hm => ?_⟩
  rw [hl] at hi
  rw [hc i hi m hm]
  by_cases e : i = k ∧ m = j
  · obtain ⟨rfl, rfl⟩ := e
    rw [if_pos ⟨rfl, rfl⟩]
    refine self_cell (cells_set hb (O + i * 17 + m) u) _ _ ?_
    rw [Array.getElem?_setIfInBounds, if_pos rfl, if_pos]
    have : (i + 1) * 17 ≤ cap * 17 := Nat.mul_le_mul_right _ (by omega)
    omega
  · rw [if_neg e, ← h4 i hi m hm]
    have hne : O + i * 17 + m ≠ O + k * 17 + j := by omega
    unfold World.cell?
    dsimp only
    rw [cells_set hb, hb]
    dsimp only
    simp [Array.getElem?_setIfInBounds, Ne.symm hne]
/-- all but the first one -/
theorem RowR.tail {b O cap : Nat} (h : RowR w (.slice (.some ⟨b, O, none⟩) l.length cap) l) (h0 : 0 < l.length) (hcap : cap ≠ 1) : RowR w (.slice (.some ⟨b, O + 17, none⟩) (l.length - 1) (cap - 1)) (l.drop 1) := by
  obtain ⟨b', O', cap', cur, e, h1, h2, hb, h3, h4⟩ := h.some h0
  cases e
  refine .inr ⟨b, O + 17, cap - 1, cur, by simp, by simp; omega, by omega, hb, by omega, fun i hi j hj => ?_⟩
  have hi' : i + 1 < l.length := by simp at hi; omega
  have := h4 (i + 1) hi' j hj
  rw [show O + (i + 1) * 17 + j = O + 17 + i * 17 + j by omega] at this
  rw [this]
  congr 2
  simp [rc, List.getD_eq_getElem?_getD, Nat.add_comm]
theorem RowR.tail1 {a : Option Addr} (h : RowR w (.slice a l.length 1) l) (h0 : 0 < l.length) : RowR w (.slice a (l.length - 1) 0) (l.drop 1) := by
  obtain ⟨b', O', cap', cur, e, h1, _⟩ := h.some h0
  cases e
  have : l.length = 1 := by omega
  refine .inl ⟨_, by rw [this], List.eq_nil_of_length_eq_zero (by simp; omega)⟩
end
theorem rcells_length (x : Rc) : x.cells.length = 17 := rfl
theorem rcells_one (x : Rc) : ∀ u ∈ x.cells, u.oneCell' = true := by
  intro u hu
  simp only [Rc.cells, List.mem_cons, List.mem_nil_iff, or_false] at hu
  rcases hu with rfl | rfl | rfl | rfl | rfl | rfl | rfl | rfl | rfl | rfl | rfl | rfl | rfl | rfl | rfl | rfl | rfl <;> rfl
abbrev rcs (l : List Rc) : List Value := l.flatMap Rc.cells
theorem rcs_length (l : List Rc) : (rcs l).length = l.length * 17 := by
  induction l with
  | nil => rfl
  | cons c r ih => simp only [rcs, List.flatMap_cons, List.length_append, List.length_cons] at *; rw [ih, rcells_length]; omega
theorem rcs_at (l : List Rc) (i j : Nat) (hi : i < l.length) (hj : j < 17) : (rcs l)[i * 17 + j]? = (rc l i).cells[j]? := by
  induction l generalizing i with
  | nil => simp at hi
  | cons c r ih =>
    cases i with
    | zero =>
      simp only [rcs, List.flatMap_cons, Nat.zero_mul, Nat.zero_add]
      rw [List.getElem?_append_left (by rw [rcells_length]; exact hj)]
      rfl
    | succ i =>
      simp only [rcs, List.flatMap_cons]
      rw [List.getElem?_append_right (by rw [rcells_length]; omega)]
      have := ih i (by simpa using hi)
      simp only [rcs] at this
      rw [show (i + 1) * 17 + j - c.cells.length = i * 17 + j by rw [rcells_length]; omega, this]
      simp [rc]
theorem rc_snoc {l : List Rc} {x : Rc} {i : Nat} (hi : i < (l ++ [x]).length) : rc (l ++ [x]) i = if i < l.length then rc l i else x := by
  unfold rc
  rw [List.getD_eq_getElem?_getD, List.getD_eq_getElem?_getD]
  by_cases h : i < l.length
  · rw [if_pos h, List.getElem?_append_left h]
  · rw [if_neg h, List.getElem?_append_right (by omega)]
    have : i - l.length = 0 := by simp at hi; omega
    rw [this]; rfl
/-- a row of one's own that was made -/
theorem RowR.ofOwn {w : World} {B n : Nat} {v : Value} {l : List Rc} (hn : n = l.length) (h : w.ownsRow B 68 17 v n (rcs l)) : RowR w v l := by
  subst hn
  rcases h.2 with ⟨rfl, h0⟩ | ⟨g, cap, cur, rfl, _, hg, h1, h2, h3, h4⟩
  · exact .inl ⟨none, rfl, List.eq_nil_of_length_eq_zero h0⟩
  · refine .inr ⟨g, 0, cap, cur, rfl, h1, by unfold maxLen at h2; omega, hg, by omega, fun i hi j hj => ?_⟩
    have hlt : i * 17 + j < l.length * 17 := by omega
    rw [← rcs_at l i j hi hj, ← h4, List.getElem?_take, if_pos hlt, Nat.zero_add]
    unfold World.cell?
    dsimp only
    rw [hg]
    simp
theorem infoR : (Try.prog.info? 68).map (fun i => (i.zero, i.size, i.bytes)) = some (some (.agg rz.cells.toArray), 17, 24) := by kernel_rfl
theorem block_setCells {b : Nat} {t : TypeId} : ∀ (vs : List Value) (o : Nat) (w : World) (cs : Array Value), w.heap[b]? = some (.cells cs t (0, 0)) → ∃ cs', (w.setCells b o vs).heap[b]? = some (.cells cs' t (0, 0)) ∧ cs'.size = cs.size ∧ Kept (· = b) w (w.setCells b o vs)
  | [], o, w, cs, h => ⟨cs, h, rfl, Kept.refl _ _⟩
  | v :: r, o, w, cs, h => by
    obtain ⟨cs', h1, h2, h3⟩ := block_setCells r (o + 1) (w.setCell ⟨b, o, none⟩ v) _ (cells_set h o v)
    exact ⟨cs', h1, by rw [h2]; simp, (Kept.setCell (S := (· = b)) (p := ⟨b, o, none⟩) (Kept.refl _ w) rfl v).trans h3⟩
theorem run_appendR {w : World} {v : Value} {l : List Rc} {x : Rc} (h : RowR w v l) (hl : l.length ≤ 1000) (K : Nat) (hx : ∀ j u, x.cells[j]? = some u → w.cell? ⟨K, j, none⟩ = some u) (ty : TypeId) :
    ∃ g off cap w', (Builtin.append_ #[38, 38] ty #[v, .slice (some ⟨K, 0, none⟩) 1 1]).run Try.prog w = .ok (.slice (some ⟨g, off, none⟩) (l.length + 1) cap) w' ∧ RowR w' (.slice (some ⟨g, off, none⟩) (l.length + 1) cap) (l ++ [x]) ∧ Kept (fun k => v.ownBlock = some k ∧ ∃ c, w.heap[k]? = some (.cells c 68 (0, 0))) w w' ∧
      (v.ownBlock = some g ∨ w.heap.size ≤ g) := by
  obtain ⟨i0, hi, hz0, hz1, hz2⟩ := info_parts infoR
  have hnews : ∀ j u, x.cells[j]? = some u → w.cell? ((⟨K, 0, none⟩ : Addr).add j) = some u := fun j u e => by rw [plain_add, Nat.zero_add]; exact hx j u e
  have hrl : (l ++ [x]).length = l.length + 1 := by simp
  have hrcs : rcs (l ++ [x]) = rcs l ++ x.cells := by simp [rcs]
  have big : l.length + 1 ≤ maxLen := by unfold maxLen; omega
  rcases h with ⟨a, rfl, rfl⟩ | ⟨b, O, cap, cur, rfl, h1, h2, hb, h3, h4⟩
  · cases a with
    | none =>
      obtain ⟨v', w', hr, hown, hg, _, hat⟩ := run_append_own_at (P := Try.prog) w w.heap.size 38 ty 68 i0 _ 17 24 Try.underlying38 hi hz0 hz1 hz2 rfl (by decide) (.slice none 0 0) 0 [] (World.ownsRow_nil _ _ _ _) ⟨K, 0, none⟩ 1 1 x.cells rfl hnews (rcells_one x) (by unfold maxLen; omega) (by omega) (Nat.le_refl _)
      have hR : RowR w' v' ([] ++ [x]) := RowR.ofOwn (B := w.heap.size) (n := 0 + 1) rfl (by simpa [rcs] using hown)
      have hge := own_ge hown
      rcases hown.2 with ⟨_, e⟩ | ⟨g, cap, cur, rfl, hbg, _⟩
      · simp at e
      · exact ⟨g, 0, cap, w', hr, hR, ⟨hg.os, hg.tape, hg.output, hg.size, fun k hk _ => hg.block k hk (by simp [Value.ownBlock])⟩, .inr hbg⟩
    | some a =>
      obtain ⟨v', w', hr, hown, hg⟩ := run_append_arg_grows (P := Try.prog) w 38 ty 68 i0 _ 17 24 Try.underlying38 hi hz0 hz1 hz2 rfl (by decide) a 0 0 [] rfl (fun j u e => by simp at e) ⟨K, 0, none⟩ 1 1 x.cells rfl hnews (by omega) (by unfold maxLen; omega) (by omega)
      have hR : RowR w' v' ([] ++ [x]) := RowR.ofOwn (B := w.heap.size) (n := 0 + 1) rfl (by simpa [rcs] using hown)
      rcases hown.2 with ⟨_, e⟩ | ⟨g, cap, cur, rfl, hbg, _⟩
      · simp at e
      · exact ⟨g, 0, cap, w', hr, hR, ⟨hg.os, hg.tape, hg.output, hg.size, fun k hk _ => hg.block k hk (by simp)⟩, .inr hbg⟩
  · have hold : ∀ j u, (rcs l)[j]? = some u → w.cell? ((⟨b, O, none⟩ : Addr).add j) = some u := by
      intro j u e
      have hlt := (List.getElem?_eq_some_iff.1 e).1
      rw [rcs_length] at hlt
      have hq : j = j / 17 * 17 + j % 17 := by omega
      have h5 := rcs_at l (j / 17) (j % 17) (by omega) (by omega)
      rw [← hq, e] at h5
      rw [plain_add, hq, ← Nat.add_assoc, h4 (j / 17) (by omega) (j % 17) (by omega), h5]
    by_cases hr : l.length + 1 ≤ cap
    · have hfit : O + l.length * 17 + 17 ≤ cur.size := by
        have : (l.length + 1) * 17 ≤ cap * 17 := Nat.mul_le_mul_right _ hr
        omega
      have hcells : ∀ j, j < x.cells.length → (w.cell? ⟨b, O + l.length * i0.size + j, none⟩).isSome = true := by
        intro j hj
        rw [rcells_length] at hj
        rw [hz1]
        unfold World.cell?
        dsimp only
        rw [hb]
        dsimp only
        rw [Array.getElem?_eq_getElem (show O + l.length * 17 + j < cur.size by omega)]
        rfl
      have hrun := run_append_room_cells (P := Try.prog) w 38 ty 68 i0 Try.underlying38 hi b O l.length cap ⟨K, 0, none⟩ 1 1 x.cells (by rw [hz1]; rfl) hnews (rcells_one x) hr hcells (fun j hj => self_free hb _)
      rw [hz1] at hrun hcells
      obtain ⟨cs', e1, e2, e3⟩ := block_setCells (b := b) x.cells (O + l.length * 17) w cur hb
      refine ⟨b, O, cap, _, hrun, .inr ⟨b, O, cap, cs', by rw [hrl], by omega, h2, e1, by rw [e2]; exact h3, fun i hi2 j hj => ?_⟩, e3.mono (fun k e => by subst e; exact ⟨rfl, cur, hb⟩), .inl rfl⟩
      rw [rc_snoc hi2]
      by_cases hlt : i < l.length
      · rw [if_pos hlt, World.cell?_setCells_out b x.cells _ w _ (fun _ _ => .inl (by dsimp only; omega))]
        exact h4 i hlt j hj
      · have hil : i = l.length := by omega
        rw [if_neg hlt, hil]
        have := World.cell?_setCells_in b x.cells (O + l.length * 17) w hcells j (by rw [rcells_length]; exact hj)
        rw [this]
        exact (List.getElem?_eq_getElem (by rw [rcells_length]; exact hj)).symm
    · obtain ⟨v', w', hrun, hown, hg⟩ := run_append_arg_grows (P := Try.prog) w 38 ty 68 i0 _ 17 24 Try.underlying38 hi hz0 hz1 hz2 rfl (by decide) ⟨b, O, none⟩ l.length cap (rcs l) (rcs_length l) hold ⟨K, 0, none⟩ 1 1 x.cells rfl hnews (by omega) big (by omega)
      have hR : RowR w' v' (l ++ [x]) := RowR.ofOwn (B := w.heap.size) (n := l.length + 1) hrl.symm (by rw [hrcs]; exact hown)
      rcases hown.2 with ⟨_, e⟩ | ⟨g, cap', cur', rfl, hbg, _⟩
      · simp at e
      · exact ⟨g, 0, cap', w', hrun, hR, ⟨hg.os, hg.tape, hg.output, hg.size, fun k hk _ => hg.block k hk (by simp)⟩, .inr hbg⟩
end Go.Proofs.Ytnnpclknlccmiaa
