/-
  A table in memory of one's own: a page of it is written; slices.Clone; append(nil, l..).
-/
import Derived.Test.YtpohfecbogppkaaAround
import Derived.Test.YtpohfecbogppkaaRef2
set_option linter.unusedVariables false
set_option linter.unusedSimpArgs false
namespace Go.Proofs.Ytpohfecbogppkaa
open Go Go.RowKit

/-- block g begins with n pages -/
def TabIs (w : World) (g n : Nat) (f : Nat → Pg) : Prop := ∃ c : Array Value, w.heap[g]? = some (.cells c 51 (0, 0)) ∧
  ∀ i, i < n → c[i * 3]? = some (.int .i64 (f i).kind) ∧ c[i * 3 + 1]? = some (.int .i64 (f i).order) ∧ c[i * 3 + 2]? = some (.int .i64 (f i).cache)
section
variable {w w' : World} {g n : Nat} {f h : Nat → Pg}
theorem TabIs.lt (t : TabIs w g n f) : g < w.heap.size := by
  obtain ⟨c, hb, _⟩ := t
  exact lt_of_block hb
theorem TabIs.frozen (t : TabIs w g n f) (j : Nat) : w.frozen? ⟨g, j, none⟩ = false := by
  obtain ⟨c, hb, _⟩ := t
  exact self_free hb j
theorem TabIs.cells (t : TabIs w g n f) {i : Nat} (hi : i < n) : w.cell? ⟨g, i * 3, none⟩ = some (.int .i64 (f i).kind) ∧ w.cell? ⟨g, i * 3 + 1, none⟩ = some (.int .i64 (f i).order) ∧ w.cell? ⟨g, i * 3 + 2, none⟩ = some (.int .i64 (f i).cache) := by
  obtain ⟨c, hb, hc⟩ := t
  obtain ⟨h0, h1, h2⟩ := hc i hi
  exact ⟨self_cell hb _ _ h0, self_cell hb _ _ h1, self_cell hb _ _ h2⟩
theorem TabIs.of_block (t : TabIs w g n f) (e : w'.heap[g]? = w.heap[g]?) : TabIs w' g n f := by
  obtain ⟨c, hb, hc⟩ := t
  exact ⟨c, e.trans hb, hc⟩
theorem TabIs.below (t : TabIs w g n f) (hb : Below w.heap.size w w') : TabIs w' g n f := t.of_block (hb.block g t.lt)
theorem TabIs.congr (t : TabIs w g n f) (e : ∀ i, i < n → f i = h i) : TabIs w g n h := by
  obtain ⟨c, hb, hc⟩ := t
  exact ⟨c, hb, fun i hi => by rw [← e i hi]; exact hc i hi⟩
/-- page k is written -/
theorem TabIs.set (t : TabIs w g n f) (k : Nat) (p : Pg) : TabIs (((w.setCell ⟨g, k * 3, none⟩ (.int .i64 p.kind)).setCell ⟨g, k * 3 + 1, none⟩ (.int .i64 p.order)).setCell ⟨g, k * 3 + 2, none⟩ (.int .i64 p.cache)) g n (fun i => if i = k then p else f i) := by
  obtain ⟨c, hb, hc⟩ := t
  refine ⟨_, cells_set (cells_set (cells_set hb (k * 3) _) (k * 3 + 1) _) (k * 3 + 2) _, fun i hi => ?_⟩
  obtain ⟨h0, h1, h2⟩ := hc i hi
  have s0 := (Array.getElem?_eq_some_iff.1 h0).1
  have s1 := (Array.getElem?_eq_some_iff.1 h1).1
  have s2 := (Array.getElem?_eq_some_iff.1 h2).1
  simp only [Array.getElem?_setIfInBounds, Array.size_setIfInBounds]
  by_cases e : i = k
  · subst e
    simp [s0, s1, s2]
  · simp [e, show ¬ k = i by omega, show ¬ k * 3 = i * 3 by omega, show ¬ k * 3 + 1 = i * 3 by omega, show ¬ k * 3 + 2 = i * 3 by omega, show ¬ k * 3 = i * 3 + 1 by omega, show ¬ k * 3 + 2 = i * 3 + 1 by omega, show ¬ k * 3 = i * 3 + 2 by omega, show ¬ k * 3 + 1 = i * 3 + 2 by omega, h0, h1, h2]
/-- page k's first number is written -/
theorem TabIs.setKind (t : TabIs w g n f) (k : Nat) (x : Int) : TabIs (w.setCell ⟨g, k * 3, none⟩ (.int .i64 x)) g n (fun i => if i = k then ⟨x, (f i).order, (f i).cache⟩ else f i) := by
  obtain ⟨c, hb, hc⟩ := t
  refine ⟨_, cells_set hb (k * 3) _, fun i hi => ?_⟩
  obtain ⟨h0, h1, h2⟩ := hc i hi
  have s0 := (Array.getElem?_eq_some_iff.1 h0).1
  simp only [Array.getElem?_setIfInBounds]
  by_cases e : i = k
  · subst e
    simp [s0, h1, h2]
  · simp [e, show ¬ k * 3 = i * 3 by omega, show ¬ k * 3 = i * 3 + 1 by omega, show ¬ k * 3 = i * 3 + 2 by omega, h0, h1, h2]
theorem TabIs.shows {cap : Nat} {l : List Pg} (t : TabIs w g l.length (pg l)) (hc : l.length ≤ cap ∧ cap ≤ maxLen) : ShowP w (.slice (some ⟨g, 0, none⟩) l.length cap) l := by
  refine ⟨pgs_length l, _, cap, rfl, hc, fun _ => ⟨g, 0, rfl, fun j hj => ?_⟩⟩
  obtain ⟨q, r, rfl, hr⟩ : ∃ q r, j = q * 3 + r ∧ r < 3 := ⟨j / 3, j % 3, by omega, by omega⟩
  have hq : q < l.length := by omega
  rw [pgs_at l q r hq hr, Nat.zero_add]
  obtain ⟨c0, c1, c2⟩ := t.cells hq
  match r, hr with
  | 0, _ => rw [Nat.add_zero, c0]; simp only [pg_at l q hq, Pg.cells, List.getElem_cons_zero]
  | 1, _ => rw [c1]; simp only [pg_at l q hq, Pg.cells, List.getElem_cons_succ, List.getElem_cons_zero]
  | 2, _ => rw [c2]; simp only [pg_at l q hq, Pg.cells, List.getElem_cons_succ, List.getElem_cons_zero]
end
theorem tab_of_own {w : World} {B : Nat} {v : Value} {l : List Pg} (h : w.ownsRow B 51 3 v l.length (pgs l)) (h1 : 1 ≤ l.length) :
    ∃ g cap, v = .slice (some ⟨g, 0, none⟩) l.length cap ∧ B ≤ g ∧ (l.length ≤ cap ∧ cap ≤ maxLen) ∧ TabIs w g l.length (pg l) := by
  rcases h.2 with ⟨_, h0⟩ | ⟨g, cap, cur, rfl, hB, hb, hc, hm, hsz, ht⟩
  · omega
  · refine ⟨g, cap, rfl, hB, ⟨hc, hm⟩, cur, hb, fun i hi => ?_⟩
    have key : ∀ j, j < 3 → cur[i * 3 + j]? = some ((l[i]).cells[j]!) := fun j hj => by
      have ha := pgs_at l i j hi hj
      rw [← ht, List.getElem?_take, if_pos (by omega)] at ha
      rw [← Array.getElem?_toList, ha]
      have : j < (l[i]).cells.length := by simpa [Pg.cells] using hj
      simp [this]
    rw [← pg_at l i hi]
    exact ⟨by simpa [Pg.cells] using key 0 (by omega), by simpa [Pg.cells] using key 1 (by omega), by simpa [Pg.cells] using key 2 (by omega)⟩
theorem news_of {w : World} {b o cap : Nat} {l : List Pg} (hs : ShowP w (.slice (some ⟨b, o, none⟩) l.length cap) l) : ∀ j u, (pgs l)[j]? = some u → w.cell? ((⟨b, o, none⟩ : Addr).add j) = some u := by
  intro j u hj
  obtain ⟨hl, ao', cap', hv, hc, hx⟩ := hs
  cases hv
  have hlt := (List.getElem?_eq_some_iff.1 hj).1
  obtain ⟨b', o', ha, h2⟩ := hx (by omega)
  cases ha
  have := h2 j (by omega)
  rw [hj] at this
  rw [show (⟨b, o, none⟩ : Addr).add j = ⟨b, o + j, none⟩ by
        by_cases hj0 : j = 0
        · subst hj0; rfl
        · simp [Addr.add, hj0], this]
theorem pgs_one (l : List Pg) : ∀ u ∈ pgs l, u.oneCell' = true := by
  intro u hu
  obtain ⟨c, _, hc⟩ := List.mem_flatMap.1 hu
  simp only [Pg.cells, List.mem_cons, List.mem_nil_iff, or_false] at hc
  rcases hc with rfl | rfl | rfl <;> rfl

set_option maxHeartbeats 2000000 in
set_option maxRecDepth 100000 in
/-- slices.Clone of a table -/
theorem cClone (b o cap : Nat) (l : List Pg) (h1 : 1 ≤ l.length) (hl : l.length ≤ 1024) (w : World) (hs : ShowP w (.slice (some ⟨b, o, none⟩) l.length cap) l) :
    Calls Try.prog 40 #[.slice (some ⟨b, o, none⟩) l.length cap] w fun e w' => ∃ g cp, e = .returned (.slice (some ⟨g, 0, none⟩) l.length cp) ∧ w.heap.size ≤ g ∧ (l.length ≤ cp ∧ cp ≤ maxLen) ∧ TabIs w' g l.length (pg l) ∧ Below w.heap.size w w' := by
  obtain ⟨i0, hi, hz0, hz1, hz2⟩ := info_parts infoP
  have q22 : ∀ (w : World) (a : Option Addr) (n c n' c' : Nat), (binOp .eql 37 (.slice a n c) (.slice none n' c')).run Try.prog w = .ok (.bool a.isNone) w := fun w a n c n' c' => Lib.run_eql_slice_nil w _ _ a n c n' c' Try.underlying37
  have hnews := news_of hs
  have hN : Hid (∀ j u, (pgs l)[j]? = some u → w.cell? ((⟨b, o, none⟩ : Addr).add j) = some u) := Lib.hid hnews
  have hcap := hs.form
  obtain ⟨_, _, hsl, hcp, _⟩ := hcap
  cases hsl
  clear hs hnews
  go_enter Try.func40, Try.ntmps40
  go_wp2_with (at_builtin; refine wpList_append_own _ (by rfl) _ _ 37 (by rfl) w.heap.size 51 i0 _ 3 24 Try.underlying37 hi hz0 hz1 hz2 (by rfl) (by decide) _ _ _ (by rfl) (World.ownsRow_made w #[] 0 (Nat.le_refl _) (Nat.zero_le _) (by simp)) ⟨b, o, none⟩ l.length cap (pgs l) (by rfl) ?qc1 ?qc2 ?qc3 ?qc4 ?qc5 ?qc6 ?_)
  case qc1 => exact pgs_length l
  case qc2 =>
    intro j u hj
    exact cell_keep (below_one (Below.refl _ _) _) (hN.out j u hj)
  case qc3 => exact pgs_one l
  case qc4 => rw [Nat.zero_add]; unfold maxLen; omega
  case qc5 => rw [Nat.zero_add]; omega
  case qc6 => simp
  intro v' w1 hown hgrow hnil
  obtain ⟨g, cp, rfl, hB, hc, ht⟩ := tab_of_own hown h1
  have hb : Below w.heap.size w w1 := ((Below.refl _ w).alloc (Nat.le_refl _) _).grown hgrow (by simp) (by intro k hk; simp [Value.ownBlock] at hk; omega)
  go_wp2
  go_ret
  exact ⟨g, cp, rfl, hB, hc, ht, hb⟩
end Go.Proofs.Ytpohfecbogppkaa
