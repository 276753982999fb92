/-
  A machine of the program in a world; its small calls.
-/
import Derived.Test.YtnnpclknlccmiaaGm
import Derived.Deep.MidRow
set_option linter.unusedVariables false
set_option linter.unusedSimpArgs false
namespace Go.Proofs.Ytnnpclknlccmiaa
open Go Go.RowKit

abbrev anys (l : List Wt) : List Value := l.map (fun x => Value.iface 82 x.agg)
def boxV (p n : Nat) (g : Gr) (i : Nat) : Value := if i = 0 then .slice (some ⟨p, 0, none⟩) n n else if i = 1 then .int .i64 g.nd else .bool (g.aw (i - 2))
def tabV (vs : Nat → Value) (g : Gr) (i : Nat) : Value := if i % 2 = 0 then .int .i64 (g.dp (i / 2)) else vs (i / 2)
/-- blocks of these types -/
def Typ (w : World) (Ts : List TypeId) (k : Nat) : Prop := ∃ c T fr, w.heap[k]? = some (.cells c T fr) ∧ T ∈ Ts
theorem Typ.ne {w : World} {Ts : List TypeId} {k j : Nat} {c : Array Value} {T : TypeId} {fr : Nat × Nat} (h : Typ w Ts k) (hb : w.heap[j]? = some (.cells c T fr)) (hT : T ∉ Ts) : k ≠ j := by
  rintro rfl
  obtain ⟨c', T', fr', h1, h2⟩ := h
  rw [hb] at h1
  cases h1
  exact hT h2
theorem Typ.lt {w : World} {Ts : List TypeId} {k : Nat} (h : Typ w Ts k) : k < w.heap.size := by
  obtain ⟨c', T', fr', h1, h2⟩ := h
  exact lt_of_block h1
theorem row_kept2 {S : Nat → Prop} {w w' : World} {Ts : List TypeId} {b n : Nat} {T : TypeId} {f : Nat → Value} (h : w.rowIs b T n f) (hk : Kept S w w') (hS : ∀ k, S k → Typ w Ts k) (hT : T ∉ Ts) : w'.rowIs b T n f :=
  row_kept h hk (fun e => by obtain ⟨c, hb, _⟩ := h; exact (hS b e).ne hb hT rfl)
theorem own_kept2 {S : Nat → Prop} {w w' : World} {Ts : List TypeId} {B n k : Nat} {T : TypeId} {v : Value} {xs : List Value} (h : w.ownsRow B T k v n xs) (hk : Kept S w w') (hS : ∀ k, S k → Typ w Ts k) (hT : T ∉ Ts) : w'.ownsRow B T k v n xs := by
  refine ⟨h.1, ?_⟩
  rcases h.2 with e | ⟨r, c, cur, rfl, hb, hg, h1⟩
  · exact .inl e
  · exact .inr ⟨r, c, cur, rfl, hb, (hk.block r (lt_of_block hg) (fun e => (hS r e).ne hg hT rfl)).trans hg, h1⟩
structure GV (w : World) (B p n : Nat) (vs : Nat → Value) (g : Gr) : Prop where
  box : w.rowIs B 56 10 (boxV p n g)
  tab : w.rowIs p 75 (2 * n) (tabV vs g)
  row : ∀ i, i < n → w.ownsRow 0 20 1 (vs i) (g.rs i).length (anys (g.rs i))
/-- the blocks that a machine may change -/
def OwnG (B p : Nat) (k : Nat) : Prop := k = B ∨ k = p
section
variable {S : Nat → Prop} {w w' : World} {B p n : Nat} {vs : Nat → Value} {g : Gr}
theorem GV.c0 (h : GV w B p n vs g) : w.cell? ⟨B, 0, none⟩ = some (.slice (some ⟨p, 0, none⟩) n n) := h.box.cell (by omega)
theorem GV.c1 (h : GV w B p n vs g) : w.cell? ⟨B, 1, none⟩ = some (.int .i64 g.nd) := h.box.cell (by omega)
theorem GV.ca (h : GV w B p n vs g) {i : Nat} (hi : i < 8) : w.cell? ⟨B, 2 + i, none⟩ = some (.bool (g.aw i)) := by
  rw [h.box.cell (show 2 + i < 10 by omega), boxV, if_neg (by omega), if_neg (by omega), show 2 + i - 2 = i by omega]
theorem GV.cd (h : GV w B p n vs g) {c : Nat} (hc : c < n) : w.cell? ⟨p, c * 2, none⟩ = some (.int .i64 (g.dp c)) := by
  rw [h.tab.cell (show c * 2 < 2 * n by omega), tabV, if_pos (by omega), show c * 2 / 2 = c by omega]
theorem GV.cr (h : GV w B p n vs g) {c : Nat} (hc : c < n) : w.cell? ⟨p, c * 2 + 1, none⟩ = some (vs c) := by
  rw [h.tab.cell (show c * 2 + 1 < 2 * n by omega), tabV, if_neg (by omega), show (c * 2 + 1) / 2 = c by omega]
theorem GV.typ (h : GV w B p n vs g) : ∀ k, OwnG B p k → Typ w [56, 75] k := by
  rintro k (rfl | rfl)
  · obtain ⟨c, hb, _⟩ := h.box
    exact ⟨c, _, _, hb, by decide⟩
  · obtain ⟨c, hb, _⟩ := h.tab
    exact ⟨c, _, _, hb, by decide⟩
theorem GV.ne (h : GV w B p n vs g) : B ≠ p := by
  rintro rfl
  obtain ⟨c, hb, _⟩ := h.box
  obtain ⟨c', hb', _⟩ := h.tab
  rw [hb] at hb'
  cases hb'
theorem GV.kept {Ts : List TypeId} (h : GV w B p n vs g) (hk : Kept S w w') (hS : ∀ k, S k → Typ w Ts k) (hT : 56 ∉ Ts ∧ 75 ∉ Ts ∧ 20 ∉ Ts) : GV w' B p n vs g :=
  ⟨row_kept2 h.box hk hS hT.1, row_kept2 h.tab hk hS hT.2.1, fun i hi => own_kept2 (h.row i hi) hk hS hT.2.2⟩
theorem GV.below (h : GV w B p n vs g) (hb : Below w.heap.size w w') : GV w' B p n vs g :=
  h.kept (S := fun _ => False) (Ts := []) (Kept.ofBelow hb) (fun _ e => e.elim) (by decide)
theorem GV.lt (h : GV w B p n vs g) : B < w.heap.size ∧ p < w.heap.size := ⟨h.box.lt, h.tab.lt⟩
theorem set_depth (h : GV w B p n vs g) {c d : Nat} (hc : c < n) : GV (w.setCell ⟨p, c * 2, none⟩ (.int .i64 d)) B p n vs (g.deep c d) ∧ Kept (OwnG B p) w (w.setCell ⟨p, c * 2, none⟩ (.int .i64 d)) := by
  have hk : Kept (· = p) w (w.setCell ⟨p, c * 2, none⟩ (.int .i64 d)) := Kept.setCell (S := (· = p)) (p := ⟨p, c * 2, none⟩) (Kept.refl _ w) rfl _
  refine ⟨⟨row_kept h.box hk h.ne, (h.tab.set (c * 2) _).congr fun i hi => ?_, fun i hi => ?_⟩, hk.mono (fun k e => .inr e)⟩
  · unfold tabV
    by_cases e : i = c * 2
    · subst e
      rw [if_pos rfl, if_pos (by omega), show c * 2 / 2 = c by omega]
      show _ = Value.int .i64 (upd g.dp c d c : Nat)
      rw [upd_same]
    · rw [if_neg e]
      by_cases e2 : i % 2 = 0
      · rw [if_pos e2, if_pos e2]
        show _ = Value.int .i64 (upd g.dp c d (i / 2) : Nat)
        rw [upd_other _ _ (by omega)]
      · rw [if_neg e2, if_neg e2]
  · exact own_kept2 (h.row i hi) hk (fun k e => h.typ k (.inr e)) (by decide)
theorem set_row (h : GV w B p n vs g) {c : Nat} {v : Value} {l : List Wt} (hc : c < n) (hv : w.ownsRow 0 20 1 v l.length (anys l)) :
    GV (w.setCell ⟨p, c * 2 + 1, none⟩ v) B p n (upd vs c v) (g.row c l) ∧ Kept (OwnG B p) w (w.setCell ⟨p, c * 2 + 1, none⟩ v) := by
  have hk : Kept (· = p) w (w.setCell ⟨p, c * 2 + 1, none⟩ v) := Kept.setCell (S := (· = p)) (p := ⟨p, c * 2 + 1, none⟩) (Kept.refl _ w) rfl _
  refine ⟨⟨row_kept h.box hk h.ne, (h.tab.set (c * 2 + 1) _).congr fun i hi => ?_, fun i hi => ?_⟩, hk.mono (fun k e => .inr e)⟩
  · unfold tabV
    by_cases e : i = c * 2 + 1
    · subst e
      rw [if_pos rfl, if_neg (by omega), show (c * 2 + 1) / 2 = c by omega, upd_same]
    · rw [if_neg e]
      by_cases e2 : i % 2 = 0
      · rw [if_pos e2, if_pos e2]
        rfl
      · rw [if_neg e2, if_neg e2, upd_other _ _ (by omega)]
  · show World.ownsRow _ 0 _ 1 (upd vs c v i) (upd g.rs c l i).length (anys (upd g.rs c l i))
    by_cases e : i = c
    · subst e
      rw [upd_same, upd_same]
      exact own_kept2 hv hk (fun k e => h.typ k (.inr e)) (by decide)
    · rw [upd_other _ _ e, upd_other _ _ e]
      exact own_kept2 (h.row i hi) hk (fun k e => h.typ k (.inr e)) (by decide)
/-- what is written into the struct -/
theorem set_box (h : GV w B p n vs g) {k : Nat} {v : Value} {g' : Gr} (hd : g'.dp = g.dp) (hr : g'.rs = g.rs) (hb : ∀ i, i < 10 → (if i = k then v else boxV p n g i) = boxV p n g' i) :
    GV (w.setCell ⟨B, k, none⟩ v) B p n vs g' ∧ Kept (OwnG B p) w (w.setCell ⟨B, k, none⟩ v) := by
  have hk : Kept (· = B) w (w.setCell ⟨B, k, none⟩ v) := Kept.setCell (S := (· = B)) (p := ⟨B, k, none⟩) (Kept.refl _ w) rfl _
  refine ⟨⟨(h.box.set k _).congr hb, ?_, fun i hi => ?_⟩, hk.mono (fun k e => .inl e)⟩
  · have e : tabV vs g' = tabV vs g := by unfold tabV; rw [hd]
    rw [e]
    exact row_kept h.tab hk (fun e => h.ne e.symm)
  · rw [hr]
    exact own_kept2 (h.row i hi) hk (fun k e => h.typ k (.inl e)) (by decide)
theorem set_aw (h : GV w B p n vs g) {c : Nat} {q : Bool} (hc : c < 8) : GV (w.setCell ⟨B, 2 + c, none⟩ (.bool q)) B p n vs { g with aw := upd g.aw c q } ∧ Kept (OwnG B p) w (w.setCell ⟨B, 2 + c, none⟩ (.bool q)) := by
  refine set_box h rfl rfl fun i hi => ?_
  unfold boxV
  dsimp only
  by_cases e : i = 2 + c
  · subst e
    rw [if_pos rfl, if_neg (by omega), if_neg (by omega), show 2 + c - 2 = c by omega, upd_same]
  · rw [if_neg e]
    by_cases e0 : i = 0
    · rw [if_pos e0, if_pos e0]
    · rw [if_neg e0, if_neg e0]
      by_cases e1 : i = 1
      · rw [if_pos e1, if_pos e1]
      · rw [if_neg e1, if_neg e1, upd_other _ _ (by omega)]
theorem set_nd (h : GV w B p n vs g) : GV (w.setCell ⟨B, 1, none⟩ (.int .i64 ((g.nd : Int) + 1))) B p n vs { g with nd := g.nd + 1 } ∧ Kept (OwnG B p) w (w.setCell ⟨B, 1, none⟩ (.int .i64 ((g.nd : Int) + 1))) := by
  refine set_box h rfl rfl fun i hi => ?_
  unfold boxV
  dsimp only
  by_cases e : i = 1
  · subst e
    rw [if_pos rfl, if_neg (by omega), if_pos rfl]
    rfl
  · rw [if_neg e]
    by_cases e0 : i = 0
    · rw [if_pos e0, if_pos e0]
    · rw [if_neg e0, if_neg e0, if_neg e, if_neg e]
/-- nothing else hangs on it -/
theorem GV.congr (h : GV w B p n vs g) {g' : Gr} (hd : ∀ i, i < n → g'.dp i = g.dp i) (hr : ∀ i, i < n → g'.rs i = g.rs i) (hn : g'.nd = g.nd) (ha : ∀ i, i < 8 → g'.aw i = g.aw i) : GV w B p n vs g' := by
  refine ⟨h.box.congr fun i hi => ?_, h.tab.congr fun i hi => ?_, fun i hi => by rw [hr i hi]; exact h.row i hi⟩
  · unfold boxV
    by_cases e0 : i = 0
    · rw [if_pos e0, if_pos e0]
    · rw [if_neg e0, if_neg e0]
      by_cases e1 : i = 1
      · rw [if_pos e1, if_pos e1, hn]
      · rw [if_neg e1, if_neg e1, ha _ (by omega)]
  · unfold tabV
    by_cases e2 : i % 2 = 0
    · rw [if_pos e2, if_pos e2, hd _ (by omega)]
    · rw [if_neg e2, if_neg e2]
end
end Go.Proofs.Ytnnpclknlccmiaa
