/-
  Layouts in a world; two of them compared; a function's results that live in a cell.
-/
import Derived.Test.YtghmopeaphandaaNum
import Derived.StillTailTactics
set_option linter.unusedVariables false
set_option linter.unusedSimpArgs false
namespace Go.Proofs.Ytghmopeaphandaa
open Go Go.RowKit

abbrev Ly.arr (l : Ly) : Array Value := #[.int .i64 l.size, .int .i64 l.align, .int .i64 l.step, .int .i64 l.off, .int .i64 l.order, .int .i64 l.objs, .int .i64 l.waste]
/-- a block that is a layout -/
abbrev LyAt (w : World) (K : Nat) (l : Ly) : Prop := w.heap[K]? = some (.cells l.arr 23 (0, 0))
abbrev lay0 : Obj := .cells #[.int .i64 0, .int .i64 0, .int .i64 0, .int .i64 0, .int .i64 0, .int .i64 0, .int .i64 0] 23
theorem infoS : (Try.prog.info? 23).map (·.size) = some 7 := by kernel_rfl
theorem underL : ∃ fs, Try.prog.underlying 23 = some (.struct fs) := ⟨Try.prog.fieldsOf 23, by kernel_rfl⟩
section
variable {w w' W : World} {K g : Nat} {l d : Ly} {Ts : List TypeId} {S : Nat → Prop}
theorem LyAt.lt (h : LyAt w K l) : K < w.heap.size := lt_of_block h
theorem LyAt.cells (h : LyAt w K l) :
    w.cell? ⟨K, 0, none⟩ = some (.int .i64 l.size) ∧ w.cell? ⟨K, 1, none⟩ = some (.int .i64 l.align) ∧ w.cell? ⟨K, 2, none⟩ = some (.int .i64 l.step) ∧ w.cell? ⟨K, 3, none⟩ = some (.int .i64 l.off) ∧
    w.cell? ⟨K, 4, none⟩ = some (.int .i64 l.order) ∧ w.cell? ⟨K, 5, none⟩ = some (.int .i64 l.objs) ∧ w.cell? ⟨K, 6, none⟩ = some (.int .i64 l.waste) :=
  ⟨self_cell h 0 _ rfl, self_cell h 1 _ rfl, self_cell h 2 _ rfl, self_cell h 3 _ rfl, self_cell h 4 _ rfl, self_cell h 5 _ rfl, self_cell h 6 _ rfl⟩
theorem LyAt.below (h : LyAt w K l) (hb : Below w.heap.size w w') : LyAt w' K l := keep_block h hb
theorem LyAt.kept (h : LyAt w K l) (hk : Kept S w w') (hS : ¬ S K) : LyAt w' K l := (hk.block _ (lt_of_block h) hS).trans h
theorem LyAt.eq (h : LyAt w K l) (e : l = d) : LyAt w K d := e ▸ h
/-- a field is written -/
theorem LyAt.order (h : LyAt w K l) (x : Int) : LyAt (w.setCell ⟨K, 4, none⟩ (.int .i64 x)) K { l with order := x } := cells_set h 4 _
theorem LyAt.objs (h : LyAt w K l) (x : Int) : LyAt (w.setCell ⟨K, 5, none⟩ (.int .i64 x)) K { l with objs := x } := cells_set h 5 _
theorem LyAt.waste (h : LyAt w K l) (x : Int) : LyAt (w.setCell ⟨K, 6, none⟩ (.int .i64 x)) K { l with waste := x } := cells_set h 6 _
theorem LyAt.off (h : LyAt w K l) (x : Int) : LyAt (w.setCell ⟨K, 3, none⟩ (.int .i64 x)) K { l with off := x } := cells_set h 3 _
theorem LyAt.step (h : LyAt w K l) (x : Int) : LyAt (w.setCell ⟨K, 2, none⟩ (.int .i64 x)) K { l with step := x } := cells_set h 2 _
theorem LyAt.other (h : LyAt w K l) (hg : K ≠ g) (j : Nat) (u : Value) : LyAt (w.setCell ⟨g, j, none⟩ u) K l := (Below.heap_setCell w ⟨g, j, none⟩ u K hg).trans h
/-- what may change: a block that was not there -/
theorem below_one_kept (hb : Below W.heap.size W w) (h : Kept (· = g) w w') (hg : W.heap.size ≤ g) : Below W.heap.size W w' := below_kept hb h (by rintro k rfl; exact hg)
theorem wpList_storeL {ops : Array Oper} {rest : List Oper} {o : Oper} {a : Act} {Q : Exit → Act → World → Prop} (hgd : o.guard = none) (x y : Operand) (ho : o.op = .store 23 x y)
    (g : Nat) (l : Ly) (hx : a.eval x = .pointer (some ⟨g, 0, none⟩)) (hy : a.eval y = l.agg) (old : Array Value) (hg : w.heap[g]? = some (.cells old 23 (0, 0))) (hs : old.size = 7)
    (h : ∀ w', LyAt w' g l → Kept (· = g) w w' → wpList Try.prog ops Q rest (a.put o.dst undef) w') : wpList Try.prog ops Q (o :: rest) a w :=
  wpList_store_row hgd _ x y ho g l.arr hx hy _ old hg infoS hs (by simp [Value.oneCell']) (h _ (setRow_heap _ _ _ _ _ _ hg) ⟨rfl, rfl, rfl, by simp, fun k _ hn => setRow_other _ _ _ _ hn⟩)
theorem wpList_loadL {ops : Array Oper} {rest : List Oper} {o : Oper} {a : Act} {Q : Exit → Act → World → Prop} (hgd : o.guard = none) (x : Operand) (ho : o.op = .load 23 x)
    (g : Nat) (l : Ly) (hx : a.eval x = .pointer (some ⟨g, 0, none⟩)) (hg : LyAt w g l)
    (h : wpList Try.prog ops Q rest (a.put o.dst l.agg) w) : wpList Try.prog ops Q (o :: rest) a w := by
  obtain ⟨fs, hf⟩ := underL
  exact wpList_load_row hgd _ x ho g hx _ l.arr _ (.struct fs) hg hf rfl infoS h
/-! compared -/
theorem fieldsK : Try.prog.underlying 23 = some (.struct (Try.prog.fieldsOf 23)) := by kernel_rfl
theorem heldK : Try.prog.stoodInHeld 23 = false := by kernel_rfl
theorem guardK : Try.prog.eqGuardType Try.prog.depth 23 = false := by kernel_rfl
theorem fieldsOfK : Try.prog.fieldsOf 23 = #[⟨"Size", 3, 0, false, "", "", 0⟩, ⟨"Align", 3, 1, false, "", "", 8⟩, ⟨"Step", 3, 2, false, "", "", 16⟩, ⟨"Offset", 3, 3, false, "", "", 24⟩, ⟨"Order", 3, 4, false, "", "", 32⟩, ⟨"Objects", 3, 5, false, "", "", 40⟩, ⟨"Waste", 3, 6, false, "", "", 48⟩] := by kernel_rfl
theorem eqinK (w : World) (l d : Ly) : (Op.equalIn 10000 23 (.agg l.arr) (.agg d.arr)).run Try.prog w = .ok (decide (l = d)) w := by
  obtain ⟨a, b, c, e, f, g, h⟩ := l
  obtain ⟨a', b', c', e', f', g', h'⟩ := d
  rw [show (10000 : Nat) = 9999 + 1 from rfl, run_equalIn_agg _ _ _ _ _ fieldsK heldK, fieldsOfK]
  have e0 : ∀ x y w, (Op.equalIn 9999 3 (.int .i64 x) (.int .i64 y)).run Try.prog w = .ok (x == y) w := fun x y w => run_equalIn_int w 9998 3 .i64 .i64 x y Try.underlying3
  simp [Op.eqFields, go_sem, e0, part]
  by_cases h1 : a = a' <;> simp [h1]
  by_cases h2 : b = b' <;> simp [h2]
  by_cases h3 : c = c' <;> simp [h3]
  by_cases h4 : e = e' <;> simp [h4]
  by_cases h5 : f = f' <;> simp [h5]
  by_cases h6 : g = g' <;> simp [h6]
  by_cases h7 : h = h' <;> simp [h7]
end
end Go.Proofs.Ytghmopeaphandaa
