/-
  A chart in a world.
-/
import Derived.Test.YtnnfmlbgoplnaaaPure
import Derived.Deep.RegionWith
import Derived.Deep.Cut
import Derived.Deep.CutRange
set_option linter.unusedVariables false
set_option linter.unusedSimpArgs false
namespace Go.Proofs.Ytnnfmlbgoplnaaa
open Go Go.RowKit

abbrev ChAt (w : World) (K : Nat) (c : Ch) : Prop := w.heap[K]? = some (.cells c.arr 24 (0, 0))
abbrev chO (c : Ch) : Obj := .cells c.arr 24
theorem infoCh : (Try.prog.info? 24).map (·.size) = some 6 := by kernel_rfl
theorem underCh : ∃ fs, Try.prog.underlying 24 = some (.struct fs) := ⟨Try.prog.fieldsOf 24, by kernel_rfl⟩
section
variable {w w' W : World} {K g : Nat} {c d : Ch} {S : Nat → Prop}
theorem ChAt.lt (h : ChAt w K c) : K < w.heap.size := lt_of_block h
theorem ChAt.cells (h : ChAt w K c) : w.cell? ⟨K, 0, none⟩ = some (.int .i64 c.cpus) ∧ w.cell? ⟨K, 1, none⟩ = some (.int .i64 c.slabs) ∧ w.cell? ⟨K, 2, none⟩ = some (.int .i64 c.objs) ∧
    w.cell? ⟨K, 3, none⟩ = some (.int .i64 c.min) ∧ w.cell? ⟨K, 4, none⟩ = some (.int .i64 c.cap) ∧ w.cell? ⟨K, 5, none⟩ = some (.int .u64 c.key) :=
  ⟨self_cell h 0 _ rfl, self_cell h 1 _ rfl, self_cell h 2 _ rfl, self_cell h 3 _ rfl, self_cell h 4 _ rfl, self_cell h 5 _ rfl⟩
theorem ChAt.below (h : ChAt w K c) (hb : Below w.heap.size w w') : ChAt w' K c := keep_block h hb
theorem ch_new (w : World) (c : Ch) : ChAt (w.alloc (chO c)) w.heap.size c := heap_new _ _
/-- a chart at a block, in a world above another one -/
structure One (W : World) (i : Nat) (c : Ch) (w : World) : Prop where
  at1 : ChAt w i c
  low : Below W.heap.size W w
theorem One.next {i : Nat} (h : One W i c w) (hb : Below w.heap.size w w') : One W i c w' := ⟨h.at1.below hb, below_then h.low hb⟩
theorem One.drew {i : Nat} (h : One W i c w) : One W i c w.drew := ⟨h.at1, ⟨h.low.os, h.low.tape, h.low.output, h.low.size, h.low.block⟩⟩
theorem one_new (w : World) (c : Ch) : One w w.heap.size c (w.alloc (chO c)) := ⟨ch_new _ _, below_one (Below.refl _ _) _⟩
/-- the cells, and the rest -/
theorem One.six {i : Nat} (h : One W i c w) : w.cell? ⟨i, 0, none⟩ = some (.int .i64 c.cpus) ∧ w.cell? ⟨i, 1, none⟩ = some (.int .i64 c.slabs) ∧ w.cell? ⟨i, 2, none⟩ = some (.int .i64 c.objs) ∧
    w.cell? ⟨i, 3, none⟩ = some (.int .i64 c.min) ∧ w.cell? ⟨i, 4, none⟩ = some (.int .i64 c.cap) ∧ w.cell? ⟨i, 5, none⟩ = some (.int .u64 c.key) ∧ One W i c w :=
  ⟨h.at1.cells.1, h.at1.cells.2.1, h.at1.cells.2.2.1, h.at1.cells.2.2.2.1, h.at1.cells.2.2.2.2.1, h.at1.cells.2.2.2.2.2, h⟩
end
theorem in_one {x : Int} (h : okI x) {n : Int} (h1 : 0 ≤ n) (h2 : n ≤ 1000) : inB (wrap64 (x - 1)) n = decide (1 ≤ x ∧ x ≤ n) := by
  unfold inB wrap64
  rw [decide_eq_decide]
  obtain ⟨ha, hb⟩ := h
  omega
theorem w64 (x : Int) : IntKind.i64.wrap x = wrap64 x := by rw [IntKind.wrap_i64]; unfold wrap64; omega
theorem at_same {c : Ch} {b : Bool} {p q : Int} (h : c.ok → b = true → p = q) : c.at b p = c.at b q := by
  unfold Ch.at
  by_cases e : c.ok ∧ b = true
  · rw [if_pos e, if_pos e, h e.1 e.2]
  · rw [if_neg e, if_neg e]
end Go.Proofs.Ytnnfmlbgoplnaaa
