/-
  Lists of calls, four numbers each.
-/
import Derived.Test.YthjonjkeaiobdaaBase
set_option linter.unusedVariables false
set_option linter.unusedSimpArgs false
namespace Go.Proofs.Ythjonjkeaiobdaa
open Go Go.RowKit

structure Qd where
  kind : Int
  cpu : Int
  a : Int
  b : Int
  deriving Inhabited
def Qd.cells (x : Qd) : List Value := [.int .i64 x.kind, .int .i64 x.cpu, .int .i64 x.a, .int .i64 x.b]
def qz : Qd := ⟨0, 0, 0, 0⟩
def qd (l : List Qd) (i : Nat) : Qd := l.getD i qz
theorem qd_at (l : List Qd) (i : Nat) (h : i < l.length) : l[i] = qd l i := by simp [qd, h]
abbrev qds (l : List Qd) : List Value := l.flatMap Qd.cells
def ShowD (w : World) (v : Value) (l : List Qd) : Prop := Shows w v l.length 4 (qds l)
theorem qds_length (l : List Qd) : (qds l).length = l.length * 4 := by
  induction l with
  | nil => rfl
  | cons c r ih => simp only [qds, List.flatMap_cons, List.length_append, List.length_cons] at *; simp only [ih, Qd.cells, List.length_cons, List.length_nil]; omega
theorem qds_at (l : List Qd) (i j : Nat) (hi : i < l.length) (hj : j < 4) : (qds l)[i * 4 + j]? = some (l[i].cells[j]'(by simpa [Qd.cells] using hj)) := by
  induction l generalizing i with
  | nil => simp at hi
  | cons c r ih =>
    cases i with
    | zero =>
      simp only [qds, List.flatMap_cons, Nat.zero_mul, Nat.zero_add]
      rw [List.getElem?_append_left (by simpa [Qd.cells] using hj)]
      simp [Qd.cells, hj]
    | succ i =>
      simp only [qds, List.flatMap_cons]
      rw [List.getElem?_append_right (by simp [Qd.cells]; omega)]
      have := ih i (by simpa using hi)
      simp only [qds] at this
      have e : (i + 1) * 4 + j - c.cells.length = i * 4 + j := by simp [Qd.cells]; omega
      rw [e, this]
      simp
theorem ShowD.form {w : World} {v : Value} {l : List Qd} (h : ShowD w v l) : ∃ ao cap, v = .slice ao l.length cap ∧ (l.length ≤ cap ∧ cap ≤ 9223372036854775807) ∧
    ∀ i, i < l.length → ∃ b o, ao = some ⟨b, o, none⟩ ∧ w.cell? ⟨b, o + i * 4, none⟩ = some (.int .i64 (qd l i).kind) ∧ w.cell? ⟨b, o + i * 4 + 1, none⟩ = some (.int .i64 (qd l i).cpu) ∧ w.cell? ⟨b, o + i * 4 + 2, none⟩ = some (.int .i64 (qd l i).a) ∧ w.cell? ⟨b, o + i * 4 + 3, none⟩ = some (.int .i64 (qd l i).b) := by
  obtain ⟨hl, ao, cap, hv, hc, hs⟩ := h
  refine ⟨ao, cap, hv, by unfold maxLen at hc; omega, fun i hi => ?_⟩
  obtain ⟨b, o, ha, hx⟩ := hs (by omega)
  rw [← qd_at l i hi]
  refine ⟨b, o, ha, ?_, ?_, ?_, ?_⟩
  · have := hx (i * 4 + 0) (by omega); rw [qds_at l i 0 hi (by omega)] at this; exact this
  · have := hx (i * 4 + 1) (by omega); rw [qds_at l i 1 hi (by omega)] at this; exact this
  · have := hx (i * 4 + 2) (by omega); rw [qds_at l i 2 hi (by omega)] at this; exact this
  · have := hx (i * 4 + 3) (by omega); rw [qds_at l i 3 hi (by omega)] at this; exact this
theorem ShowD.below {w w' : World} {v : Value} {l : List Qd} (h : ShowD w v l) (hb : Below w.heap.size w w') : ShowD w' v l := Shows.below h hb
theorem ShowD.nil (w : World) : ShowD w (.slice none 0 0) [] := Shows.nil w 4
end Go.Proofs.Ythjonjkeaiobdaa
