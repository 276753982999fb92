/-
  Lists of calls, five numbers each.
-/
import Derived.Test.YtoffakamlpfgoaaBase
set_option linter.unusedVariables false
set_option linter.unusedSimpArgs false
namespace Go.Proofs.Ytoffakamlpfgoaa
open Go Go.RowKit

structure Qd where
  kind : Int
  slab : Int
  i : Int
  g : Int
  to : Int
  deriving Inhabited
def Qd.cells (x : Qd) : List Value := [.int .i64 x.kind, .int .i64 x.slab, .int .i64 x.i, .int .i64 x.g, .int .i64 x.to]
def qz : Qd := ⟨0, 0, 0, 0, 0⟩
def qd (l : List Qd) (i : Nat) : Qd := l.getD i qz
theorem qd_at (l : List Qd) (i : Nat) (h : i < l.length) : l[i] = qd l i := by simp [qd, h]
abbrev qds (l : List Qd) : List Value := l.flatMap Qd.cells
def ShowD (w : World) (v : Value) (l : List Qd) : Prop := Shows w v l.length 5 (qds l)
theorem qds_length (l : List Qd) : (qds l).length = l.length * 5 := by
  induction l with
  | nil => rfl
  | cons c r ih => simp only [qds, List.flatMap_cons, List.length_append, List.length_cons] at *; simp only [ih, Qd.cells, List.length_cons, List.length_nil]; omega
theorem qds_at (l : List Qd) (i j : Nat) (hi : i < l.length) (hj : j < 5) : (qds l)[i * 5 + j]? = some (l[i].cells[j]'(by simpa [Qd.cells] using hj)) := by
  induction l generalizing i with
  | nil => simp at hi
  | cons c r ih =>
    cases i with
    | zero =>
      simp only [qds, List.flatMap_cons, Nat.zero_mul, Nat.zero_add]
      rw [List.getElem?_append_left (by simpa [Qd.cells] using hj)]
      simp [Qd.cells, hj]
    | succ i =>
      simp only [qds, List.flatMap_cons]
      rw [List.getElem?_append_right (by simp [Qd.cells]; omega)]
      have := ih i (by simpa using hi)
      simp only [qds] at this
      have e : (i + 1) * 5 + j - c.cells.length = i * 5 + j := by simp [Qd.cells]; omega
      rw [e, this]
      simp
theorem ShowD.form {w : World} {v : Value} {l : List Qd} (h : ShowD w v l) : ∃ ao cap, v = .slice ao l.length cap ∧ (l.length ≤ cap ∧ cap ≤ 9223372036854775807) ∧
    ∀ i, i < l.length → ∃ b o, ao = some ⟨b, o, none⟩ ∧ w.cell? ⟨b, o + i * 5, none⟩ = some (.int .i64 (qd l i).kind) ∧ w.cell? ⟨b, o + i * 5 + 1, none⟩ = some (.int .i64 (qd l i).slab) ∧ w.cell? ⟨b, o + i * 5 + 2, none⟩ = some (.int .i64 (qd l i).i) ∧ w.cell? ⟨b, o + i * 5 + 3, none⟩ = some (.int .i64 (qd l i).g) ∧ w.cell? ⟨b, o + i * 5 + 4, none⟩ = some (.int .i64 (qd l i).to) := by
  obtain ⟨hl, ao, cap, hv, hc, hs⟩ := h
  refine ⟨ao, cap, hv, by unfold maxLen at hc; omega, fun i hi => ?_⟩
  obtain ⟨b, o, ha, hx⟩ := hs (by omega)
  rw [← qd_at l i hi]
  refine ⟨b, o, ha, ?_, ?_, ?_, ?_, ?_⟩
  · have := hx (i * 5 + 0) (by omega); rw [qds_at l i 0 hi (by omega)] at this; exact this
  · have := hx (i * 5 + 1) (by omega); rw [qds_at l i 1 hi (by omega)] at this; exact this
  · have := hx (i * 5 + 2) (by omega); rw [qds_at l i 2 hi (by omega)] at this; exact this
  · have := hx (i * 5 + 3) (by omega); rw [qds_at l i 3 hi (by omega)] at this; exact this
  · have := hx (i * 5 + 4) (by omega); rw [qds_at l i 4 hi (by omega)] at this; exact this
theorem ShowD.below {w w' : World} {v : Value} {l : List Qd} (h : ShowD w v l) (hb : Below w.heap.size w w') : ShowD w' v l := Shows.below h hb
theorem ShowD.nil (w : World) : ShowD w (.slice none 0 0) [] := Shows.nil w 5
theorem cBringM (x m : Int) (h : 1 ≤ m ∧ m ≤ 10000) (w : World) : Calls Try.prog 9 #[.int .i64 x, .int .i64 m] w fun e w' => e = .returned (.int .i64 (x % m)) ∧ w' = w := by
  obtain ⟨n, rfl⟩ : ∃ n : Nat, m = n := ⟨m.toNat, by omega⟩
  rw [← bring_int x n (by omega)]
  exact cBring x n w (by omega) (by omega)
end Go.Proofs.Ytoffakamlpfgoaa
