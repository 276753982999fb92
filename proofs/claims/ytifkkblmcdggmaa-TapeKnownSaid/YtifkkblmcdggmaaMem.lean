/-
  What a slice, a script, bytes show in a world; how that stays.
-/
import Derived.Test.YtifkkblmcdggmaaRows
import Derived.WalkKit
import Derived.ProofKit
import Derived.OpenShut
import Derived.Below
import Derived.Outline
import Derived.Lib.Hide
import Derived.Laws.Rows
import Derived.WalkLawsBesides
import Derived.OwnWalk
import Derived.Laws.OwnMore
import Derived.Laws.AppendOwn
import Derived.Deep.QuietTactic
import Derived.BigQuiet
import Derived.WalkSmall
import Derived.BigCall
import Derived.Deep.RegionHeld3
import Derived.Deep.Slices
set_option linter.unusedVariables false
set_option linter.unusedSimpArgs false
namespace Go.Proofs.Ytifkkblmcdggmaa
open Go Go.RowKit

/-- A slice of n elements of k cells each shows these cells. -/
def Shows (w : World) (v : Value) (n k : Nat) (xs : List Value) : Prop :=
  xs.length = n * k ∧ ∃ ao cap, v = .slice ao n cap ∧ (n ≤ cap ∧ cap ≤ maxLen) ∧ (0 < n → ∃ b o, ao = some ⟨b, o, none⟩ ∧ ∀ j, j < n * k → w.cell? ⟨b, o + j, none⟩ = xs[j]?)

theorem Shows.nil (w : World) (k : Nat) : Shows w (.slice none 0 0) 0 k [] := ⟨by simp, none, 0, rfl, ⟨Nat.le_refl _, Nat.zero_le _⟩, fun h => absurd h (Nat.lt_irrefl _)⟩

theorem Shows.keeps {w w' : World} {v : Value} {n k : Nat} {xs : List Value} (h : Shows w v n k xs) (hk : ∀ p u, w.cell? p = some u → w'.cell? p = some u) : Shows w' v n k xs := by
  obtain ⟨hl, ao, cap, hv, hc, hs⟩ := h
  refine ⟨hl, ao, cap, hv, hc, fun hn => ?_⟩
  obtain ⟨b, o, ha, hx⟩ := hs hn
  refine ⟨b, o, ha, fun j hj => ?_⟩
  have h1 := hx j hj
  have h2 : xs[j]? = some (xs[j]'(by omega)) := List.getElem?_eq_getElem (by omega)
  rw [h2] at h1
  rw [h2, hk _ _ h1]

theorem Shows.below {w w' : World} {v : Value} {n k : Nat} {xs : List Value} (h : Shows w v n k xs) (hb : Below w.heap.size w w') : Shows w' v n k xs :=
  h.keeps fun p u hp => by rw [hb.cell (World.block_lt_of_cell? w p hp), hp]

theorem Shows.ofOwns {w : World} {B n k : Nat} {e : TypeId} {v : Value} {xs : List Value} (h : w.ownsRow B e k v n xs) : Shows w v n k xs := by
  refine ⟨h.1, ?_⟩
  rcases h.2 with ⟨rfl, rfl⟩ | ⟨g, cap, cur, rfl, hb, hg, hc, hm, _⟩
  · exact ⟨none, 0, rfl, ⟨Nat.le_refl _, Nat.zero_le _⟩, fun h => absurd h (Nat.lt_irrefl _)⟩
  · refine ⟨_, cap, rfl, ⟨hc, hm⟩, fun hn => ⟨g, 0, rfl, fun j hj => ?_⟩⟩
    rw [Nat.zero_add]
    exact h.cellAt j hj

/-- A call, as its four numbers. -/
structure Cl where
  op : Int
  a : Int
  b : Int
  c : Int
  deriving DecidableEq, Inhabited
def Cl.cells (c : Cl) : List Value := [.int .i64 c.op, .int .i64 c.a, .int .i64 c.b, .int .i64 c.c]
def Cl.agg (c : Cl) : Value := .agg #[.int .i64 c.op, .int .i64 c.a, .int .i64 c.b, .int .i64 c.c]
/-- A script. -/
structure Scr where
  cpus : Int
  pages : Int
  calls : List (List Cl)
  picks : List Int
  deriving DecidableEq, Inhabited

abbrev ints (l : List Int) : List Value := l.map (Value.int .i64)
abbrev bytes (l : List Int) : List Value := l.map (Value.int .u8)
abbrev calls (l : List Cl) : List Value := l.flatMap Cl.cells

def ShowInts (w : World) (v : Value) (l : List Int) : Prop := Shows w v l.length 1 (ints l)
def ShowBytes (w : World) (v : Value) (l : List Int) : Prop := Shows w v l.length 1 (bytes l)
def ShowCalls (w : World) (v : Value) (l : List Cl) : Prop := Shows w v l.length 4 (calls l)
def ShowLists (w : World) (v : Value) (L : List (List Cl)) : Prop := ∃ vs : List Value, vs.length = L.length ∧ Shows w v L.length 1 vs ∧ ∀ i (h : i < L.length) (h' : i < vs.length), ShowCalls w vs[i] L[i]
def ShowScr (w : World) (v : Value) (S : Scr) : Prop := ∃ vc vp, v = .agg #[.int .i64 S.cpus, .int .i64 S.pages, vc, vp] ∧ ShowLists w vc S.calls ∧ ShowInts w vp S.picks

theorem calls_length (l : List Cl) : (calls l).length = l.length * 4 := by
  induction l with
  | nil => rfl
  | cons c r ih => simp only [calls, List.flatMap_cons, List.length_append, List.length_cons] at *; simp only [ih, Cl.cells, List.length_cons, List.length_nil]; omega
theorem calls_at (l : List Cl) (i j : Nat) (hi : i < l.length) (hj : j < 4) : (calls l)[i * 4 + j]? = some (l[i].cells[j]'(by simpa [Cl.cells] using hj)) := by
  induction l generalizing i with
  | nil => simp at hi
  | cons c r ih =>
    cases i with
    | zero =>
      simp only [calls, List.flatMap_cons, Nat.zero_mul, Nat.zero_add]
      rw [List.getElem?_append_left (by simpa [Cl.cells] using hj)]
      simp [Cl.cells, hj]
    | succ i =>
      simp only [calls, List.flatMap_cons]
      rw [List.getElem?_append_right (by simp [Cl.cells]; omega)]
      have := ih i (by simpa using hi)
      simp only [calls] at this
      have e : (i + 1) * 4 + j - c.cells.length = i * 4 + j := by simp [Cl.cells]; omega
      rw [e, this]
      simp

/-- What is read of a slice of calls: its head, and each call's four cells. -/
theorem ShowCalls.form {w : World} {v : Value} {l : List Cl} (h : ShowCalls w v l) : ∃ ao cap, v = .slice ao l.length cap ∧ (l.length ≤ cap ∧ cap ≤ 9223372036854775807) ∧
    ∀ i (hi : i < l.length), ∃ b o, ao = some ⟨b, o, none⟩ ∧ w.cell? ⟨b, o + i * 4, none⟩ = some (.int .i64 l[i].op) ∧ w.cell? ⟨b, o + i * 4 + 1, none⟩ = some (.int .i64 l[i].a) ∧ w.cell? ⟨b, o + i * 4 + 2, none⟩ = some (.int .i64 l[i].b) ∧ w.cell? ⟨b, o + i * 4 + 3, none⟩ = some (.int .i64 l[i].c) := by
  obtain ⟨hl, ao, cap, hv, hc, hs⟩ := h
  refine ⟨ao, cap, hv, by unfold maxLen at hc; omega, fun i hi => ?_⟩
  obtain ⟨b, o, ha, hx⟩ := hs (by omega)
  refine ⟨b, o, ha, ?_, ?_, ?_, ?_⟩
  · have := hx (i * 4 + 0) (by omega); rw [calls_at l i 0 hi (by omega)] at this; exact this
  · have := hx (i * 4 + 1) (by omega); rw [calls_at l i 1 hi (by omega)] at this; exact this
  · have := hx (i * 4 + 2) (by omega); rw [calls_at l i 2 hi (by omega)] at this; exact this
  · have := hx (i * 4 + 3) (by omega); rw [calls_at l i 3 hi (by omega)] at this; exact this
theorem ShowInts.form {w : World} {v : Value} {l : List Int} (h : ShowInts w v l) : ∃ ao cap, v = .slice ao l.length cap ∧ (l.length ≤ cap ∧ cap ≤ 9223372036854775807) ∧ ∀ i (hi : i < l.length), ∃ b o, ao = some ⟨b, o, none⟩ ∧ w.cell? ⟨b, o + i, none⟩ = some (.int .i64 l[i]) := by
  obtain ⟨hl, ao, cap, hv, hc, hs⟩ := h
  refine ⟨ao, cap, hv, by unfold maxLen at hc; omega, fun i hi => ?_⟩
  obtain ⟨b, o, ha, hx⟩ := hs (by omega)
  refine ⟨b, o, ha, ?_⟩
  have := hx i (by omega)
  simpa [hi] using this
theorem ShowBytes.form {w : World} {v : Value} {l : List Int} (h : ShowBytes w v l) : ∃ ao cap, v = .slice ao l.length cap ∧ (l.length ≤ cap ∧ cap ≤ 9223372036854775807) ∧ ∀ i (hi : i < l.length), ∃ b o, ao = some ⟨b, o, none⟩ ∧ w.cell? ⟨b, o + i, none⟩ = some (.int .u8 l[i]) := by
  obtain ⟨hl, ao, cap, hv, hc, hs⟩ := h
  refine ⟨ao, cap, hv, by unfold maxLen at hc; omega, fun i hi => ?_⟩
  obtain ⟨b, o, ha, hx⟩ := hs (by omega)
  refine ⟨b, o, ha, ?_⟩
  have := hx i (by omega)
  simpa [hi] using this
theorem ShowLists.form {w : World} {v : Value} {L : List (List Cl)} (h : ShowLists w v L) : ∃ ao cap, v = .slice ao L.length cap ∧ (L.length ≤ cap ∧ cap ≤ 9223372036854775807) ∧ ∀ i (hi : i < L.length), ∃ b o u, ao = some ⟨b, o, none⟩ ∧ w.cell? ⟨b, o + i, none⟩ = some u ∧ ShowCalls w u L[i] := by
  obtain ⟨vs, hvl, ⟨hl, ao, cap, hv, hc, hs⟩, hall⟩ := h
  refine ⟨ao, cap, hv, by unfold maxLen at hc; omega, fun i hi => ?_⟩
  obtain ⟨b, o, ha, hx⟩ := hs (by omega)
  have := hx i (by omega)
  rw [List.getElem?_eq_getElem (by omega)] at this
  exact ⟨b, o, _, ha, this, hall i hi (by omega)⟩
theorem ShowCalls.below {w w' : World} {v : Value} {l : List Cl} (h : ShowCalls w v l) (hb : Below w.heap.size w w') : ShowCalls w' v l := Shows.below h hb
theorem ShowInts.below {w w' : World} {v : Value} {l : List Int} (h : ShowInts w v l) (hb : Below w.heap.size w w') : ShowInts w' v l := Shows.below h hb
theorem ShowBytes.below {w w' : World} {v : Value} {l : List Int} (h : ShowBytes w v l) (hb : Below w.heap.size w w') : ShowBytes w' v l := Shows.below h hb
theorem ShowLists.below {w w' : World} {v : Value} {L : List (List Cl)} (h : ShowLists w v L) (hb : Below w.heap.size w w') : ShowLists w' v L := by
  obtain ⟨vs, hvl, hs, hall⟩ := h
  exact ⟨vs, hvl, hs.below hb, fun i hi hi' => (hall i hi hi').below hb⟩
theorem ShowScr.below {w w' : World} {v : Value} {S : Scr} (h : ShowScr w v S) (hb : Below w.heap.size w w') : ShowScr w' v S := by
  obtain ⟨vc, vp, hv, h1, h2⟩ := h
  exact ⟨vc, vp, hv, h1.below hb, h2.below hb⟩
theorem grown_of_below {w w' : World} {row : Option Nat} (h : Below w.heap.size w w') : w.grownBy w' row := ⟨h.os, h.tape, h.output, h.size, fun k hk _ => h.block k hk⟩
theorem ret_int {a b : Int} (h : a = b) : Ending.returned (.int .i64 a) = .returned (.int .i64 b) := by rw [h]
theorem ret_bool {a b : Bool} (h : a = b) : Ending.returned (.bool a) = .returned (.bool b) := by rw [h]
end Go.Proofs.Ytifkkblmcdggmaa
