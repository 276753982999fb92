/-
  The rows that SegsKnown makes: 257 records; the bad ones.
-/
import Derived.Test.YtimaigeicidngaaTwice
import Derived.Laws.MakeOwn
set_option linter.unusedVariables false
set_option linter.unusedSimpArgs false
namespace Go.Proofs.Ytimaigeicidngaa
open Go Go.RowKit

/-- block g begins with n records, the i-th f i -/
def TabIs (w : World) (g n : Nat) (f : Nat → Wt) : Prop := ∃ c : Array Value, w.heap[g]? = some (.cells c 24 (0, 0)) ∧
  ∀ i, i < n → c[i * 2]? = some (.int .i64 (f i).who) ∧ c[i * 2 + 1]? = some (.int .i64 (f i).due)
section
variable {w w' : World} {g n : Nat} {f h : Nat → Wt}
theorem TabIs.frozen (t : TabIs w g n f) (j : Nat) : w.frozen? ⟨g, j, none⟩ = false := by
  obtain ⟨c, hb, _⟩ := t
  exact self_free hb j
theorem TabIs.cells (t : TabIs w g n f) {i : Nat} (hi : i < n) : w.cell? ⟨g, i * 2, none⟩ = some (.int .i64 (f i).who) ∧ w.cell? ⟨g, i * 2 + 1, none⟩ = some (.int .i64 (f i).due) := by
  obtain ⟨c, hb, hc⟩ := t
  obtain ⟨h0, h1⟩ := hc i hi
  exact ⟨self_cell hb _ _ h0, self_cell hb _ _ h1⟩
theorem TabIs.congr (t : TabIs w g n f) (e : ∀ i, i < n → f i = h i) : TabIs w g n h := by
  obtain ⟨c, hb, hc⟩ := t
  exact ⟨c, hb, fun i hi => by rw [← e i hi]; exact hc i hi⟩
/-- record k is written -/
theorem TabIs.set (t : TabIs w g n f) (k : Nat) (p : Wt) : TabIs ((w.setCell ⟨g, k * 2, none⟩ (.int .i64 p.who)).setCell ⟨g, k * 2 + 1, none⟩ (.int .i64 p.due)) g n (fun i => if i = k then p else f i) := by
  obtain ⟨c, hb, hc⟩ := t
  refine ⟨_, cells_set (cells_set hb (k * 2) _) (k * 2 + 1) _, fun i hi => ?_⟩
  obtain ⟨h0, h1⟩ := hc i hi
  have s0 := (Array.getElem?_eq_some_iff.1 h0).1
  have s1 := (Array.getElem?_eq_some_iff.1 h1).1
  simp only [Array.getElem?_setIfInBounds, Array.size_setIfInBounds]
  by_cases e : i = k
  · subst e
    simp [s0, s1]
  · simp [e, show ¬ k = i by omega, show ¬ k * 2 = i * 2 by omega, show ¬ k * 2 + 1 = i * 2 by omega, show ¬ k * 2 = i * 2 + 1 by omega, h0, h1]
theorem TabIs.shows {cap : Nat} {l : List Wt} (t : TabIs w g l.length (wt l)) (hc : l.length ≤ cap ∧ cap ≤ maxLen) : ShowW w (.slice (some ⟨g, 0, none⟩) l.length cap) l := by
  refine ⟨wts_length l, _, cap, rfl, hc, fun _ => ⟨g, 0, rfl, fun j hj => ?_⟩⟩
  obtain ⟨q, r, rfl, hr⟩ : ∃ q r, j = q * 2 + r ∧ r < 2 := ⟨j / 2, j % 2, by omega, by omega⟩
  have hq : q < l.length := by omega
  rw [wts_at l q r hq hr, Nat.zero_add]
  obtain ⟨c0, c1⟩ := t.cells hq
  match r, hr with
  | 0, _ => rw [Nat.add_zero, c0]; simp only [wt_at l q hq, Wt.cells, List.getElem_cons_zero]
  | 1, _ => rw [c1]; simp only [wt_at l q hq, Wt.cells, List.getElem_cons_succ, List.getElem_cons_zero]
theorem wt_map (f : Nat → Wt) (n i : Nat) (h : i < n) : wt ((List.range n).map f) i = f i := by simp [wt, h]
theorem TabIs.showsF {cap : Nat} (t : TabIs w g n f) (hc : n ≤ cap ∧ cap ≤ maxLen) : ShowW w (.slice (some ⟨g, 0, none⟩) n cap) ((List.range n).map f) := by
  have e : ((List.range n).map f).length = n := by simp
  have t' : TabIs w g ((List.range n).map f).length (wt ((List.range n).map f)) := by
    rw [e]
    exact t.congr (fun i hi => (wt_map f n i hi).symm)
  have := t'.shows (cap := cap) (by rw [e]; exact hc)
  rw [e] at this
  exact this
end
theorem makeW (n : Nat) (hn : n ≤ 10000) : ∃ O : Obj, (∀ w : World, (Instr.makeSlice 22 (.int .i64 (n : Int)) (.int .i64 (n : Int))).run Try.prog w = .ok (.slice (some ⟨w.heap.size, 0, none⟩) n n) (w.alloc O)) ∧ ∀ w : World, TabIs (w.alloc O) w.heap.size n (fun _ => ⟨0, 0⟩) := by
  obtain ⟨i0, hi, hz0, hz1, hz2⟩ := info_parts infoW
  refine ⟨.cells (madeCells (Value.agg #[.int .i64 0, .int .i64 0]).cells (n * 2)) 24, fun w => ?_, fun w => ⟨_, heap_new w _, fun i hi => ?_⟩⟩
  · have h := run_make (P := Try.prog) w 22 24 i0 _ Try.underlying22 hi hz0 .i64 .i64 (n : Int) (n : Int) (by omega) (Int.le_refl _) (by rw [hz2]; omega) (by omega)
    rw [hz1] at h
    simpa using h
  · have hsz : (Value.agg #[.int .i64 0, .int .i64 0]).cells.size = 2 := rfl
    have key : ∀ j, j < n * 2 → (madeCells (Value.agg #[.int .i64 0, .int .i64 0]).cells (n * 2))[j]? = some (.int .i64 0) := by
      intro j hj
      have h3 : j % 2 < 2 := Nat.mod_lt _ (by decide)
      simp only [madeCells, Array.getElem?_map, Array.getElem?_range, hj, if_true, Option.map_some, hsz]
      rcases (by omega : j % 2 = 0 ∨ j % 2 = 1) with h | h <;> rw [h] <;> rfl
    exact ⟨key _ (by omega), key _ (by omega)⟩
def bigG (i : Nat) : Wt := ⟨(i : Int), 1 + ((i / 50 : Nat) : Int)⟩
/-- the first k have been written -/
def bigF (k i : Nat) : Wt := if i < k then bigG i else ⟨0, 0⟩
theorem bigF_start (i : Nat) : (⟨0, 0⟩ : Wt) = bigF 0 i := by unfold bigF; rw [if_neg (by omega)]
theorem bigF_step (k i : Nat) : (if i = k then bigG k else bigF k i) = bigF (k + 1) i := by
  unfold bigF
  by_cases h : i = k
  · subst h; rw [if_pos rfl, if_pos (by omega)]
  · rw [if_neg h]
    by_cases h1 : i < k
    · rw [if_pos h1, if_pos (by omega)]
    · rw [if_neg h1, if_neg (by omega)]
theorem bigF_all (i : Nat) (h : i < 257) : bigF 257 i = bigG i := by unfold bigF; rw [if_pos h]
def bigL : List Wt := (List.range 257).map bigG
theorem bigL_length : bigL.length = 257 := by simp [bigL]
theorem bigL_check : chkF bigL = 5 := chk_big (by rw [bigL_length]; decide)
theorem bigT_check : chkF (bigL.take 256) = 0 := chk_ok (by rw [List.length_take, bigL_length]; decide) (by kernel_rfl)
def badL : List Wt := [⟨0, 0⟩, ⟨0, -1⟩, ⟨-1, 1⟩, ⟨9007199254740992, 1⟩, ⟨1, 9007199254740992⟩, ⟨9007199254740991, 9007199254740991⟩]
end Go.Proofs.Ytimaigeicidngaa
