/-
  The tables that FrameKnown makes: all zero, one great block, the bad ones.
-/
import Derived.Test.YtdhjpoplgbcgjaaWorks
import Derived.Laws.MakeOwn
set_option linter.unusedVariables false
set_option linter.unusedSimpArgs false
namespace Go.Proofs.Ytdhjpoplgbcgjaa
open Go Go.RowKit

theorem pg_map (f : Nat → Pg) (n i : Nat) (h : i < n) : pg ((List.range n).map f) i = f i := by simp [pg, h]
theorem TabIs.showsF {w : World} {g n cap : Nat} {f : Nat → Pg} (t : TabIs w g n f) (hc : n ≤ cap ∧ cap ≤ maxLen) : ShowP w (.slice (some ⟨g, 0, none⟩) n cap) ((List.range n).map f) := by
  have e : ((List.range n).map f).length = n := by simp
  have t' : TabIs w g ((List.range n).map f).length (pg ((List.range n).map f)) := by
    rw [e]
    exact t.congr (fun i hi => (pg_map f n i hi).symm)
  have := t'.shows (cap := cap) (by rw [e]; exact hc)
  rw [e] at this
  exact this
/-- the first page's order is written -/
theorem TabIs.setOrder {w : World} {g n : Nat} {f : Nat → Pg} (t : TabIs w g n f) (x : Int) : TabIs (w.setCell ⟨g, 1, none⟩ (.int .i64 x)) g n (fun i => if i = 0 then ⟨(f i).kind, x, (f i).cache⟩ else f i) := by
  obtain ⟨c, hb, hc⟩ := t
  refine ⟨_, cells_set hb 1 _, fun i hi => ?_⟩
  obtain ⟨h0, h1, h2⟩ := hc i hi
  have s1 := (Array.getElem?_eq_some_iff.1 h1).1
  simp only [Array.getElem?_setIfInBounds]
  by_cases e : i = 0
  · subst e
    simp at h0 h1 h2 s1
    simp [s1, h0, h2]
  · simp [e, show ¬ 1 = i * 3 by omega, show ¬ 1 = i * 3 + 1 by omega, show ¬ 1 = i * 3 + 2 by omega, h0, h1, h2]
    intro h
    omega
theorem makeP (n : Nat) (hn : n ≤ 10000) : ∃ O : Obj, (∀ w : World, (Instr.makeSlice 22 (.int .i64 (n : Int)) (.int .i64 (n : Int))).run Try.prog w = .ok (.slice (some ⟨w.heap.size, 0, none⟩) n n) (w.alloc O)) ∧ ∀ w : World, TabIs (w.alloc O) w.heap.size n (fun _ => pz) := by
  obtain ⟨i0, hi, hz0, hz1, hz2⟩ := info_parts infoP
  refine ⟨.cells (madeCells (Value.agg #[.int .i64 0, .int .i64 0, .int .i64 0]).cells (n * 3)) 31, fun w => ?_, fun w => ⟨_, heap_new w _, fun i hi => ?_⟩⟩
  · have h := run_make (P := Try.prog) w 22 31 i0 _ Try.underlying22 hi hz0 .i64 .i64 (n : Int) (n : Int) (by omega) (Int.le_refl _) (by rw [hz2]; omega) (by omega)
    rw [hz1] at h
    simpa using h
  · have hsz : (Value.agg #[.int .i64 0, .int .i64 0, .int .i64 0]).cells.size = 3 := rfl
    have key : ∀ j, j < n * 3 → (madeCells (Value.agg #[.int .i64 0, .int .i64 0, .int .i64 0]).cells (n * 3))[j]? = some (.int .i64 0) := by
      intro j hj
      have h3 : j % 3 < 3 := Nat.mod_lt _ (by decide)
      simp only [madeCells, Array.getElem?_map, Array.getElem?_range, hj, if_true, Option.map_some, hsz]
      rcases (by omega : j % 3 = 0 ∨ j % 3 = 1 ∨ j % 3 = 2) with h | h | h <;> rw [h] <;> rfl
    exact ⟨key _ (by omega), key _ (by omega), key _ (by omega)⟩
/-! the great block -/
def bigF (k i : Nat) : Pg := if 1 ≤ i ∧ i < k then pin else pz
theorem bigF_start (i : Nat) : pz = bigF 1 i := by unfold bigF; rw [if_neg (by omega)]
theorem bigF_step (k i : Nat) (hk : 1 ≤ k) : (if i = k then (⟨1, (bigF k i).order, (bigF k i).cache⟩ : Pg) else bigF k i) = bigF (k + 1) i := by
  unfold bigF
  by_cases h : i = k
  · rw [if_pos h, if_neg (by omega), if_pos (by omega)]; rfl
  · rw [if_neg h]
    by_cases h1 : 1 ≤ i ∧ i < k
    · rw [if_pos h1, if_pos (by omega)]
    · rw [if_neg h1, if_neg (by omega)]
def bigG (i : Nat) : Pg := if i = 0 then ⟨0, 10, 0⟩ else bigF 1024 i
theorem bigG_is (i : Nat) : (if i = 0 then (⟨(bigF 1024 i).kind, 10, (bigF 1024 i).cache⟩ : Pg) else bigF 1024 i) = bigG i := by
  unfold bigG
  by_cases h : i = 0
  · subst h; rfl
  · rw [if_neg h, if_neg h]
def bigL : List Pg := (List.range 1024).map bigG
theorem bigL_length : bigL.length = 1024 := by simp [bigL]
theorem bigL_zero : pg bigL 0 = ⟨0, 10, 0⟩ := pg_map bigG 1024 0 (by decide)
theorem bigL_starts : Starts bigL 0 := by
  refine ⟨by rw [bigL_zero]; rfl, by simp, by rw [bigL_zero, bigL_length]; decide, fun j h1 h2 => ?_⟩
  rw [bigL_zero] at h2
  have h3 : j < 1024 := by simpa [Pg.sz] using h2
  show pg ((List.range 1024).map bigG) j = pin
  rw [pg_map bigG 1024 j h3]
  unfold bigG bigF
  rw [if_neg (by omega), if_pos (by omega)]
theorem bigL_sz : (pg bigL 0).sz = 1024 := by rw [bigL_zero]; decide
theorem bigL_valid : Valid bigL := by
  refine ⟨by rw [bigL_length]; decide, by rw [bigL_length]; decide, Good.step 0 (by rw [bigL_length]; decide) bigL_starts ?_⟩
  rw [bigL_sz, show 0 + 1024 = bigL.length by rw [bigL_length]]
  exact Good.done
theorem bigL_check : chkF bigL = 0 := chk_ok bigL_valid
theorem bigL_head : headF bigL 1023 = (0, 0) := by
  have h := head_in (page := 1023) bigL_valid (by rw [bigL_length]; decide)
  rw [beg_in bigL_starts (by omega) (by rw [bigL_sz]; omega)] at h
  exact h
theorem bigL_free : freeF bigL = 1024 := by
  rw [free_yes bigL_valid, bigL_length]
  have h := freeTo_block bigL_starts 1024 (by rw [bigL_sz]; exact Nat.le_refl _)
  rw [Nat.zero_add] at h
  rw [h, bigL_zero]
  rfl
/-! all zero -/
def zeros (n : Nat) : List Pg := (List.range n).map (fun _ => pz)
theorem zeros_length (n : Nat) : (zeros n).length = n := by simp [zeros]
theorem zeros_good (n k : Nat) (hk : k ≤ n) : Good (zeros n) (n - k) := by
  induction k with
  | zero => have := @Good.done (zeros n); rwa [zeros_length] at this
  | succ k ih =>
    have hp : pg (zeros n) (n - (k + 1)) = pz := pg_map (fun _ => pz) n _ (by omega)
    have hz : pz.sz = 1 := rfl
    refine Good.step _ (by rw [zeros_length]; omega) ⟨by rw [hp]; rfl, by rw [hp, hz]; exact Nat.mod_one _, by rw [hp, hz, zeros_length]; omega, fun j h1 h2 => ?_⟩ ?_
    · rw [hp, hz] at h2; omega
    · rw [hp, hz, show n - (k + 1) + 1 = n - k by omega]
      exact ih (by omega)
theorem zeros_check (n : Nat) (h1 : 1 ≤ n) (h2 : n ≤ 1024) : chkF (zeros n) = 0 := chk_ok ⟨by rw [zeros_length]; exact h1, by rw [zeros_length]; exact h2, by have := zeros_good n n (Nat.le_refl _); rwa [Nat.sub_self] at this⟩
theorem zeros_no (n : Nat) (h : 1024 < n) : chkF (zeros n) = 50 := chk_no (fun hv => by have := hv.2.1; rw [zeros_length] at this; omega)
theorem zeros_show {w : World} {g n : Nat} (t : TabIs w g n (fun _ => pz)) (hn : n ≤ 10000) : ShowP w (.slice (some ⟨g, 0, none⟩) n n) (zeros n) := t.showsF ⟨Nat.le_refl _, by unfold maxLen; omega⟩
def badL : List Pg := [⟨3, 0, 0⟩, ⟨-1, 0, 0⟩, ⟨0, 11, 0⟩, ⟨0, -1, 0⟩, ⟨0, 0, 1⟩, ⟨2, 0, 9⟩, ⟨2, 0, -1⟩, ⟨1, 0, 0⟩, ⟨0, 2, 0⟩, ⟨0, 3, 0⟩, ⟨2, 1, 8⟩]
end Go.Proofs.Ytdhjpoplgbcgjaa
