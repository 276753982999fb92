/-
  TapeKnown's largest script, as it is made cell by cell.
-/
import Derived.Test.YtifkkblmcdggmaaReg11b
import Derived.Deep.OwnRows
set_option linter.unusedVariables false
set_option linter.unusedSimpArgs false
namespace Go.Proofs.Ytifkkblmcdggmaa
open Go Go.RowKit

def selfF (gc gp : Nat) : Nat → Value
  | 0 => .int .i64 8
  | 1 => .int .i64 1024
  | 2 => .slice (some ⟨gc, 0, none⟩) 8 8
  | _ => .slice (some ⟨gp, 0, none⟩) 4096 4096
def RowAt (W w : World) (g gc gp : Nat) (v : Value) : Prop := ∃ (b : Nat) (H : Nat → Int), v = .slice (some ⟨b, 0, none⟩) 64 64 ∧ w.rowIs b 44 256 (fun j => .int .i64 (H j)) ∧ b ≠ g ∧ b ≠ gc ∧ b ≠ gp ∧ W.heap.size ≤ b
structure Full (W w : World) (g gc gp m : Nat) : Prop where
  self : w.rowIs g 25 4 (selfF gc gp)
  rows : ∃ F : Nat → Value, w.rowIs gc 42 8 F ∧ ∀ i, i < m → RowAt W w g gc gp (F i)
  picks : ∃ G : Nat → Int, w.rowIs gp 3 4096 (fun j => .int .i64 (G j))
  ne : g ≠ gc ∧ g ≠ gp ∧ gc ≠ gp
  le : W.heap.size ≤ g ∧ W.heap.size ≤ gc ∧ W.heap.size ≤ gp
  below : Below W.heap.size W w
variable {W w : World} {g gc gp m : Nat}
theorem RowAt.map {W w w' : World} {g gc gp : Nat} {v : Value} (h : RowAt W w g gc gp v) (k : ∀ (b : Nat) (H : Nat → Int), w.rowIs b 44 256 (fun j => .int .i64 (H j)) → b ≠ g → b ≠ gc → b ≠ gp → ∃ H' : Nat → Int, w'.rowIs b 44 256 (fun j => .int .i64 (H' j))) : RowAt W w' g gc gp v := by
  obtain ⟨b, H, h1, h2, h3, h4, h5, h6⟩ := h
  obtain ⟨H', h'⟩ := k b H h2 h3 h4 h5
  exact ⟨b, H', h1, h', h3, h4, h5, h6⟩
theorem Full.drew (h : Full W w g gc gp m) : Full W w.drew g gc gp m := by
  obtain ⟨F, f1, f2⟩ := h.rows
  exact ⟨h.self.drew, ⟨F, f1.drew, fun i hi => (f2 i hi).map fun b H hb _ _ _ => ⟨H, hb⟩⟩, h.picks, h.ne, h.le, h.below.drew⟩
theorem Full.alloc (h : Full W w g gc gp m) (o : Obj) : Full W (w.alloc o) g gc gp m := by
  obtain ⟨F, f1, f2⟩ := h.rows
  obtain ⟨G, g1⟩ := h.picks
  exact ⟨h.self.alloc o, ⟨F, f1.alloc o, fun i hi => (f2 i hi).map fun b H hb _ _ _ => ⟨H, hb.alloc o⟩⟩, ⟨G, g1.alloc o⟩, h.ne, h.le, below_one h.below o⟩
theorem Full.pick (h : Full W w g gc gp m) (j : Nat) (n : Int) : Full W (w.setCell ⟨gp, j, none⟩ (.int .i64 n)) g gc gp m := by
  obtain ⟨F, f1, f2⟩ := h.rows
  obtain ⟨G, g1⟩ := h.picks
  refine ⟨h.self.setOther h.ne.2.1 _, ⟨F, f1.setOther h.ne.2.2 _, fun i hi => (f2 i hi).map fun b H hb _ _ hp => ⟨H, hb.setOther hp _⟩⟩, ⟨fun i => if i = j then n else G i, (g1.set j _).congr fun i _ => ?_⟩, h.ne, h.le, h.below.setCell h.le.2.2 _⟩
  by_cases e : i = j <;> simp [e]
theorem Full.cell (h : Full W w g gc gp m) {v : Value} (hv : RowAt W w g gc gp v) {b j : Nat} (e : v = .slice (some ⟨b, 0, none⟩) 64 64) (n : Int) : Full W (w.setCell ⟨b, j, none⟩ (.int .i64 n)) g gc gp m := by
  obtain ⟨F, f1, f2⟩ := h.rows
  obtain ⟨G, g1⟩ := h.picks
  obtain ⟨b', H, e', _, n1, n2, n3, n4⟩ := hv
  have eb : b' = b := by
    have := e'.symm.trans e
    simpa using this
  subst eb
  refine ⟨h.self.setOther (Ne.symm n1) _, ⟨F, f1.setOther (Ne.symm n2) _, fun i hi => (f2 i hi).map fun b H hb _ _ hp => ?_⟩, ⟨G, g1.setOther (Ne.symm n3) _⟩, h.ne, h.le, h.below.setCell n4 _⟩
  by_cases q : b = b'
  · subst q
    refine ⟨fun i => if i = j then n else H i, (hb.set j _).congr fun i _ => ?_⟩
    by_cases e : i = j <;> simp [e]
  · exact ⟨H, hb.setOther q _⟩
theorem Full.row (h : Full W w g gc gp m) {v : Value} (hv : RowAt W w g gc gp v) : Full W (w.setCell ⟨gc, m, none⟩ v) g gc gp (m + 1) := by
  obtain ⟨F, f1, f2⟩ := h.rows
  obtain ⟨G, g1⟩ := h.picks
  have hk : ∀ u, RowAt W w g gc gp u → RowAt W (w.setCell ⟨gc, m, none⟩ v) g gc gp u := fun u hu => hu.map fun b H hb _ hc _ => ⟨H, hb.setOther hc _⟩
  refine ⟨h.self.setOther h.ne.1 _, ⟨fun i => if i = m then v else F i, f1.set m v, fun i hi => ?_⟩, ⟨G, g1.setOther (Ne.symm h.ne.2.2) _⟩, h.ne, h.le, h.below.setCell h.le.2.1 _⟩
  by_cases e : i = m
  · simp only [e, if_true]
    exact hk _ hv
  · simp only [e, if_false]
    exact hk _ (f2 i (by omega))
theorem Full.cells (h : Full W w g gc gp m) : w.cell? ⟨g, 0, none⟩ = some (.int .i64 8) ∧ w.cell? ⟨g, 1, none⟩ = some (.int .i64 1024) ∧ w.cell? ⟨g, 2, none⟩ = some (.slice (some ⟨gc, 0, none⟩) 8 8) ∧ w.cell? ⟨g, 3, none⟩ = some (.slice (some ⟨gp, 0, none⟩) 4096 4096) :=
  ⟨h.self.cell (by decide), h.self.cell (by decide), h.self.cell (by decide), h.self.cell (by decide)⟩
theorem Full.open (h : Full W w g gc gp m) : (∀ i, i < 8 → ∃ u, w.cell? ⟨gc, i, none⟩ = some u ∧ w.frozen? ⟨gc, i, none⟩ = false) ∧ ∀ i, i < 4096 → ∃ u, w.cell? ⟨gp, i, none⟩ = some u ∧ w.frozen? ⟨gp, i, none⟩ = false := by
  obtain ⟨F, f1, f2⟩ := h.rows
  obtain ⟨G, g1⟩ := h.picks
  exact ⟨fun i hi => ⟨_, f1.cell hi, f1.frozen i⟩, fun i hi => ⟨_, g1.cell hi, g1.frozen i⟩⟩
theorem Full.last (h : Full W w g gc gp 8) : ∃ b, w.cell? ⟨gc, 7, none⟩ = some (.slice (some ⟨b, 0, none⟩) 64 64) ∧ RowAt W w g gc gp (.slice (some ⟨b, 0, none⟩) 64 64) ∧ b ≠ gp ∧ b ≠ g ∧ ∀ i, i < 256 → ∃ u, w.cell? ⟨b, i, none⟩ = some u ∧ w.frozen? ⟨b, i, none⟩ = false := by
  obtain ⟨F, f1, f2⟩ := h.rows
  obtain ⟨b, H, e, hb, n1, n2, n3, n4⟩ := f2 7 (by decide)
  have hc := f1.cell (i := 7) (by decide)
  rw [e] at hc
  exact ⟨b, hc, ⟨b, H, rfl, hb, n1, n2, n3, n4⟩, n3, n1, fun i hi => ⟨_, hb.cell hi, hb.frozen i⟩⟩
theorem Full.new (h : Full W w g gc gp m) {OC : Obj} (hr : (w.alloc OC).rowIs w.heap.size 44 256 (fun _ => .int .i64 0)) : Full W ((w.alloc OC).setCell ⟨gc, m, none⟩ (.slice (some ⟨w.heap.size, 0, none⟩) 64 64)) g gc gp (m + 1) := by
  have h1 := h.self.lt
  obtain ⟨F, f1, f2⟩ := h.rows
  obtain ⟨G, g1⟩ := h.picks
  have h2 := f1.lt
  have h3 := g1.lt
  have h4 := h.below.size
  exact (h.alloc OC).row ⟨w.heap.size, fun _ => 0, rfl, hr, by omega, by omega, by omega, by omega⟩
theorem Full.cell2 (h : Full W w g gc gp m) {b : Nat} (hv : RowAt W w g gc gp (.slice (some ⟨b, 0, none⟩) 64 64)) (j : Nat) (n : Int) : Full W (w.setCell ⟨b, j, none⟩ (.int .i64 n)) g gc gp m ∧ RowAt W (w.setCell ⟨b, j, none⟩ (.int .i64 n)) g gc gp (.slice (some ⟨b, 0, none⟩) 64 64) := by
  refine ⟨h.cell hv rfl n, hv.map fun b' H hb _ _ _ => ?_⟩
  by_cases q : b' = b
  · subst q
    refine ⟨fun i => if i = j then n else H i, (hb.set j _).congr fun i _ => ?_⟩
    by_cases e : i = j <;> simp [e]
  · exact ⟨H, hb.setOther q _⟩
theorem Full.call (h : Full W w g gc gp m) {b : Nat} (hv : RowAt W w g gc gp (.slice (some ⟨b, 0, none⟩) 64 64)) (j0 j1 j2 j3 : Nat) (n0 n1 n2 n3 : Int) : Full W ((((w.setCell ⟨b, j0, none⟩ (.int .i64 n0)).setCell ⟨b, j1, none⟩ (.int .i64 n1)).setCell ⟨b, j2, none⟩ (.int .i64 n2)).setCell ⟨b, j3, none⟩ (.int .i64 n3)) g gc gp m := by
  obtain ⟨h1, v1⟩ := h.cell2 hv j0 n0
  obtain ⟨h2, v2⟩ := h1.cell2 v1 j1 n1
  obtain ⟨h3, v3⟩ := h2.cell2 v2 j2 n2
  exact (h3.cell2 v3 j3 n3).1
theorem keep4 {w w' : World} {K : Nat} {a b c d : Value} (h : w.cell? ⟨K, 0, none⟩ = some a ∧ w.cell? ⟨K, 1, none⟩ = some b ∧ w.cell? ⟨K, 2, none⟩ = some c ∧ w.cell? ⟨K, 3, none⟩ = some d) (hb : Below w.heap.size w w') :
    w'.cell? ⟨K, 0, none⟩ = some a ∧ w'.cell? ⟨K, 1, none⟩ = some b ∧ w'.cell? ⟨K, 2, none⟩ = some c ∧ w'.cell? ⟨K, 3, none⟩ = some d :=
  ⟨cell_keep hb h.1, cell_keep hb h.2.1, cell_keep hb h.2.2.1, cell_keep hb h.2.2.2⟩
theorem row_shows {b : Nat} {H : Nat → Int} (h : w.rowIs b 44 256 (fun j => .int .i64 (H j))) : ∃ l : List Cl, l.length = 64 ∧ ShowCalls w (.slice (some ⟨b, 0, none⟩) 64 64) l := by
  refine ⟨(List.range 64).map fun i => ⟨H (i * 4), H (i * 4 + 1), H (i * 4 + 2), H (i * 4 + 3)⟩, by simp, ?_⟩
  refine ⟨calls_length _, _, 64, by simp, by simp [maxLen], fun _ => ⟨b, 0, rfl, fun j hj => ?_⟩⟩
  have hj' : j < 256 := by simpa using hj
  have hd : j = j / 4 * 4 + j % 4 := by omega
  have hm : j % 4 < 4 := Nat.mod_lt _ (by decide)
  rw [Nat.zero_add, h.cell hj']
  conv => rhs; rw [hd]
  rw [calls_at _ (j / 4) (j % 4) (by simp; omega) hm]
  simp only [List.getElem_map, List.getElem_range, Cl.cells]
  congr 1
  have h4 : j % 4 = 0 ∨ j % 4 = 1 ∨ j % 4 = 2 ∨ j % 4 = 3 := by omega
  rcases h4 with e | e | e | e <;> simp only [e] <;> simp <;> congr 1 <;> omega
theorem Full.shows (h : Full W w g gc gp 8) : ∃ S, ShowScr w (.agg #[.int .i64 8, .int .i64 1024, .slice (some ⟨gc, 0, none⟩) 8 8, .slice (some ⟨gp, 0, none⟩) 4096 4096]) S ∧ S.picks.length = 4096 ∧ S.calls.length = 8 ∧ ∀ l ∈ S.calls, l.length = 64 := by
  obtain ⟨F, f1, f2⟩ := h.rows
  obtain ⟨G, g1⟩ := h.picks
  have hr : ∀ i, ∃ l : List Cl, i < 8 → l.length = 64 ∧ ShowCalls w (F i) l := by
    intro i
    by_cases hi : i < 8
    · obtain ⟨b, H, e, hb, _⟩ := f2 i hi
      obtain ⟨l, h1, h2⟩ := row_shows hb
      exact ⟨l, fun _ => ⟨h1, by rw [e]; exact h2⟩⟩
    · exact ⟨[], fun h => absurd h hi⟩
  obtain ⟨L, hL⟩ := Classical.axiomOfChoice hr
  refine ⟨⟨8, 1024, (List.range 8).map L, (List.range 4096).map G⟩, ⟨_, _, rfl, ⟨(List.range 8).map F, by simp, ⟨by simp, _, 8, by simp, by simp [maxLen], fun _ => ⟨gc, 0, rfl, fun j hj => ?_⟩⟩, fun i hi hi' => ?_⟩, ⟨by simp [ints], _, 4096, by simp, by simp [maxLen], fun _ => ⟨gp, 0, rfl, fun j hj => ?_⟩⟩⟩, by simp, by simp, ?_⟩
  · have hj' : j < 8 := by simpa using hj
    rw [Nat.zero_add, f1.cell hj']
    simp [hj']
  · have hi'' : i < 8 := by simpa using hi
    simpa using (hL i hi'').2
  · have hj' : j < 4096 := by simpa using hj
    rw [Nat.zero_add, g1.cell hj']
    simp [ints, hj']
  · intro l hl
    obtain ⟨i, hi, rfl⟩ := List.mem_map.1 hl
    exact (hL i (by simpa using hi)).1
theorem full_start {W w : World} {g gc gp : Nat} (hs : w.rowIs g 25 4 (selfF gc gp)) (h8 : w.rowIs gc 42 8 (fun _ => .slice none 0 0)) (hI : w.rowIs gp 3 4096 (fun _ => .int .i64 0)) (ne : g ≠ gc ∧ g ≠ gp ∧ gc ≠ gp) (le : W.heap.size ≤ g ∧ W.heap.size ≤ gc ∧ W.heap.size ≤ gp) (hb : Below W.heap.size W w) : Full W w g gc gp 0 :=
  ⟨hs, ⟨_, h8, fun i hi => absurd hi (Nat.not_lt_zero _)⟩, ⟨fun _ => 0, hI⟩, ne, le, hb⟩
theorem row_1 {w : World} {t : TypeId} {n : Nat} {f : Nat → Value} {O o2 o3 : Obj} (h : (w.alloc O).rowIs w.heap.size t n f) : (((w.alloc O).alloc o2).alloc o3).drew.rowIs w.heap.size t n f := ((h.alloc _).alloc _).drew
theorem row_2 {w : World} {t : TypeId} {n : Nat} {f : Nat → Value} {O o1 o3 : Obj} (h : ((w.alloc o1).alloc O).rowIs (w.alloc o1).heap.size t n f) : (((w.alloc o1).alloc O).alloc o3).drew.rowIs (w.heap.size + 1) t n f := by
  rw [size_alloc] at h
  exact (h.alloc _).drew
theorem row_3 {w : World} {t : TypeId} {n : Nat} {f : Nat → Value} {O o1 o2 : Obj} (h : (((w.alloc o1).alloc o2).alloc O).rowIs ((w.alloc o1).alloc o2).heap.size t n f) : (((w.alloc o1).alloc o2).alloc O).drew.rowIs (w.heap.size + 1 + 1) t n f := by
  rw [size_alloc, size_alloc] at h
  exact h.drew
theorem self_new (w : World) (gc gp : Nat) : (w.alloc (.cells #[.int .i64 8, .int .i64 1024, .slice (some ⟨gc, 0, none⟩) 8 8, .slice (some ⟨gp, 0, none⟩) 4096 4096] 25)).rowIs w.heap.size 25 4 (selfF gc gp) :=
  World.rowIs_alloc w #[.int .i64 8, .int .i64 1024, .slice (some ⟨gc, 0, none⟩) 8 8, .slice (some ⟨gp, 0, none⟩) 4096 4096] _ (selfF gc gp) (fun i hi => by
    have h4 : i = 0 ∨ i = 1 ∨ i = 2 ∨ i = 3 := by
      have : i < 4 := hi
      omega
    rcases h4 with e | e | e | e <;> subst e <;> rfl)
theorem below_3 (w : World) (o1 o2 o3 : Obj) : Below w.heap.size w (((w.alloc o1).alloc o2).alloc o3).drew := (below_one (below_one (below_one (Below.refl _ _) _) _) _).drew
/-- what make makes -/
theorem make8 : ∃ O : Obj, (∀ w : World, (Instr.makeSlice 22 (.int .i64 8) (.int .i64 8)).run Try.prog w = .ok (.slice (some ⟨w.heap.size, 0, none⟩) 8 8) (w.alloc O)) ∧ ∀ w : World, (w.alloc O).rowIs w.heap.size 42 8 (fun _ => .slice none 0 0) :=
  ⟨_, fun w => run_make_row' (P := Try.prog) 22 42 (.slice none 0 0) 24 Try.underlying22 (by kernel_rfl) rfl .i64 .i64 8 (by decide) (by decide) w, fun w => World.rowIs_made w _ 8 _⟩
theorem makeInts (n : Nat) (hn : n ≤ 10000) : ∃ O : Obj, (∀ w : World, (Instr.makeSlice 23 (.int .i64 (n : Int)) (.int .i64 (n : Int))).run Try.prog w = .ok (.slice (some ⟨w.heap.size, 0, none⟩) n n) (w.alloc O)) ∧ ∀ w : World, (w.alloc O).rowIs w.heap.size 3 n (fun _ => .int .i64 0) :=
  ⟨_, fun w => run_make_row' (P := Try.prog) 23 3 (.int .i64 0) 8 Try.underlying23 (by kernel_rfl) rfl .i64 .i64 n (by omega) (by omega) w, fun w => World.rowIs_made w _ n _⟩
theorem makeBytes (n : Nat) (hn : n ≤ 10000) : ∃ O : Obj, (∀ w : World, (Instr.makeSlice 27 (.int .i64 (n : Int)) (.int .i64 (n : Int))).run Try.prog w = .ok (.slice (some ⟨w.heap.size, 0, none⟩) n n) (w.alloc O)) ∧ ∀ w : World, (w.alloc O).rowIs w.heap.size 5 n (fun _ => .int .u8 0) :=
  ⟨_, fun w => run_make_row' (P := Try.prog) 27 5 (.int .u8 0) 1 Try.underlying27 (by kernel_rfl) rfl .i64 .i64 n (by omega) (by omega) w, fun w => World.rowIs_made w _ n _⟩
theorem make1 : ∃ O : Obj, (∀ w : World, (Instr.makeSlice 22 (.int .i64 1) (.int .i64 1)).run Try.prog w = .ok (.slice (some ⟨w.heap.size, 0, none⟩) 1 1) (w.alloc O)) ∧ ∀ w : World, (w.alloc O).rowIs w.heap.size 42 1 (fun _ => .slice none 0 0) :=
  ⟨_, fun w => run_make_row' (P := Try.prog) 22 42 (.slice none 0 0) 24 Try.underlying22 (by kernel_rfl) rfl .i64 .i64 1 (by decide) (by decide) w, fun w => World.rowIs_made w _ 1 _⟩
theorem one_lists {w : World} {b : Nat} (h : w.rowIs b 42 1 (fun _ => .slice none 0 0)) : ShowLists w (.slice (some ⟨b, 0, none⟩) 1 1) [[]] := by
  refine ⟨[.slice none 0 0], rfl, ⟨rfl, _, 1, rfl, by decide, fun _ => ⟨b, 0, rfl, fun j hj => ?_⟩⟩, fun i hi hi' => ?_⟩
  · have e : j = 0 := by simpa using hj
    subst e
    exact h.cell (by decide)
  · have e : i = 0 := by simpa using hi
    subst e
    exact Shows.nil w 4
theorem cells64 : madeCells (Value.agg #[.int .i64 0, .int .i64 0, .int .i64 0, .int .i64 0]).cells (64 * 4) = Array.replicate 256 (.int .i64 0) := by kernel_rfl
theorem make64 : ∃ O : Obj, (∀ w : World, (Instr.makeSlice 42 (.int .i64 64) (.int .i64 64)).run Try.prog w = .ok (.slice (some ⟨w.heap.size, 0, none⟩) 64 64) (w.alloc O)) ∧ ∀ w : World, (w.alloc O).rowIs w.heap.size 44 256 (fun _ => .int .i64 0) := by
  obtain ⟨i0, hi, hz0, hz1, hz2⟩ := info_parts infoC
  refine ⟨.cells (Array.replicate 256 (.int .i64 0)) 44, fun w => ?_, fun w => ?_⟩
  · have hr := run_make (P := Try.prog) w 42 44 i0 _ Try.underlying42 hi hz0 .i64 .i64 64 64 (by decide) (Int.le_refl _) (by rw [hz2]; decide) (by decide)
    rw [hz1] at hr
    rw [← cells64]
    exact hr
  · have := World.rowIs_alloc w (Array.replicate 256 (.int .i64 0)) 44 (fun _ => .int .i64 0) (fun i hi => by
      rw [Array.getElem?_replicate]
      rw [Array.size_replicate] at hi
      rw [if_pos hi])
    rwa [Array.size_replicate] at this
theorem act_ext {a b : Act} (h1 : a.defers = b.defers) (h2 : a.tmps = b.tmps) : a = b := by
  cases a; cases b
  simp only at h1 h2
  rw [h1, h2]
/-- a frame that has changed in slot 4 and slots 45 to 90 alone -/
def putsOf (ρ : Nat → Value) (a0 : Act) (l : List Nat) : Act := l.foldl (fun b s => b.put (some s) (ρ s)) a0
theorem putsOf_spec (ρ : Nat → Value) (l : List Nat) : ∀ a0 : Act, (putsOf ρ a0 l).defers = a0.defers ∧ (putsOf ρ a0 l).tmps.size = a0.tmps.size ∧ ∀ s, s < a0.tmps.size → (putsOf ρ a0 l).tmps.getD s undef = if s ∈ l then ρ s else a0.tmps.getD s undef := by
  induction l with
  | nil => intro a0; exact ⟨rfl, rfl, fun s _ => by simp [putsOf]⟩
  | cons x r ih =>
    intro a0
    obtain ⟨h1, h2, h3⟩ := ih (a0.put (some x) (ρ x))
    have hz : (a0.put (some x) (ρ x)).tmps.size = a0.tmps.size := by simp [Act.put]
    refine ⟨h1, h2.trans hz, fun s hs => ?_⟩
    have := h3 s (by rw [hz]; exact hs)
    refine this.trans ?_
    by_cases hr : s ∈ r
    · simp [hr]
    · by_cases hx : s = x
      · subst hx
        simp [hr, Act.put, Array.getD_eq_getD_getElem?, hs]
      · simp [hr, hx, Act.put, Array.getD_eq_getD_getElem?, Array.getElem?_setIfInBounds, Ne.symm hx]
theorem act_puts {a a0 : Act} (hd : a.defers = a0.defers) (hs : a.tmps.size = 164) (h0 : a0.tmps.size = 164) (ho : ∀ s, s ≠ 4 → ¬ (45 ≤ s ∧ s ≤ 90) → a.tmps.getD s undef = a0.tmps.getD s undef) :
    ∃ ρ : Nat → Value, ρ 4 = a.tmps.getD 4 undef ∧ a = ((((((((((((((((((((((((((((((((((((((((((((((a0.put (some 4) (ρ 4)).put (some 45) (ρ 45)).put (some 46) (ρ 46)).put (some 47) (ρ 47)).put (some 48) (ρ 48)).put (some 49) (ρ 49)).put (some 50) (ρ 50)).put (some 51) (ρ 51)).put (some 52) (ρ 52)).put (some 53) (ρ 53)).put (some 54) (ρ 54)).put (some 55) (ρ 55)).put (some 56) (ρ 56)).put (some 57) (ρ 57)).put (some 58) (ρ 58)).put (some 59) (ρ 59)).put (some 60) (ρ 60)).put (some 61) (ρ 61)).put (some 62) (ρ 62)).put (some 63) (ρ 63)).put (some 64) (ρ 64)).put (some 65) (ρ 65)).put (some 66) (ρ 66)).put (some 67) (ρ 67)).put (some 68) (ρ 68)).put (some 69) (ρ 69)).put (some 70) (ρ 70)).put (some 71) (ρ 71)).put (some 72) (ρ 72)).put (some 73) (ρ 73)).put (some 74) (ρ 74)).put (some 75) (ρ 75)).put (some 76) (ρ 76)).put (some 77) (ρ 77)).put (some 78) (ρ 78)).put (some 79) (ρ 79)).put (some 80) (ρ 80)).put (some 81) (ρ 81)).put (some 82) (ρ 82)).put (some 83) (ρ 83)).put (some 84) (ρ 84)).put (some 85) (ρ 85)).put (some 86) (ρ 86)).put (some 87) (ρ 87)).put (some 88) (ρ 88)).put (some 89) (ρ 89)).put (some 90) (ρ 90) := by
  refine ⟨fun s => a.tmps.getD s undef, rfl, ?_⟩
  have hl : (4 :: (List.range 46).map (· + 45)) = [4, 45, 46, 47, 48, 49, 50, 51, 52, 53, 54, 55, 56, 57, 58, 59, 60, 61, 62, 63, 64, 65, 66, 67, 68, 69, 70, 71, 72, 73, 74, 75, 76, 77, 78, 79, 80, 81, 82, 83, 84, 85, 86, 87, 88, 89, 90] := by decide
  obtain ⟨h1, h2, h3⟩ := putsOf_spec (fun s => a.tmps.getD s undef) (4 :: (List.range 46).map (· + 45)) a0
  have e : a = putsOf (fun s => a.tmps.getD s undef) a0 (4 :: (List.range 46).map (· + 45)) := by
    refine act_ext (hd.trans h1.symm) ?_
    refine Array.ext (by rw [h2, hs, h0]) fun i hi hi' => ?_
    have h4 := h3 i (by omega)
    rw [Array.getD_eq_getD_getElem?, Array.getElem?_eq_getElem hi'] at h4
    refine Eq.trans ?_ (Eq.symm h4)
    by_cases hm : i ∈ (4 :: (List.range 46).map (· + 45))
    · rw [if_pos hm, Array.getD_eq_getD_getElem?, Array.getElem?_eq_getElem hi]
      rfl
    · rw [if_neg hm, ← ho i (fun e => hm (by simp [e])) (fun e => hm (by simp; right; exact ⟨i - 45, by omega, by omega⟩)), Array.getD_eq_getD_getElem?, Array.getElem?_eq_getElem hi]
      rfl
  rw [hl] at e
  exact e
theorem keepc {w w' : World} {K o : Nat} {a b c d : Value} (h : w.cell? ⟨K, o, none⟩ = some a ∧ w.cell? ⟨K, o + 1, none⟩ = some b ∧ w.cell? ⟨K, o + 2, none⟩ = some c ∧ w.cell? ⟨K, o + 3, none⟩ = some d) (hb : Below w.heap.size w w') :
    w'.cell? ⟨K, o, none⟩ = some a ∧ w'.cell? ⟨K, o + 1, none⟩ = some b ∧ w'.cell? ⟨K, o + 2, none⟩ = some c ∧ w'.cell? ⟨K, o + 3, none⟩ = some d :=
  ⟨cell_keep hb h.1, cell_keep hb h.2.1, cell_keep hb h.2.2.1, cell_keep hb h.2.2.2⟩
theorem bads_small : ∀ S ∈ bads, S.picks.length ≤ 10000 ∧ S.calls.length ≤ 10000 ∧ ∀ l ∈ S.calls, l.length ≤ 10000 := by decide +kernel
theorem bad_at {w wr : World} {v : Value} (h : PBads v w) (hb : Below w.heap.size w wr) : ∃ g, v = .slice (some ⟨g, 0, none⟩) 14 14 ∧ ∀ wr, Below w.heap.size w wr → ∀ j, j < 14 → ∃ (S : Scr) (x y : Int) (a1 : Option Addr) (n1 c1 : Nat) (a2 : Option Addr) (n2 c2 : Nat), Hid (okS S = false) ∧ Hid (S.picks.length ≤ 10000 ∧ S.calls.length ≤ 10000 ∧ ∀ l ∈ S.calls, l.length ≤ 10000) ∧
    (wr.cell? ⟨g, j * 4, none⟩ = some (.int .i64 x) ∧ wr.cell? ⟨g, j * 4 + 1, none⟩ = some (.int .i64 y) ∧ wr.cell? ⟨g, j * 4 + 2, none⟩ = some (.slice a1 n1 c1) ∧ wr.cell? ⟨g, j * 4 + 3, none⟩ = some (.slice a2 n2 c2)) ∧ ShowScr wr (.agg #[.int .i64 x, .int .i64 y, .slice a1 n1 c1, .slice a2 n2 c2]) S := by
  obtain ⟨g, h1, h2⟩ := h
  refine ⟨g, h1, fun wr hb j hj => ?_⟩
  have hj' : j < bads.length := hj
  obtain ⟨c0, c1, c2, c3, e0, e1, e2, e3, a, n, c, a', n', c', hv, hs⟩ := h2 j hj'
  have hm : bads[j] ∈ bads := List.getElem_mem hj'
  have hi := Value.agg.inj hv
  simp only [Array.mk.injEq, List.cons.injEq, and_true] at hi
  obtain ⟨rfl, rfl, rfl, rfl⟩ := hi
  exact ⟨bads[j], _, _, _, _, _, _, _, _, Lib.hid (bads_not _ hm), Lib.hid (bads_small _ hm), ⟨cell_keep hb e0, cell_keep hb e1, cell_keep hb e2, cell_keep hb e3⟩, hs.below hb⟩
theorem lit10 (w : World) (x0 x1 x2 x3 x4 x5 x6 x7 x8 x9 : Int) : ShowBytes (w.alloc (.cells #[.int .u8 x0, .int .u8 x1, .int .u8 x2, .int .u8 x3, .int .u8 x4, .int .u8 x5, .int .u8 x6, .int .u8 x7, .int .u8 x8, .int .u8 x9] 5)) (.slice (some ⟨w.heap.size, 0, none⟩) 10 10) [x0, x1, x2, x3, x4, x5, x6, x7, x8, x9] :=
  Shows.ofOwns (World.ownsRow_lit (base := 0) (e := 5) (size := 1) w #[.int .u8 x0, .int .u8 x1, .int .u8 x2, .int .u8 x3, .int .u8 x4, .int .u8 x5, .int .u8 x6, .int .u8 x7, .int .u8 x8, .int .u8 x9] 10 (Nat.zero_le _) (by decide) rfl)
theorem ShowBytes.take {w : World} {k n c : Nat} {l : List Int} (h : ShowBytes w (.slice (some ⟨k, 0, none⟩) n c) l) (m : Nat) (hm : m ≤ l.length) : ShowBytes w (.slice (some ⟨k, 0, none⟩) m c) (l.take m) := by
  obtain ⟨hl, ao, cap, hv, hc, hs⟩ := h
  obtain ⟨e1, e2, e3⟩ := Value.slice.inj hv
  subst e1 e2 e3
  have e : (l.take m).length = m := by simp [hm]
  refine ⟨by simp, _, c, by rw [e], by omega, fun hn => ⟨k, 0, rfl, fun j hj => ?_⟩⟩
  obtain ⟨b, o, ha, hx⟩ := hs (by omega)
  have hb : b = k ∧ o = 0 := by
    have := Option.some.inj ha
    simp at this
    omega
  obtain ⟨rfl, rfl⟩ := hb
  rw [hx j (by omega)]
  simp only [bytes, List.getElem?_map, List.getElem?_take]
  rw [if_pos (by omega)]
theorem zeros_show {w : World} {b n : Nat} (hn : n ≤ 10000) (h : w.rowIs b 5 n (fun _ => .int .u8 0)) : ShowBytes w (.slice (some ⟨b, 0, none⟩) n n) (List.replicate n 0) := by
  refine ⟨by simp, some ⟨b, 0, none⟩, n, by simp, ?_, fun _ => ⟨b, 0, rfl, fun j hj => ?_⟩⟩
  · simp [maxLen]
    omega
  · have hj' : j < n := by simpa using hj
    rw [Nat.zero_add, h.cell hj']
    simp [hj']
end Go.Proofs.Ytifkkblmcdggmaa
