/-
  starting: the block that starts at a page, if one does.
-/
import Derived.Test.YtpohfecbogppkaaSame
set_option linter.unusedVariables false
set_option linter.unusedSimpArgs false
namespace Go.Proofs.Ytpohfecbogppkaa
open Go Go.RowKit

def blkV (l : List Pg) (a : Nat) : Value := .agg #[.int .i64 (pg l a).kind, .int .i64 (pg l a).order, .int .i64 (pg l a).cache, .int .i64 (a : Int), .int .i64 ((a + (pg l a).sz : Nat) : Int)]
def blk0 : Value := .agg #[.int .i64 0, .int .i64 0, .int .i64 0, .int .i64 0, .int .i64 0]
theorem lt_of_block {w : World} {K : Nat} {o : Obj} (h : w.heap[K]? = some o) : K < w.heap.size := (Array.getElem?_eq_some_iff.1 h).1
theorem self_free {w : World} {K : Nat} {cs : Array Value} {t : TypeId} (h : w.heap[K]? = some (.cells cs t (0, 0))) (j : Nat) : w.frozen? ⟨K, j, none⟩ = false := by
  unfold World.frozen?
  dsimp only
  rw [h]
  simp
theorem self_cell {w : World} {K : Nat} {cs : Array Value} {t : TypeId} {fr : Nat × Nat} (h : w.heap[K]? = some (.cells cs t fr)) (j : Nat) (u : Value) (hu : cs[j]? = some u) : w.cell? ⟨K, j, none⟩ = some u := by
  unfold World.cell?
  dsimp only
  rw [h]
  exact hu
theorem self3 {w : World} {K : Nat} {a b c : Value} {t : TypeId} {fr : Nat × Nat} (h : w.heap[K]? = some (.cells #[a, b, c] t fr)) : w.cell? ⟨K, 0, none⟩ = some a ∧ w.cell? ⟨K, 1, none⟩ = some b ∧ w.cell? ⟨K, 2, none⟩ = some c :=
  ⟨self_cell h 0 _ rfl, self_cell h 1 _ rfl, self_cell h 2 _ rfl⟩
theorem self5 {w : World} {K : Nat} {a b c d e : Value} {t : TypeId} {fr : Nat × Nat} (h : w.heap[K]? = some (.cells #[a, b, c, d, e] t fr)) : w.cell? ⟨K, 0, none⟩ = some a ∧ w.cell? ⟨K, 1, none⟩ = some b ∧ w.cell? ⟨K, 2, none⟩ = some c ∧ w.cell? ⟨K, 3, none⟩ = some d ∧ w.cell? ⟨K, 4, none⟩ = some e :=
  ⟨self_cell h 0 _ rfl, self_cell h 1 _ rfl, self_cell h 2 _ rfl, self_cell h 3 _ rfl, self_cell h 4 _ rfl⟩
theorem heap_low2 (w : World) (o o' : Obj) : ((w.alloc o).alloc o').heap[w.heap.size]? = some o := by
  rw [Below.heap_alloc _ _ _ (by rw [size_alloc]; omega)]
  exact heap_new w o
theorem heap_new2 (w : World) (o o' : Obj) : ((w.alloc o).alloc o').heap[w.heap.size + 1]? = some o' := by rw [← size_alloc w o]; exact heap_new _ _
theorem ret_blk {v v' : Value} {b : Bool} (h : v = v') : Ending.returned (.tuple #[v, .bool b]) = .returned (.tuple #[v', .bool b]) := by rw [h]
theorem resStart : Try.f48.results = #[.cell 4 70, .tmp 5] := rfl
theorem sz_of {l : List Pg} {a : Nat} {k o c : Int} {S : Nat} (hp : pg l a = ⟨k, o, c⟩) (hS : (2 : Int) ^ o.toNat = (S : Int)) : (pg l a).sz = S := by
  have h := Pg.sz_int (p := pg l a)
  rw [hp] at h ⊢
  dsimp only at h
  rw [hS] at h
  omega
theorem res_start (w : World) (tmps : Array Value) (K : Nat) (a b c d e : Int) (q : Bool) (h4 : tmps[4]?.getD undef = .pointer (some ⟨K, 0, none⟩)) (h5 : tmps[5]?.getD undef = .bool q) (h : w.heap[K]? = some (.cells #[.int .i64 a, .int .i64 b, .int .i64 c, .int .i64 d, .int .i64 e] 70)) :
    (results Try.f48 tmps).run Try.prog w = .ok (.tuple #[.agg #[.int .i64 a, .int .i64 b, .int .i64 c, .int .i64 d, .int .i64 e], .bool q]) w := by
  obtain ⟨r0, r1, r2, r3, r4⟩ := self5 h
  simp [results, resStart, go_sem, h4, h5, r0, r1, r2, r3, r4]
/-- the pages behind a head that have been looked at are inside ones -/
def Ins (l : List Pg) (a n : Nat) : Prop := ∀ j, a < j → j < a + n → pg l j = pin
theorem Ins.zero (l : List Pg) (a : Nat) : Ins l a 1 := fun j h1 h2 => by omega
theorem Ins.more {l : List Pg} {a n : Nat} (h : Ins l a n) (h1 : pg l (a + n) = pin) : Ins l a (n + 1) := fun j h2 h3 => by
  by_cases e : j = a + n
  · rw [e]; exact h1
  · exact h j h2 (by omega)
theorem cells_set {w : World} {K : Nat} {cs : Array Value} {t : TypeId} (h : w.heap[K]? = some (.cells cs t (0, 0))) (j : Nat) (u : Value) : (w.setCell ⟨K, j, none⟩ u).heap[K]? = some (.cells (cs.setIfInBounds j u) t (0, 0)) := by
  have hlt := lt_of_block h
  have h' : w.heap[K] = .cells cs t (0, 0) := by simpa [Array.getElem?_eq_getElem hlt] using h
  show (w.heap.modify K _)[K]? = _
  rw [Array.getElem?_eq_getElem (by simpa using hlt), Array.getElem_modify_self, h']
  rfl
/-- all five cells of a block are written -/
theorem sets_block {w : World} {K : Nat} {a b c d e a' b' c' d' e' : Value} {t : TypeId} (h : w.heap[K]? = some (.cells #[a, b, c, d, e] t (0, 0))) :
    (((((w.setCell ⟨K, 0, none⟩ a').setCell ⟨K, 1, none⟩ b').setCell ⟨K, 2, none⟩ c').setCell ⟨K, 3, none⟩ d').setCell ⟨K, 4, none⟩ e').heap[K]? = some (.cells #[a', b', c', d', e'] t (0, 0)) :=
  cells_set (cells_set (cells_set (cells_set (cells_set h 0 _) 1 _) 2 _) 3 _) 4 _
theorem below_sets {n : Nat} {w0 w : World} (h : Below n w0 w) {a' b' c' d' e' : Value} {K : Nat} (hK : n ≤ K := by exact Nat.le_refl _) :
    Below n w0 (((((w.setCell ⟨K, 0, none⟩ a').setCell ⟨K, 1, none⟩ b').setCell ⟨K, 2, none⟩ c').setCell ⟨K, 3, none⟩ d').setCell ⟨K, 4, none⟩ e') :=
  ((((h.setCell (p := ⟨K, 0, none⟩) hK _).setCell (p := ⟨K, 1, none⟩) hK _).setCell (p := ⟨K, 2, none⟩) hK _).setCell (p := ⟨K, 3, none⟩) hK _).setCell (p := ⟨K, 4, none⟩) hK _
end Go.Proofs.Ytpohfecbogppkaa
