/-
  Near pages that are none: a nil one, a zero one.
-/
import Derived.Test.YtpmlmpkjmgebnaaPlays
set_option linter.unusedVariables false
set_option linter.unusedSimpArgs false
namespace Go.Proofs.Ytpmlmpkjmgebnaa
open Go Go.RowKit

/-- a nil one, or a zero one -/
def NoneAt (w : World) (v : Value) : Prop := v = .pointer none ∨ ∃ b, v = .pointer (some ⟨b, 0, none⟩) ∧ w.heap[b]? = some (.cells #[.slice none 0 0, .int .i64 0] 48 (0, 0))
section
variable {w : World} {v : Value}
theorem NoneAt.below {w' : World} (h : NoneAt w v) (hb : Below w.heap.size w w') : NoneAt w' v := by
  rcases h with h | ⟨b, e, h⟩
  · exact .inl h
  · exact .inr ⟨b, e, keep_block h hb⟩
set_option maxHeartbeats 1000000 in
theorem zIsCpu (h : NoneAt w v) : Calls Try.prog 23 #[v, .int .i64 0] w fun e w' => e = .returned (.bool false) ∧ w' = w := by
  rcases h with rfl | ⟨b, rfl, h⟩
  · go_enter Try.func23, Try.ntmps23
    go_wp2
    go_ret
    exact ⟨rfl, rfl⟩
  · have c0 := self_cell h 0 _ rfl
    clear h
    go_enter Try.func23, Try.ntmps23
    go_wp2
    go_ret
    exact ⟨rfl, rfl⟩
set_option maxHeartbeats 1000000 in
theorem zPut (h : NoneAt w v) : Calls Try.prog 15 #[v, .int .i64 (-1), .int .i64 0] w fun e w' => e = .returned (.tuple #[.slice none 0 0, .int .i64 1]) ∧ w' = w := by
  rcases h with rfl | ⟨b, rfl, h⟩
  · go_enter Try.func15, Try.ntmps15
    go_wp2
    go_ret2
    exact ⟨rfl, rfl⟩
  · have c0 := self_cell h 0 _ rfl
    clear h
    go_enter Try.func15, Try.ntmps15
    go_wp2
    go_ret2
    exact ⟨rfl, rfl⟩
set_option maxHeartbeats 1000000 in
theorem zTake (h : NoneAt w v) : Calls Try.prog 16 #[v, .int .i64 0] w fun e w' => e = .returned (.tuple #[.int .i64 0, .bool false]) ∧ w' = w := by
  go_enter Try.func16, Try.ntmps16
  go_wp2_with fail
  refine (zIsCpu h).mono ?_
  rintro e w1 ⟨rfl, rfl⟩
  go_wp2
  go_ret2
  exact ⟨rfl, rfl⟩
set_option maxHeartbeats 1000000 in
theorem zDrain (h : NoneAt w v) : Calls Try.prog 17 #[v, .int .i64 0] w fun e w' => e = .returned (.slice none 0 0) ∧ w' = w := by
  go_enter Try.func17, Try.ntmps17
  go_wp2_with fail
  refine (zIsCpu h).mono ?_
  rintro e w1 ⟨rfl, rfl⟩
  go_wp2
  go_ret
  exact ⟨rfl, rfl⟩
set_option maxHeartbeats 1000000 in
theorem zList (h : NoneAt w v) : Calls Try.prog 10 #[v, .int .i64 0] w fun e w' => e = .returned (.slice none 0 0) ∧ w' = w := by
  go_enter Try.func10, Try.ntmps10
  go_wp2_with fail
  refine (zIsCpu h).mono ?_
  rintro e w1 ⟨rfl, rfl⟩
  go_wp2
  go_ret
  exact ⟨rfl, rfl⟩
set_option maxHeartbeats 1000000 in
theorem zIndexFunc (u : Value) (w : World) : Calls Try.prog 31 #[.slice none 0 0, u] w fun e w' => e = .returned (.int .i64 (-1)) ∧ w' = w := by
  go_enter Try.func31, Try.ntmps31
  go_wp2
  go_loopw [8] (fun i wr => i = .int .i64 0 ∧ wr = w) (fun i _ => 0)
  case atStart => exact ⟨rfl, rfl⟩
  case round =>
    obtain ⟨rfl, rfl⟩ := hrel
    go_wp2
    go_ret
    exact ⟨rfl, rfl⟩
set_option maxHeartbeats 1000000 in
theorem zContainsFunc (u : Value) (w : World) : Calls Try.prog 28 #[.slice none 0 0, u] w fun e w' => e = .returned (.bool false) ∧ w' = w := by
  go_enter Try.func28, Try.ntmps28
  go_wp2_with fail
  refine (zIndexFunc u w).mono ?_
  rintro e w1 ⟨rfl, rfl⟩
  go_wp2
  go_ret
  exact ⟨rfl, rfl⟩
set_option maxHeartbeats 1000000 in
theorem zHas (h : NoneAt w v) : Calls Try.prog 18 #[v, .int .i64 0] w fun e w' => e = .returned (.bool false) ∧ Below w.heap.size w w' := by
  rcases h with rfl | ⟨b, rfl, h⟩
  · go_enter Try.func18, Try.ntmps18
    go_wp2
    go_ret
    exact ⟨rfl, below_one (Below.refl _ _) _⟩
  · have c0 := self_cell h 0 _ rfl
    have hlt := lt_of_block h
    clear h
    go_enter Try.func18, Try.ntmps18
    go_wp2_with fail
    refine (zContainsFunc _ _).mono ?_
    rintro e w1 ⟨rfl, rfl⟩
    go_wp2
    go_ret
    exact ⟨rfl, below_one (Below.refl _ _) _⟩
end
/-! ### a list of calls that grows -/
theorem pgs_snoc (l : List Pg) (x : Pg) : pgs (l ++ [x]) = pgs l ++ x.cells := by simp [pgs]
theorem new3 (w : World) (a b c : Value) (t : TypeId) : ∀ j u, [a, b, c][j]? = some u → (w.alloc (.cells #[a, b, c] t)).cell? ((⟨w.heap.size, 0, none⟩ : Addr).add j) = some u := by
  intro j u hj
  rw [plain_add, Nat.zero_add]
  exact self_cell (heap_new w _) j u (by
    have : (#[a, b, c] : Array Value)[j]? = [a, b, c][j]? := by simp
    rw [this]; exact hj)
/-- a row of calls of one's own, as many as N -/
def Dos (w : World) (b : Nat) (v : Value) (N : Nat) : Prop := ∃ l : List Pg, l.length = N ∧ w.ownsRow b 32 3 v N (pgs l)
theorem Dos.below {w w' : World} {b N : Nat} {v : Value} (h : Dos w b v N) (hb : Below w.heap.size w w') : Dos w' b v N := by
  obtain ⟨l, h1, h2⟩ := h
  exact ⟨l, h1, own_below h2 hb⟩
theorem Dos.shows {w : World} {b N : Nat} {v : Value} (h : Dos w b v N) : ∃ l, ShowP w v l := by
  obtain ⟨l, h1, h2⟩ := h
  have := Shows.ofOwns h2
  exact ⟨l, by unfold ShowP; rw [h1]; exact this⟩
theorem Dos.more {w : World} {b N : Nat} {v : Value} {l : List Pg} {x y z : Int} (hl : l.length = N) (h : w.ownsRow b 32 3 v (N + 1) (pgs l ++ [.int .i64 x, .int .i64 y, .int .i64 z])) : Dos w b v (N + 1) :=
  ⟨l ++ [⟨x, y, z⟩], by simp [hl], by rw [pgs_snoc]; exact h⟩
theorem Dos.many {w : World} {b N : Nat} {v : Value} {l m : List Pg} (hl : l.length = N) {k : Nat} (hm : m.length = k) (h : w.ownsRow b 32 3 v (N + k) (pgs l ++ pgs m)) : Dos w b v (N + k) :=
  ⟨l ++ m, by simp [hl, hm], by rw [show pgs (l ++ m) = pgs l ++ pgs m by simp [pgs]]; exact h⟩
theorem pgs_one (l : List Pg) : ∀ u ∈ pgs l, u.oneCell' = true := by
  intro u hu
  obtain ⟨c, _, hc⟩ := List.mem_flatMap.1 hu
  simp only [Pg.cells, List.mem_cons, List.mem_nil_iff, or_false] at hc
  rcases hc with rfl | rfl | rfl <;> rfl
theorem infoD : (Try.prog.info? 32).map (fun i => (i.zero, i.size, i.bytes)) = some (some (.agg #[.int .i64 0, .int .i64 0, .int .i64 0]), 3, 24) := by kernel_rfl
end Go.Proofs.Ytpmlmpkjmgebnaa
