/-
  New of the document's answer.
-/
import Derived.Test.YtnnpclknlccmiaaRc
set_option linter.unusedVariables false
set_option linter.unusedSimpArgs false
namespace Go.Proofs.Ytnnpclknlccmiaa
open Go Go.RowKit

theorem make1 (n : Nat) (hn : n ≤ 10000) : ∃ O : Obj, (∀ w : World, (Instr.makeSlice 45 (.int .i64 (n : Int)) (.int .i64 (n : Int))).run Try.prog w = .ok (.slice (some ⟨w.heap.size, 0, none⟩) n n) (w.alloc O)) ∧ ∀ (w : World) k, w.heap.size = k → (w.alloc O).rowIs k 3 n (fun _ => .int .i64 0) :=
  ⟨_, fun w => run_make_row' (P := Try.prog) 45 3 (.int .i64 0) 8 Try.underlying45 (by kernel_rfl) rfl .i64 .i64 n (by omega) (by omega) w, fun w k e => by subst e; exact World.rowIs_made w _ n _⟩
theorem make2 (n : Nat) (hn : n ≤ 10000) : ∃ O : Obj, (∀ w : World, (Instr.makeSlice 58 (.int .i64 (n : Int)) (.int .i64 (n : Int))).run Try.prog w = .ok (.slice (some ⟨w.heap.size, 0, none⟩) n n) (w.alloc O)) ∧ ∀ (w : World) k, w.heap.size = k → (w.alloc O).rowIs k 76 n noV :=
  ⟨_, fun w => run_make_row' (P := Try.prog) 58 76 (.slice none 0 0) 24 Try.underlying58 (by kernel_rfl) rfl .i64 .i64 n (by omega) (by omega) w, fun w k e => by subst e; exact World.rowIs_made w _ n _⟩
theorem make3 (n : Nat) (hn : n ≤ 10000) : ∃ O : Obj, (∀ w : World, (Instr.makeSlice 59 (.int .i64 (n : Int)) (.int .i64 (n : Int))).run Try.prog w = .ok (.slice (some ⟨w.heap.size, 0, none⟩) n n) (w.alloc O)) ∧ ∀ (w : World) k, w.heap.size = k → (w.alloc O).rowIs k 4 n (fun _ => .bool false) :=
  ⟨_, fun w => run_make_row' (P := Try.prog) 59 4 (.bool false) 1 Try.underlying59 (by kernel_rfl) rfl .i64 .i64 n (by omega) (by omega) w, fun w k e => by subst e; exact World.rowIs_made w _ n _⟩
def NewOkR (w : World) (n : Nat) (e : Ending) (w' : World) : Prop := ∃ B d r m, e = .returned (.tuple #[.pointer (some ⟨B, 0, none⟩), .int .i64 0]) ∧ RV w' B d r m n noV noG false ∧ Below w.heap.size w w' ∧ w.heap.size ≤ B ∧ w.heap.size ≤ d ∧ w.heap.size ≤ r ∧ w.heap.size ≤ m
theorem heap_new' (w : World) (o : Obj) (k : Nat) (h : w.heap.size = k) : (w.alloc o).heap[k]? = some o := by subst h; exact heap_new w o
theorem rv_new (W0 : World) (n d r m : Nat) (hd : W0.rowIs d 3 n (fun _ => .int .i64 0)) (hr : W0.rowIs r 76 n noV) (hm : W0.rowIs m 4 n (fun _ => .bool false)) (K : Nat) (hK : W0.heap.size = K) :
    RV (W0.alloc (.cells #[.slice (some ⟨d, 0, none⟩) n n, .slice (some ⟨r, 0, none⟩) n n, .int .i64 0, .bool false, .slice (some ⟨m, 0, none⟩) n n] 61)).drew K d r m n noV noG false :=
  ⟨heap_new' _ _ _ hK, hd.alloc _, hr.alloc _, hm.alloc _, fun i hi => OwnW.nil _ _⟩
set_option maxHeartbeats 2000000 in
set_option maxRecDepth 100000 in
theorem rNew (n : Nat) (w : World) (h1 : 1 ≤ n ∧ n ≤ 8) : Calls Try.prog 7 #[.int .i64 n] w (NewOkR w n) := by
  obtain ⟨O1, hO1, hr1⟩ := make1 n (by omega)
  obtain ⟨O2, hO2, hr2⟩ := make2 n (by omega)
  obtain ⟨O3, hO3, hr3⟩ := make3 n (by omega)
  have H1 := Lib.hid hr1
  have H2 := Lib.hid hr2
  have H3 := Lib.hid hr3
  clear hr1 hr2 hr3
  go_enter Try.func7, Try.ntmps7
  go_wp2
  go_region
  all_goals
    go_wp2
    go_ret2
    refine ⟨_, _, _, _, rfl, rv_new _ n _ _ _ ?_ ?_ ?_ _ ?_, ?_, ?_, ?_, ?_, ?_⟩
    all_goals first
      | exact ((H1.out _ _ (by first | rfl | simp)).alloc _).alloc _
      | exact (H1.out _ _ (by first | rfl | simp)).alloc _
      | exact H1.out _ _ (by first | rfl | simp)
      | exact ((H2.out _ _ (by first | rfl | simp)).alloc _).alloc _
      | exact (H2.out _ _ (by first | rfl | simp)).alloc _
      | exact H2.out _ _ (by first | rfl | simp)
      | exact ((H3.out _ _ (by first | rfl | simp)).alloc _).alloc _
      | exact (H3.out _ _ (by first | rfl | simp)).alloc _
      | exact H3.out _ _ (by first | rfl | simp)
      | exact (below_one (below_one (below_one (below_one (Below.refl _ _) _) _) _) _).drew
      | (simp; done)
      | omega
end Go.Proofs.Ytnnpclknlccmiaa
