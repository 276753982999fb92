/-
  New of the program, and of the document's answer.
-/
import Derived.Test.YtkcogdojohlpcaaMem
set_option linter.unusedVariables false
set_option linter.unusedSimpArgs false
namespace Go.Proofs.Ytkcogdojohlpcaa
open Go Go.RowKit

theorem makeW (n : Nat) (hn : n ≤ 10000) : ∃ O : Obj, (∀ w : World, (Instr.makeSlice 37 (.int .i64 (n : Int)) (.int .i64 (n : Int))).run Try.prog w = .ok (.slice (some ⟨w.heap.size, 0, none⟩) n n) (w.alloc O)) ∧ ∀ w : World, (w.alloc O).rowIs w.heap.size 32 n (fun _ => .int .u64 0) :=
  ⟨_, fun w => run_make_row' (P := Try.prog) 37 32 (.int .u64 0) 8 Try.underlying37 (by kernel_rfl) rfl .i64 .i64 n (by omega) (by omega) w, fun w => World.rowIs_made w _ n _⟩

theorem mem_new (w : World) (n : Nat) (O : Obj) (h1 : 1 ≤ n) (h2 : n ≤ 4096) (hr : ∀ w : World, (w.alloc O).rowIs w.heap.size 32 n (fun _ => .int .u64 0)) :
    MemAt (((w.alloc (.cells #[.int .i64 n] 3)).alloc O).alloc (.cells #[.slice (some ⟨w.heap.size + 1, 0, none⟩) n n, .int .i64 0, .func (.func 24) #[] #[.pointer (some ⟨w.heap.size, 0, none⟩)]] 53)) (w.heap.size + 1 + 1) (w.heap.size + 1) w.heap.size n (fun _ => 0) 0 := by
  have hk := World.rowIs_alloc w #[.int .i64 (n : Int)] 3 (fun _ => .int .i64 (n : Int)) (fun i hi => by
    have : i = 0 := by simpa using hi
    subst this; rfl)
  have hb := hr (w.alloc (.cells #[.int .i64 n] 3))
  have ha := World.rowIs_alloc ((w.alloc (.cells #[.int .i64 n] 3)).alloc O) #[.slice (some ⟨w.heap.size + 1, 0, none⟩) n n, .int .i64 0, .func (.func 24) #[] #[.pointer (some ⟨w.heap.size, 0, none⟩)]] 53 (memF (w.heap.size + 1) w.heap.size n 0) (fun i hi => by
    have h3 : i < 3 := hi
    match i, h3 with
    | 0, _ => rfl
    | 1, _ => rfl
    | 2, _ => rfl)
  rw [size_alloc, size_alloc] at ha
  rw [size_alloc] at hb
  exact ⟨ha, hb.alloc _, (hk.alloc _).alloc _, by omega, by omega, by omega, h1, h2⟩

set_option maxHeartbeats 1000000 in
set_option maxRecDepth 100000 in
theorem cNewBad (n : Int) (w : World) (h : n < 1 ∨ 4096 < n) :
    Calls Try.prog 8 #[.int .i64 n] w fun e w' => e = .returned (.tuple #[.pointer none, .int .i64 9]) ∧ Below w.heap.size w w' := by
  by_cases h1 : n < 1
  · go_enter Try.func8, Try.ntmps8
    go_wp2
    go_ret2
    exact ⟨rfl, below_one (Below.refl _ _) _⟩
  · have h2 : 4096 < n := by omega
    go_enter Try.func8, Try.ntmps8
    go_wp2
    go_ret2
    exact ⟨rfl, below_one (Below.refl _ _) _⟩

set_option maxHeartbeats 1000000 in
set_option maxRecDepth 100000 in
theorem cNew (n : Nat) (w : World) (h1 : 1 ≤ n) (h2 : n ≤ 4096) :
    Calls Try.prog 8 #[.int .i64 n] w fun e w' => ∃ a b k, e = .returned (.tuple #[.pointer (some ⟨a, 0, none⟩), .int .i64 0]) ∧ MemAt w' a b k n (fun _ => 0) 0 ∧ Below w.heap.size w w' ∧ w.heap.size ≤ a ∧ w.heap.size ≤ b ∧ w.heap.size ≤ k := by
  obtain ⟨O, hO, hr⟩ := makeW n (by omega)
  have HR := Lib.hid hr
  clear hr
  go_enter Try.func8, Try.ntmps8
  go_wp2
  go_ret2
  exact ⟨_, _, _, rfl, mem_new w n O h1 h2 HR.out, below_one (below_one (below_one (Below.refl _ _) _) _) _, by omega, by omega, Nat.le_refl _⟩

theorem ref_new (w : World) (n : Nat) (O : Obj) (h1 : 1 ≤ n) (h2 : n ≤ 4096) (hr : ∀ w : World, (w.alloc O).rowIs w.heap.size 32 n (fun _ => .int .u64 0)) :
    RefAt ((w.alloc O).alloc (.cells #[.slice (some ⟨w.heap.size, 0, none⟩) n n, .int .i64 0] 55)) (w.heap.size + 1) w.heap.size n (fun _ => 0) 0 := by
  have hb := hr w
  have ha := World.rowIs_alloc (w.alloc O) #[.slice (some ⟨w.heap.size, 0, none⟩) n n, .int .i64 0] 55 (refF w.heap.size n 0) (fun i hi => by
    have h3 : i < 2 := hi
    match i, h3 with
    | 0, _ => rfl
    | 1, _ => rfl)
  rw [size_alloc] at ha
  exact ⟨ha, hb.alloc _, by omega, h1, h2⟩

set_option maxHeartbeats 1000000 in
set_option maxRecDepth 100000 in
theorem rNewBad (n : Int) (w : World) (h : n < 1 ∨ 4096 < n) :
    Calls Try.prog 9 #[.int .i64 n] w fun e w' => e = .returned (.tuple #[.pointer none, .int .i64 9]) ∧ Below w.heap.size w w' := by
  by_cases h1 : n < 1
  · go_enter Try.func9, Try.ntmps9
    go_wp2
    go_ret2
    exact ⟨rfl, Below.refl _ _⟩
  · have h2 : 4096 < n := by omega
    go_enter Try.func9, Try.ntmps9
    go_wp2
    go_ret2
    exact ⟨rfl, Below.refl _ _⟩

set_option maxHeartbeats 1000000 in
set_option maxRecDepth 100000 in
theorem rNew (n : Nat) (w : World) (h1 : 1 ≤ n) (h2 : n ≤ 4096) :
    Calls Try.prog 9 #[.int .i64 n] w fun e w' => ∃ a b, e = .returned (.tuple #[.pointer (some ⟨a, 0, none⟩), .int .i64 0]) ∧ RefAt w' a b n (fun _ => 0) 0 ∧ Below w.heap.size w w' ∧ w.heap.size ≤ a ∧ w.heap.size ≤ b := by
  obtain ⟨O, hO, hr⟩ := makeW n (by omega)
  have HR := Lib.hid hr
  clear hr
  go_enter Try.func9, Try.ntmps9
  go_wp2
  go_ret2
  exact ⟨_, _, rfl, ref_new w n O h1 h2 HR.out, below_one (below_one (Below.refl _ _) _) _, by omega, Nat.le_refl _⟩
end Go.Proofs.Ytkcogdojohlpcaa
