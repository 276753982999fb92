/-
  isSize, isAlign, roundUp, slabBytes of the program.
-/
import Derived.Test.YtghmopeaphandaaPure
set_option linter.unusedVariables false
set_option linter.unusedSimpArgs false
namespace Go.Proofs.Ytghmopeaphandaa
open Go Go.RowKit

theorem and_pow (a : Int) (h1 : 1 ≤ a) (h2 : a ≤ 64) : (bits BinOp.and IntKind.i64 a (a - 1) == 0) = decide (okA a) := by
  obtain ⟨n, rfl⟩ : ∃ n : Nat, a = n := ⟨a.toNat, by omega⟩
  have h : ∀ n : Fin 65, 1 ≤ n.val → (bits BinOp.and IntKind.i64 (n.val : Int) ((n.val : Int) - 1) == 0) = decide (okA (n.val : Int)) := by decide +kernel
  exact h ⟨n, by omega⟩ (by dsimp only; omega)
set_option maxHeartbeats 1000000 in
theorem cIsSize (s : Int) (w : World) : Calls Try.prog 16 #[.int .i64 s] w fun e w' => e = .returned (.bool (decide (okS s))) ∧ w' = w := by
  obtain ⟨q, hq⟩ : ∃ q, decide (okS s) = q := ⟨_, rfl⟩
  rw [hq]
  have HQ := Lib.hid hq
  clear hq
  by_cases h1 : 1 ≤ s
  · by_cases h2 : s ≤ 2048
    · have HY : Hid (true = q) := Lib.hid (by rw [← HQ.out]; exact (decide_eq_true ⟨h1, h2⟩).symm)
      clear HQ
      go_enter Try.func16, Try.ntmps16
      go_wp2
      go_ret
      exact ⟨ret_bool (by simpa using HY.out), rfl⟩
    · have HY : Hid (false = q) := Lib.hid (by rw [← HQ.out]; exact (decide_eq_false (fun e => h2 e.2)).symm)
      clear HQ
      go_enter Try.func16, Try.ntmps16
      go_wp2
      go_ret
      exact ⟨ret_bool (by simpa [h2] using HY.out), rfl⟩
  · have HY : Hid (false = q) := Lib.hid (by rw [← HQ.out]; exact (decide_eq_false (fun e => h1 e.1)).symm)
    clear HQ
    go_enter Try.func16, Try.ntmps16
    go_wp2
    go_ret
    exact ⟨ret_bool HY.out, rfl⟩
set_option maxHeartbeats 1000000 in
theorem cIsAlign (a : Int) (w : World) : Calls Try.prog 17 #[.int .i64 a] w fun e w' => e = .returned (.bool (decide (okA a))) ∧ w' = w := by
  obtain ⟨q, hq⟩ : ∃ q, decide (okA a) = q := ⟨_, rfl⟩
  rw [hq]
  have HQ := Lib.hid hq
  clear hq
  by_cases h1 : 1 ≤ a
  · by_cases h2 : a ≤ 64
    · go_enter Try.func17, Try.ntmps17
      go_wp2
      go_ret
      refine ⟨ret_bool ?_, rfl⟩
      rw [← HQ.out]
      exact and_pow a h1 h2
    · have HY : Hid (false = q) := Lib.hid (by rw [← HQ.out]; exact (decide_eq_false (fun e => by unfold okA at e; omega)).symm)
      clear HQ
      go_enter Try.func17, Try.ntmps17
      go_wp2
      go_ret
      exact ⟨ret_bool (by simpa [h2] using HY.out), rfl⟩
  · have HY : Hid (false = q) := Lib.hid (by rw [← HQ.out]; exact (decide_eq_false (fun e => by unfold okA at e; omega)).symm)
    clear HQ
    go_enter Try.func17, Try.ntmps17
    go_wp2
    go_ret
    exact ⟨ret_bool HY.out, rfl⟩
set_option maxHeartbeats 1000000 in
theorem cRoundUp (n u : Int) (h1 : 0 ≤ n ∧ n ≤ 4096) (h2 : 1 ≤ u ∧ u ≤ 64) (w : World) : Calls Try.prog 18 #[.int .i64 n, .int .i64 u] w fun e w' => e = .returned (.int .i64 (ru n u)) ∧ w' = w := by
  obtain ⟨h3, h4⟩ := h1
  obtain ⟨h5, h6⟩ := h2
  have h7 : 0 ≤ (n + u - 1) / u := Int.ediv_nonneg (by omega) (by omega)
  have h8 : (n + u - 1) / u * u ≤ n + u - 1 := Int.ediv_mul_le _ (by omega)
  have h9 : 0 ≤ (n + u - 1) / u * u := Int.mul_nonneg h7 (by omega)
  have h10 : (n + u - 1) / u ≤ n + u - 1 := Int.ediv_le_self _ (by omega)
  have h11 : (n + u - 1).tdiv u = (n + u - 1) / u := Int.tdiv_eq_ediv_of_nonneg (by omega)
  go_enter Try.func18, Try.ntmps18
  go_wp2
  go_ret
  exact ⟨rfl, rfl⟩
set_option maxHeartbeats 1000000 in
theorem cSlabBytes (k : Nat) (h : k < 4) (w : World) : Calls Try.prog 27 #[.int .i64 k] w fun e w' => e = .returned (.int .i64 (sb k)) ∧ w' = w := by
  rcases (by omega : k = 0 ∨ k = 1 ∨ k = 2 ∨ k = 3) with rfl | rfl | rfl | rfl <;>
  · go_enter Try.func27, Try.ntmps27
    go_wp2
    go_ret
    exact ⟨ret_int (by decide), rfl⟩
end Go.Proofs.Ytghmopeaphandaa
