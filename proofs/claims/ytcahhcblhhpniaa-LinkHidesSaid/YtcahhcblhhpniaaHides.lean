/-
  The laws LinkHides, LinkFresh and LinkBack, walked.
-/
import Derived.Test.YtcahhcblhhpniaaWorks
set_option linter.unusedVariables false
set_option linter.unusedSimpArgs false
namespace Go.Proofs.Ytcahhcblhhpniaa
open Go Go.RowKit

set_option maxHeartbeats 4000000 in
theorem walkHides (n k a : Int) (hk : okW k) (W : World) : Calls Try.prog 3 #[.int .i64 n, .int .u64 k, .int .i64 a] W fun e W' => e = .returned (.bool true) ∧ Below W.heap.size W W' := by
  have HC := Lib.hid (cHide n k a hk)
  have HR := Lib.hid (rHide n k a hk)
  have HS : Hid (∀ x, ∃ v b, (∀ w, Calls Try.prog 12 #[.int .u64 x, .int .u64 k, .int .i64 a] w fun e w' => e = .returned (.tuple #[.int .i64 v, .bool b]) ∧ Below w.heap.size w w') ∧ ∀ w, Calls Try.prog 13 #[.int .u64 x, .int .u64 k, .int .i64 a] w fun e w' => e = .returned (.tuple #[.int .i64 v, .bool b]) ∧ Below w.heap.size w w') := Lib.hid (fun x => ⟨_, _, cShow x k a hk, rShow x k a hk⟩)
  clear hk
  generalize hidV n k a = V at HC HR
  generalize hidE n a = E at HC HR
  obtain ⟨P, hP⟩ : ∃ P, IntKind.u64.wrap n = P := ⟨_, rfl⟩
  obtain ⟨X, hX⟩ : ∃ X, Go.bits .xor .u64 V 16 = X := ⟨_, rfl⟩
  have hv : (V != V) = false := by simp
  have he : (E != E) = false := by simp
  go_enter Try.func3, Try.ntmps3
  go_wp2_with fail
  refine (HC.out _).mono ?_
  rintro e w1 ⟨rfl, hb1⟩
  have HW1 := Lib.hid hb1
  clear hb1 HC
  go_wp2_with fail
  refine (HR.out _).mono ?_
  rintro e w2 ⟨rfl, hb2⟩
  have HW2 := Lib.hid (below_then HW1.out hb2)
  clear hb2 HR HW1
  go_wp2
  go_loopw [11] (fun i wr => ∃ j : Nat, j ≤ 4 ∧ i = .int .i64 j ∧ Hid (Below W.heap.size W wr)) (fun i _ => 4 - (intOf i).toNat)
  case atStart => exact ⟨0, by omega, rfl, HW2⟩
  case round =>
    clear HW2
    obtain ⟨j, hj, rfl, HW⟩ := hrel
    by_cases hlt : j < 4
    · have hc : (wr.alloc (.cells #[.int .u64 k, .int .u64 P, .int .u64 V, .int .u64 X] 22)).cell? ⟨wr.heap.size, j, none⟩ = some (.int .u64 (pk [k, P, V, X] j)) := by
        rcases (by omega : j = 0 ∨ j = 1 ∨ j = 2 ∨ j = 3) with rfl | rfl | rfl | rfl <;> exact self_cell (heap_new _ _) _ _ rfl
      generalize pk [k, P, V, X] j = x at hc
      obtain ⟨v, b, h1, h2⟩ := HS.out x
      have H1 := Lib.hid h1
      have H2 := Lib.hid h2
      have hvv : (v != v) = false := by simp
      have hbb : (b != b) = false := by simp
      clear h1 h2
      go_wp2_with fail
      refine (H1.out _).mono ?_
      rintro e w3 ⟨rfl, hb3⟩
      have HW3 := Lib.hid (below_then (below_one HW.out _) hb3)
      clear hb3 HW hc
      go_wp2_with fail
      refine (H2.out _).mono ?_
      rintro e w4 ⟨rfl, hb4⟩
      have HW4 := Lib.hid (below_then HW3.out hb4)
      clear hb4 HW3
      go_wp2
      go_roundw
      case rel => exact ⟨j + 1, by omega, by go_num, HW4⟩
      case measure => simp [intOf]; omega
    · obtain rfl : j = 4 := by omega
      go_wp2_with fail
      refine (works _).mono ?_
      rintro e w5 ⟨rfl, hb5⟩
      have HW5 := Lib.hid (below_then HW.out hb5)
      clear hb5 HW
      go_wp2
      go_ret
      exact ⟨rfl, HW5.out⟩
set_option maxHeartbeats 4000000 in
theorem walkFresh (n k : Int) (hk : okW k) (W : World) : Calls Try.prog 5 #[.int .i64 n, .int .u64 k] W fun e W' => e = .returned (.bool true) ∧ Below W.heap.size W W' := by
  have HCR : Hid (∃ (l : List Int) (E : Int), (∀ w, Calls Try.prog 19 #[.int .i64 n, .int .u64 k] w fun e w' => ∃ v, e = .returned (.tuple #[v, .int .i64 E]) ∧ ShowU w' v l ∧ Below w.heap.size w w') ∧ ∀ w, Calls Try.prog 20 #[.int .i64 n, .int .u64 k] w fun e w' => ∃ v, e = .returned (.tuple #[v, .int .i64 E]) ∧ ShowU w' v l ∧ Below w.heap.size w w') := Lib.hid (by
    by_cases h : okF n
    · obtain ⟨N, rfl⟩ : ∃ N : Nat, n = N := ⟨n.toNat, by have := h.1; omega⟩
      have h1 : 1 ≤ N := by have := h.1; omega
      have h2 : N ≤ 16 := by have := h.2; omega
      refine ⟨frs N k, 0, fun w => (cFresh N k h1 h2 hk w).mono ?_, fun w => (rFresh N k h1 h2 hk w).mono ?_⟩
      · rintro e w1 ⟨g, rfl, _, h4, h5⟩
        exact ⟨_, rfl, h4.show_ (frs_len N k) (by omega), h5⟩
      · rintro e w1 ⟨ao, cp, rfl, h4, h5⟩
        exact ⟨_, rfl, own_u h4, h5⟩
    · refine ⟨[], 2, fun w => (cFreshBad n k h w).mono ?_, fun w => (rFreshBad n k h w).mono ?_⟩
      · rintro e w1 ⟨rfl, rfl⟩
        exact ⟨_, rfl, ShowU.nil _, Below.refl _ _⟩
      · rintro e w1 ⟨rfl, rfl⟩
        exact ⟨_, rfl, ShowU.nil _, Below.refl _ _⟩)
  obtain ⟨l, E, h1, h2⟩ := HCR.out
  have H1 := Lib.hid h1
  have H2 := Lib.hid h2
  have he : (E == E) = true := by simp
  clear hk HCR h1 h2
  go_enter Try.func5, Try.ntmps5
  go_wp2_with fail
  refine (H1.out _).mono ?_
  rintro e w1 ⟨v1, rfl, hs1, hb1⟩
  have HW1 := Lib.hid hb1
  have HS1 := Lib.hid hs1
  clear hb1 hs1 H1
  go_wp2_with fail
  refine (H2.out _).mono ?_
  rintro e w2 ⟨v2, rfl, hs2, hb2⟩
  have HW2 := Lib.hid (below_then HW1.out hb2)
  have HS12 := Lib.hid (HS1.out.below hb2)
  have HS2 := Lib.hid hs2
  clear hb2 hs2 H2 HW1 HS1
  go_wp2_with fail
  refine (cEqWYes _ _ _ _ rfl _ HS12.out HS2.out).mono ?_
  rintro e w3 ⟨rfl, hb3⟩
  have HW3 := Lib.hid (below_then HW2.out hb3)
  clear hb3 HW2 HS12 HS2
  go_wp2_with fail
  refine (works _).mono ?_
  rintro e w5 ⟨rfl, hb5⟩
  have HW5 := Lib.hid (below_then HW3.out hb5)
  clear hb5 HW3
  go_wp2
  go_ret
  exact ⟨rfl, HW5.out⟩
set_option maxHeartbeats 4000000 in
theorem walkBack (x k y : Int) (hk : okW k) (W : World) : Calls Try.prog 6 #[.int .i64 x, .int .u64 k, .int .i64 y] W fun e W' => e = .returned (.bool true) ∧ Below W.heap.size W W' := by
  have HX := Lib.hid (cBringN x 17 17 rfl (by decide))
  have HY := Lib.hid (cBringN y 16 16 rfl (by decide))
  have h1 := bring_lt x 17 (by decide)
  have h2 := bring_lt y 16 (by decide)
  generalize bring x 17 = N at *
  generalize bring y 16 = A at *
  obtain ⟨n, hn⟩ : ∃ n : Int, (N : Int) - 1 = n := ⟨_, rfl⟩
  have hon : okN n := ⟨by omega, by omega⟩
  have hoa : okO (A : Int) := ⟨by omega, by omega⟩
  have hH := cHide n k A hk
  have hS := cShow (hidV n k A) k A hk
  obtain ⟨s1, s2⟩ := shw_hid (k := k) hon hoa
  rw [s1, s2] at hS
  rw [← hid_good ⟨hon, hoa⟩] at hH
  generalize hidV n k A = V at hH hS
  have HH := Lib.hid hH
  have HS := Lib.hid hS
  have hnn : (n == n) = true := by simp
  clear hH hS s1 s2 hk hon hoa
  go_enter Try.func6, Try.ntmps6
  go_wp2_with fail
  refine (HX.out _).mono ?_
  rintro e w1 ⟨rfl, rfl⟩
  go_wp2_with fail
  refine (HY.out _).mono ?_
  rintro e w1 ⟨rfl, rfl⟩
  go_wp2_with fail
  refine (HH.out _).mono ?_
  rintro e w1 ⟨rfl, hb1⟩
  have HW1 := Lib.hid hb1
  clear hb1
  go_wp2_with fail
  refine (HS.out _).mono ?_
  rintro e w2 ⟨rfl, hb2⟩
  have HW2 := Lib.hid (below_then HW1.out hb2)
  clear hb2
  go_wp2_with fail
  refine (works _).mono ?_
  rintro e w5 ⟨rfl, hb5⟩
  have HW5 := Lib.hid (below_then HW2.out hb5)
  clear hb5
  go_wp2
  go_ret
  exact ⟨rfl, HW5.out⟩
end Go.Proofs.Ytcahhcblhhpniaa
