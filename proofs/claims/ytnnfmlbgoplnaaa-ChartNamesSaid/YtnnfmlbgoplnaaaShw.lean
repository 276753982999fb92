/-
  Hide and Show: the program's, and the document's.
-/
import Derived.Test.YtnnfmlbgoplnaaaDer
set_option linter.unusedVariables false
set_option linter.unusedSimpArgs false
namespace Go.Proofs.Ytnnfmlbgoplnaaa
open Go Go.RowKit

abbrev okW (k : Int) : Prop := 0 ≤ k ∧ k < 18446744073709551616
set_option maxHeartbeats 1000000 in
theorem cIsObject (a : Int) (q : Bool) (hq : decide (okO a) = q) (w : World) :
    Calls Try.prog 95 #[.int .i64 a] w fun e w' => e = .returned (.bool q) ∧ w' = w := by
  subst hq
  by_cases h0 : 0 ≤ a
  · by_cases h1 : a < 16
    · rw [decide_eq_true (show okO a from ⟨h0, h1⟩)]
      go_enter Try.func95, Try.ntmps95
      go_wp2
      go_ret
      exact ⟨rfl, rfl⟩
    · rw [decide_eq_false (show ¬ okO a from fun h => h1 h.2)]
      go_enter Try.func95, Try.ntmps95
      go_wp2
      go_ret
      exact ⟨rfl, rfl⟩
  · rw [decide_eq_false (show ¬ okO a from fun h => h0 h.1)]
    go_enter Try.func95, Try.ntmps95
    go_wp2
    go_ret
    exact ⟨rfl, rfl⟩
theorem ret_ue {a b c d : Int} (h : a = b) (h2 : c = d) : Ending.returned (.tuple #[.int .u64 a, .int .i64 c]) = .returned (.tuple #[.int .u64 b, .int .i64 d]) := by rw [h, h2]
theorem ret_ib {x i : Int} {c b : Bool} (h1 : x = i) (h2 : c = b) : Ending.returned (.tuple #[.int .i64 x, .bool c]) = .returned (.tuple #[.int .i64 i, .bool b]) := by rw [h1, h2]
theorem hid_bad {n a : Int} (k : Int) (h : ¬ (okN n ∧ okO a)) : 0 = hidV n k a ∧ 2 = hidE n a := by unfold hidV hidE; rw [if_neg h, if_neg h]; exact ⟨rfl, rfl⟩
theorem hid_good {n a : Int} (h : okN n ∧ okO a) : 0 = hidE n a := by unfold hidE; rw [if_pos h]
theorem shw_bad {w k a : Int} (h : ¬ (okO a ∧ xr w (der k a) ≤ 16)) : 0 = shwV w k a ∧ false = shwB w k a := by unfold shwV shwB; rw [if_neg h, decide_eq_false h]; exact ⟨rfl, rfl⟩
theorem shw_good {w k a : Int} (h : okO a ∧ xr w (der k a) ≤ 16) : xr w (der k a) - 1 = shwV w k a ∧ true = shwB w k a := by unfold shwV shwB; rw [if_pos h, decide_eq_true h]; exact ⟨rfl, rfl⟩
set_option maxHeartbeats 2000000 in
theorem cShow (x k a : Int) (hk : okW k) (w : World) :
    Calls Try.prog 85 #[.int .u64 x, .int .u64 k, .int .i64 a] w fun e w' => e = .returned (.tuple #[.int .i64 (shwV x k a), .bool (shwB x k a)]) ∧ Below w.heap.size w w' := by
  have HA := Lib.hid (cIsObject a _ rfl)
  by_cases ha : okO a
  · rw [decide_eq_true ha] at HA
    have HC := Lib.hid (cDerived k a hk ha)
    have HB : Hid (∀ d, Go.bits .xor .u64 x d = xr x d) := Lib.hid (fun _ => rfl)
    by_cases h1 : xr x (der k a) ≤ 16
    · have HX := Lib.hid (shw_good ⟨ha, h1⟩)
      have h0 := (xr_range x (der k a)).1
      clear ha hk
      generalize der k a = d at *
      generalize hz : xr x d = z at *
      have hz2 : Go.bits .xor .u64 x d = z := hz
      clear hz HB
      go_enter Try.func85, Try.ntmps85
      go_wp2_with fail
      refine (HA.out _).mono ?_
      rintro e w1 ⟨rfl, rfl⟩
      go_wp2_with fail
      refine (HC.out _).mono ?_
      rintro e w1 ⟨rfl, hb⟩
      have HW := Lib.hid hb
      clear hb
      go_wp2
      go_ret2
      exact ⟨ret_ib HX.out.1 HX.out.2, HW.out⟩
    · have HX := Lib.hid (shw_bad (fun h : okO a ∧ xr x (der k a) ≤ 16 => h1 h.2))
      clear ha hk
      generalize der k a = d at *
      generalize hz : xr x d = z at *
      have hz2 : Go.bits .xor .u64 x d = z := hz
      clear hz HB
      go_enter Try.func85, Try.ntmps85
      go_wp2_with fail
      refine (HA.out _).mono ?_
      rintro e w1 ⟨rfl, rfl⟩
      go_wp2_with fail
      refine (HC.out _).mono ?_
      rintro e w1 ⟨rfl, hb⟩
      have HW := Lib.hid hb
      clear hb
      go_wp2
      go_ret2
      exact ⟨ret_ib HX.out.1 HX.out.2, HW.out⟩
  · rw [decide_eq_false ha] at HA
    have HX := Lib.hid (shw_bad (fun h : okO a ∧ xr x (der k a) ≤ 16 => ha h.1))
    clear ha hk
    go_enter Try.func85, Try.ntmps85
    go_wp2_with fail
    refine (HA.out _).mono ?_
    rintro e w1 ⟨rfl, rfl⟩
    go_wp2
    go_ret2
    exact ⟨ret_ib HX.out.1 HX.out.2, Below.refl _ _⟩
set_option maxHeartbeats 2000000 in
theorem rShow (x k a : Int) (hk : okW k) (w : World) :
    Calls Try.prog 91 #[.int .u64 x, .int .u64 k, .int .i64 a] w fun e w' => e = .returned (.tuple #[.int .i64 (shwV x k a), .bool (shwB x k a)]) ∧ Below w.heap.size w w' := by
  by_cases h3 : a < 0
  · have HX := Lib.hid (shw_bad (fun h : okO a ∧ xr x (der k a) ≤ 16 => by have := h.1.1; omega))
    go_enter Try.func91, Try.ntmps91
    go_wp2
    go_ret2
    exact ⟨ret_ib HX.out.1 HX.out.2, Below.refl _ _⟩
  · by_cases h4 : 16 ≤ a
    · have HX := Lib.hid (shw_bad (fun h : okO a ∧ xr x (der k a) ≤ 16 => by have := h.1.2; omega))
      go_enter Try.func91, Try.ntmps91
      go_wp2
      go_ret2
      exact ⟨ret_ib HX.out.1 HX.out.2, Below.refl _ _⟩
    · have ha : okO a := ⟨by omega, by omega⟩
      have HC := Lib.hid (rTurned k a hk ha)
      by_cases h1 : xr x (der k a) ≤ 16
      · have HX := Lib.hid (shw_good ⟨ha, h1⟩)
        have h0 := (xr_range x (der k a)).1
        clear ha hk
        generalize der k a = d at *
        generalize hz : xr x d = z at *
        have hz2 : Go.bits .xor .u64 x d = z := hz
        clear hz
        go_enter Try.func91, Try.ntmps91
        go_wp2_with fail
        refine (HC.out _).mono ?_
        rintro e w1 ⟨rfl, hb⟩
        have HW := Lib.hid hb
        clear hb
        go_wp2
        go_ret2
        exact ⟨ret_ib HX.out.1 HX.out.2, HW.out⟩
      · have HX := Lib.hid (shw_bad (fun h : okO a ∧ xr x (der k a) ≤ 16 => h1 h.2))
        clear ha hk
        generalize der k a = d at *
        generalize hz : xr x d = z at *
        have hz2 : Go.bits .xor .u64 x d = z := hz
        clear hz
        go_enter Try.func91, Try.ntmps91
        go_wp2_with fail
        refine (HC.out _).mono ?_
        rintro e w1 ⟨rfl, hb⟩
        have HW := Lib.hid hb
        clear hb
        go_wp2
        go_ret2
        exact ⟨ret_ib HX.out.1 HX.out.2, HW.out⟩
end Go.Proofs.Ytnnfmlbgoplnaaa
