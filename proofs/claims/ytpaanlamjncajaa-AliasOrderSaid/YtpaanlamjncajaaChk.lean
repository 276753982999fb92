/-
  isSize, areFlags, roundUp, Check, Step, Serves of the program.
-/
import Derived.Test.YtpaanlamjncajaaMap
set_option linter.unusedVariables false
set_option linter.unusedSimpArgs false
namespace Go.Proofs.Ytpaanlamjncajaa
open Go Go.RowKit

set_option maxHeartbeats 1000000 in
theorem cIsSize (s : Int) (q : Bool) (hq : szB s = q) (w : World) :
    Calls Try.prog 19 #[.int .i64 s] w fun e w' => e = .returned (.bool q) ∧ w' = w := by
  subst hq
  unfold szB
  by_cases h0 : 1 ≤ s
  · by_cases h1 : s ≤ 1024
    · rw [decide_eq_true (show 1 ≤ s ∧ s ≤ 1024 from ⟨h0, h1⟩)]
      go_enter Try.func19, Try.ntmps19
      go_wp2
      go_ret
      exact ⟨rfl, rfl⟩
    · rw [decide_eq_false (show ¬ (1 ≤ s ∧ s ≤ 1024) from fun h => h1 h.2)]
      go_enter Try.func19, Try.ntmps19
      go_wp2
      go_ret
      exact ⟨rfl, rfl⟩
  · rw [decide_eq_false (show ¬ (1 ≤ s ∧ s ≤ 1024) from fun h => h0 h.1)]
    go_enter Try.func19, Try.ntmps19
    go_wp2
    go_ret
    exact ⟨rfl, rfl⟩
set_option maxHeartbeats 1000000 in
theorem cAreFlags (s : Int) (q : Bool) (hq : flB s = q) (w : World) :
    Calls Try.prog 21 #[.int .i64 s] w fun e w' => e = .returned (.bool q) ∧ w' = w := by
  subst hq
  unfold flB
  by_cases h0 : 0 ≤ s
  · by_cases h1 : s ≤ 7
    · rw [decide_eq_true (show 0 ≤ s ∧ s ≤ 7 from ⟨h0, h1⟩)]
      go_enter Try.func21, Try.ntmps21
      go_wp2
      go_ret
      exact ⟨rfl, rfl⟩
    · rw [decide_eq_false (show ¬ (0 ≤ s ∧ s ≤ 7) from fun h => h1 h.2)]
      go_enter Try.func21, Try.ntmps21
      go_wp2
      go_ret
      exact ⟨rfl, rfl⟩
  · rw [decide_eq_false (show ¬ (0 ≤ s ∧ s ≤ 7) from fun h => h0 h.1)]
    go_enter Try.func21, Try.ntmps21
    go_wp2
    go_ret
    exact ⟨rfl, rfl⟩
set_option maxHeartbeats 1000000 in
theorem cRoundUp (n a : Int) (h1 : 1 ≤ n) (h2 : n ≤ 1024) (h : a = 8 ∨ a = 16 ∨ a = 32 ∨ a = 64) (w : World) :
    Calls Try.prog 22 #[.int .i64 n, .int .i64 a] w fun e w' => e = .returned (.int .i64 (upV n a)) ∧ w' = w := by
  rcases h with rfl | rfl | rfl | rfl
  · go_enter Try.func22, Try.ntmps22
    go_wp2
    go_ret
    exact ⟨rfl, rfl⟩
  · go_enter Try.func22, Try.ntmps22
    go_wp2
    go_ret
    exact ⟨rfl, rfl⟩
  · go_enter Try.func22, Try.ntmps22
    go_wp2
    go_ret
    exact ⟨rfl, rfl⟩
  · go_enter Try.func22, Try.ntmps22
    go_wp2
    go_ret
    exact ⟨rfl, rfl⟩
theorem arg_new (w : World) (c : Sp) : SpAt (w.alloc (.cells c.arr 23)) w.heap.size c := heap_new _ _
set_option maxHeartbeats 2000000 in
theorem cCheck (c : Sp) (w : World) :
    Calls Try.prog 9 #[c.agg] w fun e w' => e = .returned (.int .i64 c.chk) ∧ Below w.heap.size w w' := by
  have HX := Lib.hid (arg_new w c)
  cases hs : szB c.size with
  | false =>
    rw [chk_no (by simp [Sp.ok, hs])]
    go_enter Try.func9, Try.ntmps9
    go_wp2_with fail
    refine (cIsSize c.size false hs _).mono ?_
    rintro e w1 ⟨rfl, rfl⟩
    go_wp2
    go_ret
    exact ⟨rfl, below_one (Below.refl _ _) _⟩
  | true =>
    have HA := fun w => cIsAlign c.align w
    cases ha : alB c.align with
    | false =>
      rw [chk_no (by simp [Sp.ok, ha])]
      rw [ha] at HA
      have HA := Lib.hid HA
      go_enter Try.func9, Try.ntmps9
      go_wp2_with fail
      refine (cIsSize c.size true hs _).mono ?_
      rintro e w1 ⟨rfl, rfl⟩
      go_wp2_with fail
      refine (HA.out _).mono ?_
      rintro e w1 ⟨rfl, hb1⟩
      have HB := Lib.hid (below_then (below_one (Below.refl w.heap.size w) _) hb1)
      clear hb1
      go_wp2
      go_ret
      exact ⟨rfl, HB.out⟩
    | true =>
      rw [ha] at HA
      have HA := Lib.hid HA
      cases hf : flB c.flags with
      | false =>
        rw [chk_no (by simp [Sp.ok, hf])]
        go_enter Try.func9, Try.ntmps9
        go_wp2_with fail
        refine (cIsSize c.size true hs _).mono ?_
        rintro e w1 ⟨rfl, rfl⟩
        go_wp2_with fail
        refine (HA.out _).mono ?_
        rintro e w1 ⟨rfl, hb1⟩
        have HB := Lib.hid (below_then (below_one (Below.refl w.heap.size w) _) hb1)
        obtain ⟨c0, c1, c2⟩ := (HX.out.below hb1).cells
        clear hb1
        go_wp2_with fail
        refine (cAreFlags c.flags false hf _).mono ?_
        rintro e w2 ⟨rfl, rfl⟩
        go_wp2
        go_ret
        exact ⟨rfl, HB.out⟩
      | true =>
        rw [chk_yes (by simp [Sp.ok, hs, ha, hf])]
        go_enter Try.func9, Try.ntmps9
        go_wp2_with fail
        refine (cIsSize c.size true hs _).mono ?_
        rintro e w1 ⟨rfl, rfl⟩
        go_wp2_with fail
        refine (HA.out _).mono ?_
        rintro e w1 ⟨rfl, hb1⟩
        have HB := Lib.hid (below_then (below_one (Below.refl w.heap.size w) _) hb1)
        obtain ⟨c0, c1, c2⟩ := (HX.out.below hb1).cells
        clear hb1
        go_wp2_with fail
        refine (cAreFlags c.flags true hf _).mono ?_
        rintro e w2 ⟨rfl, rfl⟩
        go_wp2
        go_ret
        exact ⟨rfl, HB.out⟩
set_option maxHeartbeats 2000000 in
theorem cStep (c : Sp) (w : World) :
    Calls Try.prog 11 #[c.agg] w fun e w' => e = .returned (.int .i64 c.step) ∧ Below w.heap.size w w' := by
  have HX := Lib.hid (arg_new w c)
  have HC := fun w => cCheck c w
  cases ho : c.ok with
  | false =>
    rw [step_no ho]
    rw [chk_no ho] at HC
    have HC := Lib.hid HC
    go_enter Try.func11, Try.ntmps11
    go_wp2_with fail
    refine (HC.out _).mono ?_
    rintro e w1 ⟨rfl, hb1⟩
    have HB := Lib.hid (below_then (below_one (Below.refl w.heap.size w) _) hb1)
    clear hb1
    go_wp2
    go_ret
    exact ⟨rfl, HB.out⟩
  | true =>
    rw [step_yes ho]
    rw [chk_yes ho] at HC
    have HC := Lib.hid HC
    obtain ⟨⟨h1, h2⟩, h3, h4⟩ := Sp.ok_iff.1 ho
    have HR := Lib.hid (fun w => cRoundUp c.size c.align h1 h2 h3 w)
    clear h1 h2 h3 h4
    go_enter Try.func11, Try.ntmps11
    go_wp2_with fail
    refine (HC.out _).mono ?_
    rintro e w1 ⟨rfl, hb1⟩
    have HB := Lib.hid (below_then (below_one (Below.refl w.heap.size w) _) hb1)
    obtain ⟨c0, c1, c2⟩ := (HX.out.below hb1).cells
    clear hb1
    go_wp2_with fail
    refine (HR.out _).mono ?_
    rintro e w2 ⟨rfl, rfl⟩
    go_wp2
    go_ret
    exact ⟨rfl, HB.out⟩
end Go.Proofs.Ytpaanlamjncajaa
