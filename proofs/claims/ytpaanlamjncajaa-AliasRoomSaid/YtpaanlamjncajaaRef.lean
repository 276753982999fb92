/-
  Check, Step, Serves of the document.
-/
import Derived.Test.YtpaanlamjncajaaSrv
set_option linter.unusedVariables false
set_option linter.unusedSimpArgs false
namespace Go.Proofs.Ytpaanlamjncajaa
open Go Go.RowKit

set_option maxHeartbeats 8000000 in
theorem rCheck (c : Sp) (w : World) :
    Calls Try.prog 10 #[c.agg] w fun e w' => e = .returned (.int .i64 c.chk) ∧ Below w.heap.size w w' := by
  by_cases ha : c.align = 8 ∨ c.align = 16 ∨ c.align = 32 ∨ c.align = 64
  · by_cases h1 : 1 ≤ c.size
    · by_cases h2 : c.size ≤ 1024
      · by_cases h3 : 0 ≤ c.flags
        · by_cases h4 : c.flags ≤ 7
          · rw [chk_yes (Sp.ok_iff.2 ⟨⟨h1, h2⟩, ha, ⟨h3, h4⟩⟩)]
            rcases ha with e | e | e | e <;> (go_enter Try.func10, Try.ntmps10; go_wp2; go_ret; exact ⟨rfl, below_one (Below.refl _ _) _⟩)
          · rw [chk_no (by rw [Bool.eq_false_iff]; intro h; have := Sp.ok_iff.1 h; omega)]
            rcases ha with e | e | e | e <;> (go_enter Try.func10, Try.ntmps10; go_wp2; go_ret; exact ⟨rfl, below_one (Below.refl _ _) _⟩)
        · rw [chk_no (by rw [Bool.eq_false_iff]; intro h; have := Sp.ok_iff.1 h; omega)]
          rcases ha with e | e | e | e <;> (go_enter Try.func10, Try.ntmps10; go_wp2; go_ret; exact ⟨rfl, below_one (Below.refl _ _) _⟩)
      · rw [chk_no (by rw [Bool.eq_false_iff]; intro h; have := Sp.ok_iff.1 h; omega)]
        rcases ha with e | e | e | e <;> (go_enter Try.func10, Try.ntmps10; go_wp2; go_ret; exact ⟨rfl, below_one (Below.refl _ _) _⟩)
    · rw [chk_no (by rw [Bool.eq_false_iff]; intro h; have := Sp.ok_iff.1 h; omega)]
      rcases ha with e | e | e | e <;> (go_enter Try.func10, Try.ntmps10; go_wp2; go_ret; exact ⟨rfl, below_one (Below.refl _ _) _⟩)
  · rw [chk_no (by rw [Bool.eq_false_iff]; intro h; have := Sp.ok_iff.1 h; omega)]
    have a1 : ¬ c.align = 8 := fun e => ha (.inl e)
    have a2 : ¬ c.align = 16 := fun e => ha (.inr (.inl e))
    have a3 : ¬ c.align = 32 := fun e => ha (.inr (.inr (.inl e)))
    have a4 : ¬ c.align = 64 := fun e => ha (.inr (.inr (.inr e)))
    clear ha
    go_enter Try.func10, Try.ntmps10
    go_wp2
    go_ret
    exact ⟨rfl, below_one (Below.refl _ _) _⟩
set_option maxHeartbeats 8000000 in
theorem rStep (c : Sp) (w : World) :
    Calls Try.prog 12 #[c.agg] w fun e w' => e = .returned (.int .i64 c.step) ∧ Below w.heap.size w w' := by
  have HX := Lib.hid (arg_new w c)
  have HC := fun w => rCheck c w
  cases ho : c.ok with
  | false =>
    rw [step_no ho]
    rw [chk_no ho] at HC
    have HC := Lib.hid HC
    go_enter Try.func12, Try.ntmps12
    go_wp2_with fail
    refine (HC.out _).mono ?_
    rintro e w1 ⟨rfl, hb1⟩
    have HB := Lib.hid (below_then (below_one (Below.refl w.heap.size w) _) hb1)
    clear hb1
    go_wp2
    go_ret
    exact ⟨rfl, HB.out⟩
  | true =>
    rw [step_yes ho]
    rw [chk_yes ho] at HC
    have HC := Lib.hid HC
    obtain ⟨⟨h1, h2⟩, h3, h4⟩ := Sp.ok_iff.1 ho
    have H3 := Lib.hid h3
    clear h3 h4
    go_enter Try.func12, Try.ntmps12
    go_wp2_with fail
    refine (HC.out _).mono ?_
    rintro e w1 ⟨rfl, hb1⟩
    have HB := Lib.hid (below_then (below_one (Below.refl w.heap.size w) _) hb1)
    obtain ⟨c0, c1, c2⟩ := (HX.out.below hb1).cells
    clear hb1 HC HX
    have h3 := H3.out
    clear H3
    rcases h3 with e | e | e | e
    · have HE := Lib.hid e
      rw [e] at c1
      clear e
      go_wp2_with fail
      go_quiet (fail)
      go_wp2
      go_ret
      exact ⟨ret_int (by unfold upV; rw [HE.out]), below_drewN HB.out _⟩
    · have HE := Lib.hid e
      rw [e] at c1
      clear e
      go_wp2_with fail
      go_quiet (fail)
      go_wp2
      go_ret
      exact ⟨ret_int (by unfold upV; rw [HE.out]), below_drewN HB.out _⟩
    · have HE := Lib.hid e
      rw [e] at c1
      clear e
      go_wp2_with fail
      go_quiet (fail)
      go_wp2
      go_ret
      exact ⟨ret_int (by unfold upV; rw [HE.out]), below_drewN HB.out _⟩
    · have HE := Lib.hid e
      rw [e] at c1
      clear e
      go_wp2_with fail
      go_quiet (fail)
      go_wp2
      go_ret
      exact ⟨ret_int (by unfold upV; rw [HE.out]), below_drewN HB.out _⟩
end Go.Proofs.Ytpaanlamjncajaa
