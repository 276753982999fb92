/-
  The closed law SizesKnown, walked.
-/
import Derived.Test.YtondaafkpjmobaaDoorAnswers
set_option linter.unusedVariables false
set_option linter.unusedSimpArgs false
namespace Go.Proofs.YtondaafkpjmobaaDoor
open Go Go.RowKit

set_option maxHeartbeats 4000000 in
theorem walkKnown (W : World) (ht : Tab W) : Calls Tryd.prog 6 #[] W fun e W' => e = .returned (.bool true) ∧ Below W.heap.size W W' := by
  have HT : Hid (∀ w', Below W.heap.size W w' → Tab w') := Lib.hid (fun w' hb => ht.below hb)
  clear ht
  go_enter Tryd.func6, Tryd.ntmps6
  go_wp2
  go_loopw [1] (fun i wr => ∃ n : Int, -3 ≤ n ∧ n ≤ 600 ∧ i = .int .i64 n ∧ Hid (Below W.heap.size W wr)) (fun i _ => (600 - intOf i).toNat)
  case atStart => exact ⟨-3, by omega, by omega, rfl, Lib.hid (Below.refl _ _)⟩
  case round =>
    obtain ⟨n, h0, h1, rfl, HW0⟩ := hrel
    by_cases hlt : n < 600
    · go_wp2_with fail
      refine (walkAnswers n _ (HT.out _ HW0.out)).mono ?_
      rintro e w1 ⟨rfl, hb1⟩
      have HW1 := Lib.hid (below_then HW0.out hb1)
      clear hb1 HW0
      go_wp2
      go_roundw
      case rel => exact ⟨n + 1, by omega, by omega, rfl, HW1⟩
      case measure => simp [intOf]; omega
    · obtain rfl : n = 600 := by omega
      go_wp2_with fail
      refine (works _ (HT.out _ HW0.out)).mono ?_
      rintro e w1 ⟨rfl, hb1⟩
      have HW1 := Lib.hid (below_then HW0.out hb1)
      clear hb1 HW0
      go_wp2_with fail
      refine (walkAnswers _ _ (HT.out _ HW1.out)).mono ?_
      rintro e w2 ⟨rfl, hb2⟩
      have HW2 := Lib.hid (below_then HW1.out hb2)
      clear hb2 HW1
      go_wp2_with fail
      refine (walkAnswers _ _ (HT.out _ HW2.out)).mono ?_
      rintro e w3 ⟨rfl, hb3⟩
      have HW3 := Lib.hid (below_then HW2.out hb3)
      clear hb3 HW2
      go_wp2
      go_ret
      exact ⟨rfl, HW3.out⟩
end Go.Proofs.YtondaafkpjmobaaDoor
