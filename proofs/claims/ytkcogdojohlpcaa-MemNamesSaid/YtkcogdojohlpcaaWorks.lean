/-
  The statements' 'works' (the chapter's examples) answers true.
-/
import Derived.Test.YtkcogdojohlpcaaMops
set_option linter.unusedVariables false
set_option linter.unusedSimpArgs false
namespace Go.Proofs.Ytkcogdojohlpcaa
open Go Go.RowKit

theorem ab_ge {W : World} {a b : Nat} (ha : W.heap.size ≤ a) (hb : W.heap.size ≤ b) : ∀ x, x = a ∨ x = b → W.heap.size ≤ x := by
  rintro x (rfl | rfl) <;> assumption
set_option maxHeartbeats 2000000 in
set_option maxRecDepth 100000 in
theorem works (w : World) : Calls Try.prog 10 #[] w fun e w' => e = .returned (.bool true) ∧ Below w.heap.size w w' := by
  go_enter Try.func10, Try.ntmps10
  go_wp2_with fail
  refine (cNew 2 _ (by decide) (by decide)).mono ?_
  rintro e w1 ⟨a, b, k, rfl, hm, hb, ha, hbb, hkk⟩
  have hS := ab_ge ha hbb
  go_wp2_with fail
  refine (mStore (hm.congr two_start) 1 5 (by decide) (by decide) (two_1 _ _ _)).mono ?_
  rintro e w2 ⟨rfl, hm2, hk2⟩
  have hb2 := below_kept hb hk2 hS
  clear hm hb hk2
  go_wp2_with fail
  refine (mCasYes hm2 1 5 6 (by decide) (by decide) rfl (two_1 _ _ _)).mono ?_
  rintro e w3 ⟨rfl, hm3, hk3⟩
  have hb3 := below_kept hb2 hk3 hS
  clear hm2 hb2 hk3
  go_wp2_with fail
  refine (mCasNo hm3 1 5 7 (by decide) (by decide) (by decide)).mono ?_
  rintro e w4 ⟨rfl, hm4, hk4⟩
  have hb4 := below_kept hb3 hk4 hS
  clear hm3 hb3 hk4
  go_wp2_with fail
  refine (mLoad hm4 1 (by decide) (by decide) (x := 6) rfl).mono ?_
  rintro e w5 ⟨rfl, hm5, hk5⟩
  have hb5 := below_kept hb4 hk5 hS
  clear hm4 hb4 hk5
  go_wp2_with fail
  refine (mAdd hm5 1 3 (by decide) (by decide) (x := 6) rfl (G := two 0 9) (two_1 _ _ _)).mono ?_
  rintro e w6 ⟨rfl, hm6, hk6⟩
  have hb6 := below_kept hb5 hk6 hS
  clear hm5 hb5 hk6
  go_wp2_with fail
  refine (mCas2Yes hm6 0 0 9 1 1 (by decide) (by decide) rfl rfl (two_2 _ _ _ _)).mono ?_
  rintro e w7 ⟨rfl, hm7, hk7⟩
  have hb7 := below_kept hb6 hk7 hS
  clear hm6 hb6 hk7
  go_wp2_with fail
  refine (mCas2Bad hm7 1 1 0 1 1 (by decide)).mono ?_
  rintro e w8 ⟨rfl, hm8, hk8⟩
  have hb8 := below_kept hb7 hk8 hS
  clear hm7 hb7 hk8
  go_wp2_with fail
  refine (cWords hm8).mono ?_
  rintro e w9 ⟨g, cap, rfl, hcap, hg, hW, hs, hb9⟩
  rw [wl_two] at hs
  have hm9 := hm8.below hb9
  have hb9 := below_then hb8 hb9
  clear hm8 hb8 hW
  go_wp2_with fail
  refine (eqWordsT _ _ [1, 1] _ (hs.below (below_one (Below.refl _ _) _)) (show_two _ 1 1 _ rfl)).mono ?_
  rintro e w10 ⟨rfl, hb10⟩
  have hm10 := (hm9.alloc _).below hb10
  have hb10 := below_then (below_one hb9 _) hb10
  clear hm9 hb9 hs
  go_wp2_with fail
  refine (cCount hm10).mono ?_
  rintro e w11 ⟨rfl, rfl⟩
  go_wp2
  go_ret
  exact ⟨rfl, hb10⟩
end Go.Proofs.Ytkcogdojohlpcaa
