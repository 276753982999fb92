/-
  The laws SizesAnswers, SizesSpecs and SizesFit, walked.
-/
import Derived.Test.YtondaafkpjmobaaDoorWorks
set_option linter.unusedVariables false
set_option linter.unusedSimpArgs false
namespace Go.Proofs.YtondaafkpjmobaaDoor
open Go Go.RowKit

set_option maxHeartbeats 8000000 in
set_option maxRecDepth 100000 in
theorem walkAnswers (x : Int) (W : World) (ht : Tab W) : Calls Tryd.prog 3 #[.int .i64 x] W fun e W' => e = .returned (.bool true) ∧ Below W.heap.size W W' := by
  have c1 := cClass x
  have c2 := rClass x
  generalize clV x = a at *
  generalize clE x = b at *
  have C1 := Lib.hid c1
  have C2 := Lib.hid c2
  clear c1 c2
  have c1 := cSize x
  have c2 := rSize x
  have c3 := cSpec x
  have c4 := rSpec x
  generalize siV x = c at *
  generalize siE x = d at *
  generalize spV x = X at *
  have C3 := Lib.hid c1
  have C4 := Lib.hid c2
  have C5 := Lib.hid c3
  have C6 := Lib.hid c4
  clear c1 c2 c3 c4
  have c1 := cWaste x
  have c2 := rWaste x
  generalize wst x = u at *
  have C7 := Lib.hid c1
  have C8 := Lib.hid c2
  clear c1 c2
  have ea : (a == a) = true := by simp
  have eb : (b == b) = true := by simp
  have ec : (c == c) = true := by simp
  have ed : (d == d) = true := by simp
  have eu : (u == u) = true := by simp
  have heq := fun w' => eqIs (c := X) (d := X) (decide_eq_true rfl) w'
  have hgd := guardK
  have HT : Hid (∀ w', Below W.heap.size W w' → Tab w') := Lib.hid (fun w' hb => ht.below hb)
  have HW0 := Lib.hid (Below.refl W.heap.size W)
  clear ht
  go_enter Tryd.func3, Tryd.ntmps3
  go_wp2_with fail
  refine (C1.out _ (HT.out _ HW0.out)).mono ?_
  rintro e w1 ⟨rfl, hb1⟩
  have HW1 := Lib.hid (below_then HW0.out hb1)
  clear hb1 HW0
  go_wp2_with fail
  refine (C2.out _).mono ?_
  rintro e w2 ⟨rfl, hb2⟩
  have HW2 := Lib.hid (below_then HW1.out hb2)
  clear hb2 HW1
  go_wp2_with fail
  refine (C3.out _ (HT.out _ HW2.out)).mono ?_
  rintro e w3 ⟨rfl, hb3⟩
  have HW3 := Lib.hid (below_then HW2.out hb3)
  clear hb3 HW2
  go_wp2_with fail
  refine (C4.out _).mono ?_
  rintro e w4 ⟨rfl, hb4⟩
  have HW4 := Lib.hid (below_then HW3.out hb4)
  clear hb4 HW3
  go_wp2_with fail
  refine (C5.out _ (HT.out _ HW4.out)).mono ?_
  rintro e w5 ⟨rfl, hb5⟩
  have HW5 := Lib.hid (below_then HW4.out hb5)
  clear hb5 HW4
  go_wp2_with (refine wpList_storeC (by rfl) _ _ (by rfl) w5.heap.size X (by rfl) (by rfl) _ (zero_new w5) rfl ?_; intro w6 h6 hk6; have hb6 := below_one_kept (below_one (Below.refl w5.heap.size w5) _) hk6 (Nat.le_refl _); have HX6 := Lib.hid h6; have HW6 := Lib.hid (below_then HW5.out hb6); clear h6 hk6 hb6 HW5; refine Stop.mk ?_)
  unfold Stop
  go_wp2_with fail
  refine (C6.out _).mono ?_
  rintro e w7 ⟨rfl, hb7⟩
  have HW7 := Lib.hid (below_then HW6.out hb7)
  have HX7 := Lib.hid (HX6.out.below hb7)
  clear hb7 HW6
  go_wp2_with (refine wpList_storeC (by rfl) _ _ (by rfl) w7.heap.size X (by rfl) (by rfl) _ (zero_new w7) rfl ?_; intro w8 h8 hk8; have hb8 := below_one_kept (below_one (Below.refl w7.heap.size w7) _) hk8 (Nat.le_refl _); have HX8 := Lib.hid h8; have HW8 := Lib.hid (below_then HW7.out hb8); have HY8 := Lib.hid (HX7.out.below hb8); obtain ⟨i0, i1, i2⟩ := HY8.out.cells; obtain ⟨j0, j1, j2⟩ := HX8.out.cells; clear h8 hk8 hb8 HW7; refine Stop.mk ?_)
  unfold Stop
  go_wp2_with fail
  refine (C7.out _ (HT.out _ HW8.out)).mono ?_
  rintro e w9 ⟨rfl, hb9⟩
  have HW9 := Lib.hid (below_then HW8.out hb9)
  clear hb9 HW8
  go_wp2_with fail
  refine (C8.out _).mono ?_
  rintro e w10 ⟨rfl, hb10⟩
  have HW10 := Lib.hid (below_then HW9.out hb10)
  clear hb10 HW9
  go_wp2_with fail
  refine (works _ (HT.out _ HW10.out)).mono ?_
  rintro e w11 ⟨rfl, hb11⟩
  have HW11 := Lib.hid (below_then HW10.out hb11)
  clear hb11 HW10
  go_wp2
  go_ret
  exact ⟨rfl, HW11.out⟩
end Go.Proofs.YtondaafkpjmobaaDoor
