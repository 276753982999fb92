/-
  The chapter's examples, as every statement asks them.
-/
import Derived.Test.YtondaafkpjmobaaDoorRef
set_option linter.unusedVariables false
set_option linter.unusedSimpArgs false
namespace Go.Proofs.YtondaafkpjmobaaDoor
open Go Go.RowKit

set_option maxHeartbeats 1000000 in
theorem lClass (n v q : Int) (h1 : clV n = v) (h2 : clE n = q) (w : World) (ht : Tab w) :
    Calls Tryd.prog 20 #[.int .i64 n, .int .i64 v, .int .i64 q] w fun e w' => e = .returned (.bool true) ∧ Below w.heap.size w w' := by
  have hC := cClass n w ht
  rw [h1, h2] at hC
  have HC := Lib.hid hC
  have hv : (v == v) = true := by simp
  have hq : (q == q) = true := by simp
  clear hC h1 h2 ht
  go_enter Tryd.func20, Tryd.ntmps20
  go_wp2_with fail
  refine HC.out.mono ?_
  rintro e w1 ⟨rfl, hb1⟩
  go_wp2
  go_ret
  exact ⟨rfl, hb1⟩
theorem sp_known : spV 0 = ⟨8, 8, 4⟩ ∧ spV 3 = ⟨48, 16, 4⟩ ∧ siE 0 = 0 ∧ siE 3 = 0 ∧ siV 3 = 48 ∧ siV 10 = 0 ∧ siE 10 = 9 ∧ wst 100 = 28 ∧ wst 600 = 0 := by decide
set_option maxHeartbeats 8000000 in
set_option maxRecDepth 100000 in
theorem works (W : World) (ht : Tab W) : Calls Tryd.prog 15 #[] W fun e W' => e = .returned (.bool true) ∧ Below W.heap.size W W' := by
  obtain ⟨k1, k2, k3, k4, k5, k6, k7, k8, k9⟩ := sp_known
  have s3 := cSize 3
  rw [k5, k4] at s3
  have s10 := cSize 10
  rw [k6, k7] at s10
  have p0 := cSpec 0
  rw [k1, k3] at p0
  have p3 := cSpec 3
  rw [k2, k4] at p3
  have u100 := cWaste 100
  rw [k8] at u100
  have u600 := cWaste 600
  rw [k9] at u600
  have S3 := Lib.hid s3
  have S10 := Lib.hid s10
  have P0 := Lib.hid p0
  have P3 := Lib.hid p3
  have U100 := Lib.hid u100
  have U600 := Lib.hid u600
  have q0 := fun w' => eqIs (c := ⟨8, 8, 4⟩) (d := ⟨8, 8, 4⟩) (decide_eq_true rfl) w'
  have q3 := fun w' => eqIs (c := ⟨48, 16, 4⟩) (d := ⟨48, 16, 4⟩) (decide_eq_true rfl) w'
  dsimp only at q0 q3
  have hgd := guardK
  have HT : Hid (∀ w', Below W.heap.size W w' → Tab w') := Lib.hid (fun w' hb => ht.below hb)
  have HW0 := Lib.hid (Below.refl W.heap.size W)
  clear s3 s10 p0 p3 u100 u600 k1 k2 k3 k4 k5 k6 k7 k8 k9 ht
  go_enter Tryd.func15, Tryd.ntmps15
  go_wp2_with fail
  refine (lClass 1 0 0 (by decide) (by decide) _ (HT.out _ HW0.out)).mono ?_
  rintro e w1 ⟨rfl, hb1⟩
  have HW1 := Lib.hid (below_then HW0.out hb1)
  clear hb1 HW0
  go_wp2_with fail
  refine (lClass 8 0 0 (by decide) (by decide) _ (HT.out _ HW1.out)).mono ?_
  rintro e w2 ⟨rfl, hb2⟩
  have HW2 := Lib.hid (below_then HW1.out hb2)
  clear hb2 HW1
  go_wp2_with fail
  refine (lClass 9 1 0 (by decide) (by decide) _ (HT.out _ HW2.out)).mono ?_
  rintro e w3 ⟨rfl, hb3⟩
  have HW3 := Lib.hid (below_then HW2.out hb3)
  clear hb3 HW2
  go_wp2_with fail
  refine (lClass 100 6 0 (by decide) (by decide) _ (HT.out _ HW3.out)).mono ?_
  rintro e w4 ⟨rfl, hb4⟩
  have HW4 := Lib.hid (below_then HW3.out hb4)
  clear hb4 HW3
  go_wp2_with fail
  refine (lClass 512 9 0 (by decide) (by decide) _ (HT.out _ HW4.out)).mono ?_
  rintro e w5 ⟨rfl, hb5⟩
  have HW5 := Lib.hid (below_then HW4.out hb5)
  clear hb5 HW4
  go_wp2_with fail
  refine (lClass 513 0 9 (by decide) (by decide) _ (HT.out _ HW5.out)).mono ?_
  rintro e w6 ⟨rfl, hb6⟩
  have HW6 := Lib.hid (below_then HW5.out hb6)
  clear hb6 HW5
  go_wp2_with fail
  refine (lClass 0 0 2 (by decide) (by decide) _ (HT.out _ HW6.out)).mono ?_
  rintro e w7 ⟨rfl, hb7⟩
  have HW7 := Lib.hid (below_then HW6.out hb7)
  clear hb7 HW6
  go_wp2_with fail
  refine (S3.out _ (HT.out _ HW7.out)).mono ?_
  rintro e w8 ⟨rfl, hb8⟩
  have HW8 := Lib.hid (below_then HW7.out hb8)
  clear hb8 HW7
  go_wp2_with fail
  refine (S10.out _ (HT.out _ HW8.out)).mono ?_
  rintro e w9 ⟨rfl, hb9⟩
  have HW9 := Lib.hid (below_then HW8.out hb9)
  clear hb9 HW8
  go_wp2_with fail
  refine (P0.out _ (HT.out _ HW9.out)).mono ?_
  rintro e w10 ⟨rfl, hb10⟩
  have HW10 := Lib.hid (below_then HW9.out hb10)
  clear hb10 HW9
  go_wp2_with (refine wpList_storeC (by rfl) _ _ (by rfl) w10.heap.size ⟨8, 8, 4⟩ (by rfl) (by rfl) _ (zero_new w10) rfl ?_; intro w11 h11 hk11; have hb11 := below_one_kept (below_one (Below.refl w10.heap.size w10) _) hk11 (Nat.le_refl _); have HX11 := Lib.hid h11; have HW11 := Lib.hid (below_then HW10.out hb11); clear h11 hk11 hb11 HW10; refine Stop.mk ?_)
  unfold Stop
  go_wp2_with fail
  refine (P3.out _ (HT.out _ HW11.out)).mono ?_
  rintro e w12 ⟨rfl, hb12⟩
  have HW12 := Lib.hid (below_then HW11.out hb12)
  have HX12 := Lib.hid (HX11.out.below hb12)
  clear hb12 HW11
  go_wp2_with (refine wpList_storeC (by rfl) _ _ (by rfl) w12.heap.size ⟨48, 16, 4⟩ (by rfl) (by rfl) _ (zero_new w12) rfl ?_; intro w13 h13 hk13; have hb13 := below_one_kept (below_one (Below.refl w12.heap.size w12) _) hk13 (Nat.le_refl _); have HX13 := Lib.hid h13; have HW13 := Lib.hid (below_then HW12.out hb13); have HY13 := Lib.hid (HX12.out.below hb13); clear h13 hk13 hb13 HW12; refine Stop.mk ?_)
  unfold Stop
  go_wp2_with fail
  refine (U100.out _ (HT.out _ HW13.out)).mono ?_
  rintro e w14 ⟨rfl, hb14⟩
  have HW14 := Lib.hid (below_then HW13.out hb14)
  have HX14 := Lib.hid (HX13.out.below hb14)
  have HY14 := Lib.hid (HY13.out.below hb14)
  clear hb14 HW13
  go_wp2_with fail
  refine (U600.out _ (HT.out _ HW14.out)).mono ?_
  rintro e w15 ⟨rfl, hb15⟩
  have HW15 := Lib.hid (below_then HW14.out hb15)
  obtain ⟨c0, c1, c2⟩ := (HX14.out.below hb15).cells
  obtain ⟨d0, d1, d2⟩ := (HY14.out.below hb15).cells
  clear hb15 HW14
  dsimp only at c0 c1 c2 d0 d1 d2
  go_wp2
  go_ret
  exact ⟨rfl, HW15.out⟩
end Go.Proofs.YtondaafkpjmobaaDoor
