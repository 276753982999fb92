/-
  The laws SizesFit and SizesSpecs, walked.
-/
import Derived.Test.YtondaafkpjmobaaDoorWorks
set_option linter.unusedVariables false
set_option linter.unusedSimpArgs false
namespace Go.Proofs.YtondaafkpjmobaaDoor
open Go Go.RowKit

/-- the numbers of SizesFit: two of bytes, their classes, the first one's size and the size ahead of it -/
structure Fit (A B : Int) (k m : Nat) (s : Int) : Prop where
  ca : ∀ w, Tab w → Calls Tryd.prog 7 #[.int .i64 A] w fun e w' => e = .returned (.tuple #[.int .i64 k, .int .i64 0]) ∧ Below w.heap.size w w'
  cb : ∀ w, Tab w → Calls Tryd.prog 7 #[.int .i64 B] w fun e w' => e = .returned (.tuple #[.int .i64 m, .int .i64 0]) ∧ Below w.heap.size w w'
  cs : ∀ w, Tab w → Calls Tryd.prog 9 #[.int .i64 k] w fun e w' => e = .returned (.tuple #[.int .i64 s, .int .i64 0]) ∧ Below w.heap.size w w'
  cn : ∀ w, Tab w → Calls Tryd.prog 7 #[.int .i64 s] w fun e w' => e = .returned (.tuple #[.int .i64 k, .int .i64 0]) ∧ Below w.heap.size w w'
  cu : ∀ w, Tab w → Calls Tryd.prog 13 #[.int .i64 A] w fun e w' => e = .returned (.int .i64 (s - A)) ∧ Below w.heap.size w w'
  a1 : 1 ≤ A
  a2 : A ≤ 512
  s1 : 8 ≤ s
  s2 : s ≤ 512
  le : A ≤ s
  mono : A ≤ B → k ≤ m
  klt : k < 10
  mlt : m < 10
  zero : k = 0 → s ≤ 8
  more : ∀ j : Nat, k = j + 1 → (8 < s ∧ ¬ s ≤ 2 * (s - A)) ∧ ∃ z : Int, z < A ∧ ∀ w, Tab w → Calls Tryd.prog 9 #[.int .i64 j] w fun e w' => e = .returned (.tuple #[.int .i64 z, .int .i64 0]) ∧ Below w.heap.size w w'
theorem fit_of (A B : Int) (a1 : 1 ≤ A) (a2 : A ≤ 512) (b1 : 1 ≤ B) (b2 : B ≤ 512) : ∃ k m s, Fit A B k m s := by
  have hk := clN_lt a2
  have hm := clN_lt b2
  have hs := sz_range hk
  obtain ⟨f1, f2, f3⟩ := fits a1 a2
  refine ⟨clN A, clN B, sz (clN A), ?_, ?_, ?_, ?_, ?_, a1, a2, hs.1, hs.2, f1, clN_mono, hk, hm, ?_, ?_⟩
  · intro w ht
    have := cClass A w ht
    rwa [(cl_in a1 a2).1, (cl_in a1 a2).2] at this
  · intro w ht
    have := cClass B w ht
    rwa [(cl_in b1 b2).1, (cl_in b1 b2).2] at this
  · intro w ht
    have := cSize (clN A) w ht
    rwa [(si_in hk).1, (si_in hk).2] at this
  · intro w ht
    have := cClass (sz (clN A)) w ht
    rwa [(cl_in (by omega) (by omega)).1, (cl_in (by omega) (by omega)).2, clN_sz hk] at this
  · intro w ht
    have := cWaste A w ht
    rwa [wst_in a1 a2] at this
  · intro h
    rw [h]
    decide
  · intro j hj
    have h8 : 8 < sz (clN A) := by
      have h1 := f2 (by omega)
      have h2 := sz_range (k := clN A - 1) (by omega)
      omega
    refine ⟨⟨h8, by have := f3 h8; omega⟩, sz j, ?_, ?_⟩
    · have h1 := f2 (by omega)
      rwa [show clN A - 1 = j by omega] at h1
    · intro w ht
      have := cSize j w ht
      rwa [(si_in (by omega)).1, (si_in (by omega)).2] at this
set_option maxHeartbeats 8000000 in
set_option maxRecDepth 100000 in
theorem fit1 (x y A B : Int) (k m j : Nat) (s : Int) (hA : (1 : Int) + (bring x 512 : Int) = A) (hB : (1 : Int) + (bring y 512 : Int) = B) (hF : Fit A B k m s) (hk : k = j + 1) (hab : A ≤ B) (W : World) (ht : Tab W) : Calls Tryd.prog 4 #[.int .i64 x, .int .i64 y] W fun e W' => e = .returned (.bool true) ∧ Below W.heap.size W W' := by
  have hb1 := bring_lt x 512 (by decide)
  have hb2 := bring_lt y 512 (by decide)
  obtain ⟨ca, cb, cs, cn, cu, a1, a2, s1, s2, le, mono, klt, mlt, zero, more⟩ := hF
  have CA := Lib.hid ca
  have CB := Lib.hid cb
  have CS := Lib.hid cs
  have CN := Lib.hid cn
  have CU := Lib.hid cu
  clear ca cb cs cn cu
  have hkm : ¬ m < k := by have := mono hab; omega
  obtain ⟨⟨h8, h9⟩, z, hz, cz⟩ := more j hk
  have CZ := Lib.hid cz
  have hza : ¬ A ≤ z := by omega
  have hkj : (k : Int) - 1 = (j : Int) := by omega
  have hk0 : 0 < k := by omega
  clear cz hz hk
  have hsa : ¬ s < A := by omega
  have ekk : ((k : Int) == (k : Int)) = true := by simp
  have euu : (s - A != s - A) = false := by simp
  have HT : Hid (∀ w', Below W.heap.size W w' → Tab w') := Lib.hid (fun w' hb => ht.below hb)
  have HW0 := Lib.hid (Below.refl W.heap.size W)
  clear mono zero more ht le
  have HBX := Lib.hid (fun w => cBringN x 512 512 (by rfl) (by decide) w)
  have HBY := Lib.hid (fun w => cBringN y 512 512 (by rfl) (by decide) w)
  have HBX := Lib.hid (fun w => cBringN x 512 512 (by rfl) (by decide) w)
  have HBY := Lib.hid (fun w => cBringN y 512 512 (by rfl) (by decide) w)
  have HBX := Lib.hid (fun w => cBringN x 512 512 (by rfl) (by decide) w)
  have HBY := Lib.hid (fun w => cBringN y 512 512 (by rfl) (by decide) w)
  have HBX := Lib.hid (fun w => cBringN x 512 512 (by rfl) (by decide) w)
  have HBY := Lib.hid (fun w => cBringN y 512 512 (by rfl) (by decide) w)
  generalize bring x 512 = β at *
  generalize bring y 512 = γ at *
  go_enter Tryd.func4, Tryd.ntmps4
  go_wp2_with fail
  refine (works _ (HT.out _ HW0.out)).mono ?_
  rintro e w1 ⟨rfl, hb1⟩
  have HW1 := Lib.hid (below_then HW0.out hb1)
  clear hb1 HW0
  go_wp2_with fail
  refine (HBX.out _).mono ?_
  rintro e _ ⟨rfl, rfl⟩
  go_wp2_with fail
  refine (HBY.out _).mono ?_
  rintro e _ ⟨rfl, rfl⟩
  go_wp2_with fail
  refine (CA.out _ (HT.out _ HW1.out)).mono ?_
  rintro e w2 ⟨rfl, hb2⟩
  have HW2 := Lib.hid (below_then HW1.out hb2)
  clear hb2 HW1
  go_wp2_with fail
  refine (CB.out _ (HT.out _ HW2.out)).mono ?_
  rintro e w3 ⟨rfl, hb3⟩
  have HW3 := Lib.hid (below_then HW2.out hb3)
  clear hb3 HW2
  go_wp2_with fail
  refine (CS.out _ (HT.out _ HW3.out)).mono ?_
  rintro e w4 ⟨rfl, hb4⟩
  have HW4 := Lib.hid (below_then HW3.out hb4)
  clear hb4 HW3
  go_wp2_with fail
  refine (CU.out _ (HT.out _ HW4.out)).mono ?_
  rintro e w5 ⟨rfl, hb5⟩
  have HW5 := Lib.hid (below_then HW4.out hb5)
  clear hb5 HW4
  go_wp2_with fail
  refine (CU.out _ (HT.out _ HW5.out)).mono ?_
  rintro e w6 ⟨rfl, hb6⟩
  have HW6 := Lib.hid (below_then HW5.out hb6)
  clear hb6 HW5
  go_wp2_with fail
  refine (CZ.out _ (HT.out _ HW6.out)).mono ?_
  rintro e w7 ⟨rfl, hb7⟩
  have HW7 := Lib.hid (below_then HW6.out hb7)
  clear hb7 HW6
  go_wp2_with fail
  refine (CN.out _ (HT.out _ HW7.out)).mono ?_
  rintro e w8 ⟨rfl, hb8⟩
  have HW8 := Lib.hid (below_then HW7.out hb8)
  clear hb8 HW7
  go_wp2
  go_ret
  exact ⟨rfl, HW8.out⟩
set_option maxHeartbeats 8000000 in
set_option maxRecDepth 100000 in
theorem fit2 (x y A B : Int) (k m j : Nat) (s : Int) (hA : (1 : Int) + (bring x 512 : Int) = A) (hB : (1 : Int) + (bring y 512 : Int) = B) (hF : Fit A B k m s) (hk : k = j + 1) (hab : ¬ A ≤ B) (W : World) (ht : Tab W) : Calls Tryd.prog 4 #[.int .i64 x, .int .i64 y] W fun e W' => e = .returned (.bool true) ∧ Below W.heap.size W W' := by
  have hb1 := bring_lt x 512 (by decide)
  have hb2 := bring_lt y 512 (by decide)
  obtain ⟨ca, cb, cs, cn, cu, a1, a2, s1, s2, le, mono, klt, mlt, zero, more⟩ := hF
  have CA := Lib.hid ca
  have CB := Lib.hid cb
  have CS := Lib.hid cs
  have CN := Lib.hid cn
  have CU := Lib.hid cu
  clear ca cb cs cn cu
  obtain ⟨⟨h8, h9⟩, z, hz, cz⟩ := more j hk
  have CZ := Lib.hid cz
  have hza : ¬ A ≤ z := by omega
  have hkj : (k : Int) - 1 = (j : Int) := by omega
  have hk0 : 0 < k := by omega
  clear cz hz hk
  have hsa : ¬ s < A := by omega
  have ekk : ((k : Int) == (k : Int)) = true := by simp
  have euu : (s - A != s - A) = false := by simp
  have HT : Hid (∀ w', Below W.heap.size W w' → Tab w') := Lib.hid (fun w' hb => ht.below hb)
  have HW0 := Lib.hid (Below.refl W.heap.size W)
  clear mono zero more ht le
  have HBX := Lib.hid (fun w => cBringN x 512 512 (by rfl) (by decide) w)
  have HBY := Lib.hid (fun w => cBringN y 512 512 (by rfl) (by decide) w)
  have HBX := Lib.hid (fun w => cBringN x 512 512 (by rfl) (by decide) w)
  have HBY := Lib.hid (fun w => cBringN y 512 512 (by rfl) (by decide) w)
  have HBX := Lib.hid (fun w => cBringN x 512 512 (by rfl) (by decide) w)
  have HBY := Lib.hid (fun w => cBringN y 512 512 (by rfl) (by decide) w)
  generalize bring x 512 = β at *
  generalize bring y 512 = γ at *
  go_enter Tryd.func4, Tryd.ntmps4
  go_wp2_with fail
  refine (works _ (HT.out _ HW0.out)).mono ?_
  rintro e w1 ⟨rfl, hb1⟩
  have HW1 := Lib.hid (below_then HW0.out hb1)
  clear hb1 HW0
  go_wp2_with fail
  refine (HBX.out _).mono ?_
  rintro e _ ⟨rfl, rfl⟩
  go_wp2_with fail
  refine (HBY.out _).mono ?_
  rintro e _ ⟨rfl, rfl⟩
  go_wp2_with fail
  refine (CA.out _ (HT.out _ HW1.out)).mono ?_
  rintro e w2 ⟨rfl, hb2⟩
  have HW2 := Lib.hid (below_then HW1.out hb2)
  clear hb2 HW1
  go_wp2_with fail
  refine (CB.out _ (HT.out _ HW2.out)).mono ?_
  rintro e w3 ⟨rfl, hb3⟩
  have HW3 := Lib.hid (below_then HW2.out hb3)
  clear hb3 HW2
  go_wp2_with fail
  refine (CS.out _ (HT.out _ HW3.out)).mono ?_
  rintro e w4 ⟨rfl, hb4⟩
  have HW4 := Lib.hid (below_then HW3.out hb4)
  clear hb4 HW3
  go_wp2_with fail
  refine (CU.out _ (HT.out _ HW4.out)).mono ?_
  rintro e w5 ⟨rfl, hb5⟩
  have HW5 := Lib.hid (below_then HW4.out hb5)
  clear hb5 HW4
  go_wp2_with fail
  refine (CU.out _ (HT.out _ HW5.out)).mono ?_
  rintro e w6 ⟨rfl, hb6⟩
  have HW6 := Lib.hid (below_then HW5.out hb6)
  clear hb6 HW5
  go_wp2_with fail
  refine (CZ.out _ (HT.out _ HW6.out)).mono ?_
  rintro e w7 ⟨rfl, hb7⟩
  have HW7 := Lib.hid (below_then HW6.out hb7)
  clear hb7 HW6
  go_wp2_with fail
  refine (CN.out _ (HT.out _ HW7.out)).mono ?_
  rintro e w8 ⟨rfl, hb8⟩
  have HW8 := Lib.hid (below_then HW7.out hb8)
  clear hb8 HW7
  go_wp2
  go_ret
  exact ⟨rfl, HW8.out⟩
set_option maxHeartbeats 8000000 in
set_option maxRecDepth 100000 in
theorem fit3 (x y A B : Int) (k m : Nat) (s : Int) (hA : (1 : Int) + (bring x 512 : Int) = A) (hB : (1 : Int) + (bring y 512 : Int) = B) (hF : Fit A B k m s) (hk : k = 0) (hab : A ≤ B) (W : World) (ht : Tab W) : Calls Tryd.prog 4 #[.int .i64 x, .int .i64 y] W fun e W' => e = .returned (.bool true) ∧ Below W.heap.size W W' := by
  have hb1 := bring_lt x 512 (by decide)
  have hb2 := bring_lt y 512 (by decide)
  obtain ⟨ca, cb, cs, cn, cu, a1, a2, s1, s2, le, mono, klt, mlt, zero, more⟩ := hF
  have CA := Lib.hid ca
  have CB := Lib.hid cb
  have CS := Lib.hid cs
  have CN := Lib.hid cn
  have CU := Lib.hid cu
  clear ca cb cs cn cu
  have hkm : ¬ m < k := by have := mono hab; omega
  have h8 : ¬ 8 < s := by have := zero hk; omega
  have hk0 : ¬ 0 < k := by omega
  clear hk
  have hsa : ¬ s < A := by omega
  have ekk : ((k : Int) == (k : Int)) = true := by simp
  have euu : (s - A != s - A) = false := by simp
  have HT : Hid (∀ w', Below W.heap.size W w' → Tab w') := Lib.hid (fun w' hb => ht.below hb)
  have HW0 := Lib.hid (Below.refl W.heap.size W)
  clear mono zero more ht le
  have HBX := Lib.hid (fun w => cBringN x 512 512 (by rfl) (by decide) w)
  have HBY := Lib.hid (fun w => cBringN y 512 512 (by rfl) (by decide) w)
  have HBX := Lib.hid (fun w => cBringN x 512 512 (by rfl) (by decide) w)
  have HBY := Lib.hid (fun w => cBringN y 512 512 (by rfl) (by decide) w)
  generalize bring x 512 = β at *
  generalize bring y 512 = γ at *
  go_enter Tryd.func4, Tryd.ntmps4
  go_wp2_with fail
  refine (works _ (HT.out _ HW0.out)).mono ?_
  rintro e w1 ⟨rfl, hb1⟩
  have HW1 := Lib.hid (below_then HW0.out hb1)
  clear hb1 HW0
  go_wp2_with fail
  refine (HBX.out _).mono ?_
  rintro e _ ⟨rfl, rfl⟩
  go_wp2_with fail
  refine (HBY.out _).mono ?_
  rintro e _ ⟨rfl, rfl⟩
  go_wp2_with fail
  refine (CA.out _ (HT.out _ HW1.out)).mono ?_
  rintro e w2 ⟨rfl, hb2⟩
  have HW2 := Lib.hid (below_then HW1.out hb2)
  clear hb2 HW1
  go_wp2_with fail
  refine (CB.out _ (HT.out _ HW2.out)).mono ?_
  rintro e w3 ⟨rfl, hb3⟩
  have HW3 := Lib.hid (below_then HW2.out hb3)
  clear hb3 HW2
  go_wp2_with fail
  refine (CS.out _ (HT.out _ HW3.out)).mono ?_
  rintro e w4 ⟨rfl, hb4⟩
  have HW4 := Lib.hid (below_then HW3.out hb4)
  clear hb4 HW3
  go_wp2_with fail
  refine (CU.out _ (HT.out _ HW4.out)).mono ?_
  rintro e w5 ⟨rfl, hb5⟩
  have HW5 := Lib.hid (below_then HW4.out hb5)
  clear hb5 HW4
  go_wp2_with fail
  refine (CN.out _ (HT.out _ HW5.out)).mono ?_
  rintro e w6 ⟨rfl, hb6⟩
  have HW6 := Lib.hid (below_then HW5.out hb6)
  clear hb6 HW5
  go_wp2
  go_ret
  exact ⟨rfl, HW6.out⟩
set_option maxHeartbeats 8000000 in
set_option maxRecDepth 100000 in
theorem fit4 (x y A B : Int) (k m : Nat) (s : Int) (hA : (1 : Int) + (bring x 512 : Int) = A) (hB : (1 : Int) + (bring y 512 : Int) = B) (hF : Fit A B k m s) (hk : k = 0) (hab : ¬ A ≤ B) (W : World) (ht : Tab W) : Calls Tryd.prog 4 #[.int .i64 x, .int .i64 y] W fun e W' => e = .returned (.bool true) ∧ Below W.heap.size W W' := by
  have hb1 := bring_lt x 512 (by decide)
  have hb2 := bring_lt y 512 (by decide)
  obtain ⟨ca, cb, cs, cn, cu, a1, a2, s1, s2, le, mono, klt, mlt, zero, more⟩ := hF
  have CA := Lib.hid ca
  have CB := Lib.hid cb
  have CS := Lib.hid cs
  have CN := Lib.hid cn
  have CU := Lib.hid cu
  clear ca cb cs cn cu
  have h8 : ¬ 8 < s := by have := zero hk; omega
  have hk0 : ¬ 0 < k := by omega
  clear hk
  have hsa : ¬ s < A := by omega
  have ekk : ((k : Int) == (k : Int)) = true := by simp
  have euu : (s - A != s - A) = false := by simp
  have HT : Hid (∀ w', Below W.heap.size W w' → Tab w') := Lib.hid (fun w' hb => ht.below hb)
  have HW0 := Lib.hid (Below.refl W.heap.size W)
  clear mono zero more ht le
  have HBX := Lib.hid (fun w => cBringN x 512 512 (by rfl) (by decide) w)
  have HBY := Lib.hid (fun w => cBringN y 512 512 (by rfl) (by decide) w)
  generalize bring x 512 = β at *
  generalize bring y 512 = γ at *
  go_enter Tryd.func4, Tryd.ntmps4
  go_wp2_with fail
  refine (works _ (HT.out _ HW0.out)).mono ?_
  rintro e w1 ⟨rfl, hb1⟩
  have HW1 := Lib.hid (below_then HW0.out hb1)
  clear hb1 HW0
  go_wp2_with fail
  refine (HBX.out _).mono ?_
  rintro e _ ⟨rfl, rfl⟩
  go_wp2_with fail
  refine (HBY.out _).mono ?_
  rintro e _ ⟨rfl, rfl⟩
  go_wp2_with fail
  refine (CA.out _ (HT.out _ HW1.out)).mono ?_
  rintro e w2 ⟨rfl, hb2⟩
  have HW2 := Lib.hid (below_then HW1.out hb2)
  clear hb2 HW1
  go_wp2_with fail
  refine (CB.out _ (HT.out _ HW2.out)).mono ?_
  rintro e w3 ⟨rfl, hb3⟩
  have HW3 := Lib.hid (below_then HW2.out hb3)
  clear hb3 HW2
  go_wp2_with fail
  refine (CS.out _ (HT.out _ HW3.out)).mono ?_
  rintro e w4 ⟨rfl, hb4⟩
  have HW4 := Lib.hid (below_then HW3.out hb4)
  clear hb4 HW3
  go_wp2_with fail
  refine (CU.out _ (HT.out _ HW4.out)).mono ?_
  rintro e w5 ⟨rfl, hb5⟩
  have HW5 := Lib.hid (below_then HW4.out hb5)
  clear hb5 HW4
  go_wp2_with fail
  refine (CN.out _ (HT.out _ HW5.out)).mono ?_
  rintro e w6 ⟨rfl, hb6⟩
  have HW6 := Lib.hid (below_then HW5.out hb6)
  clear hb6 HW5
  go_wp2
  go_ret
  exact ⟨rfl, HW6.out⟩
theorem walkFit (x y : Int) (W : World) (ht : Tab W) : Calls Tryd.prog 4 #[.int .i64 x, .int .i64 y] W fun e W' => e = .returned (.bool true) ∧ Below W.heap.size W W' := by
  have hb1 := bring_lt x 512 (by decide)
  have hb2 := bring_lt y 512 (by decide)
  obtain ⟨k, m, s, hF⟩ := fit_of (1 + (bring x 512 : Int)) (1 + (bring y 512 : Int)) (by omega) (by omega) (by omega) (by omega)
  by_cases hab : 1 + (bring x 512 : Int) ≤ 1 + (bring y 512 : Int)
  · by_cases hk : k = 0
    · exact fit3 x y _ _ k m s rfl rfl hF hk hab W ht
    · exact fit1 x y _ _ k m (k - 1) s rfl rfl hF (by omega) hab W ht
  · by_cases hk : k = 0
    · exact fit4 x y _ _ k m s rfl rfl hF hk hab W ht
    · exact fit2 x y _ _ k m (k - 1) s rfl rfl hF (by omega) hab W ht
end Go.Proofs.YtondaafkpjmobaaDoor
