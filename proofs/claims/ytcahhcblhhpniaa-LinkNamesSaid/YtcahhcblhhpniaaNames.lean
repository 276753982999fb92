/-
  The closed law LinkNames, walked.
-/
import Derived.Test.YtcahhcblhhpniaaLists
import Derived.Test.YtcahhcblhhpniaaHides
set_option linter.unusedVariables false
set_option linter.unusedSimpArgs false
namespace Go.Proofs.Ytcahhcblhhpniaa
open Go Go.RowKit

theorem names_known : lst ((frs 3 5).set 2 (hidV 1 5 2)) 5 0 = ([], 150) ∧ lst ((frs 3 5).set 2 (hidV 1 5 2)) 5 3 = ([], 2) ∧ lst (List.replicate 17 0) 5 0 = ([], 2) ∧ lst ((frs 3 5).set 1 (hidV 3 5 1)) 5 0 = ([], 150) ∧ lst ((frs 3 5).set 1 (hidV 3 5 1)) 6 0 = ([], 150) ∧ hidE 1 2 = 0 ∧ hidE 3 1 = 0 := by decide +kernel
theorem WordsAt.other {w : World} {g n m g' : Nat} {l : List Int} (h : WordsAt w g n m l) (hg : g ≠ g') (j : Nat) (u : Value) : WordsAt (w.setCell ⟨g', j, none⟩ u) g n m l := by
  obtain ⟨G, h1, h2⟩ := h
  exact ⟨G, h1.setOther hg _, h2⟩
theorem WordsAt.zero {w : World} {g : Nat} (h : w.rowIs g 22 17 (fun _ => .int .u64 0)) : WordsAt w g 17 17 (List.replicate 17 0) := ⟨fun _ => 0, h, fun i hi => by simp only [pk, List.getD, List.getElem?_replicate, if_pos hi, Option.getD_some]⟩
set_option maxHeartbeats 4000000 in
set_option maxRecDepth 100000 in
theorem walkNames (W : World) : Calls Try.prog 9 #[] W fun e W' => e = .returned (.bool true) ∧ Below W.heap.size W W' := by
  obtain ⟨n1, n2, n3, n4, n5, n6, n7⟩ := names_known
  have h1 : okW 11400714819323198485 := by decide
  have h0 : okW 0 := by decide
  have h5 : okW 5 := by decide
  have h6 : okW 6 := by decide
  have h11 : okW 1 := by decide
  have HH1 := Lib.hid (fun n a W => walkHides n 11400714819323198485 a h1 W)
  have HH0 := Lib.hid (fun n a W => walkHides n 0 a h0 W)
  have HF := Lib.hid (cFresh 3 5 (by omega) (by omega) h5)
  have hv1 := cHide 1 5 2 h5
  rw [n6] at hv1
  have hv2 := cHide 3 5 1 h5
  rw [n7] at hv2
  have HV1 := Lib.hid hv1
  have HV2 := Lib.hid hv2
  have HL1 := Lib.hid (fun u w h => cList u _ 5 0 _ _ w h h5 n1)
  have HL2 := Lib.hid (fun u w h => cList u _ 5 3 _ _ w h h5 n2)
  have HL3 := Lib.hid (fun u w h => cList u _ 5 0 _ _ w h h5 n3)
  have HL4 := Lib.hid (fun u w h => cList u _ 5 0 _ _ w h h5 n4)
  have HL5 := Lib.hid (fun u w h => cList u _ 6 0 _ _ w h h6 n5)
  have HF0 := Lib.hid (cFreshBad 0 1 (by decide))
  have HF17 := Lib.hid (cFreshBad 17 1 (by decide))
  have HFL := Lib.hid (frs_len 3 5)
  obtain ⟨O, hO, hrow⟩ := makeW 17 (by omega)
  have hO17 : ∀ w : World, (Instr.makeSlice 26 (.int .i64 17) (.int .i64 17)).run Try.prog w = .ok (.slice (some ⟨w.heap.size, 0, none⟩) 17 17) (w.alloc O) := hO
  have HRow := Lib.hid hrow
  generalize hidV 1 5 2 = V1 at *
  generalize hidV 3 5 1 = V2 at *
  clear n1 n2 n3 n4 n5 n6 n7 h1 h0 h5 h6 h11 hv1 hv2 hO hrow
  go_enter Try.func9, Try.ntmps9
  go_wp2
  go_loopw [1] (fun i wr => ∃ a : Int, -1 ≤ a ∧ a ≤ 18 ∧ i = .int .i64 a ∧ Hid (Below W.heap.size W wr)) (fun i _ => (18 - intOf i).toNat)
  case atStart => exact ⟨-1, by omega, by omega, rfl, Lib.hid (Below.refl _ _)⟩
  case round =>
    obtain ⟨a, ha0, ha1, rfl, HW⟩ := hrel
    by_cases hlt : a < 18
    · go_wp2
      try simp only [show decide (a < 18) = true from decide_eq_true (by omega)]
      go_loopw [2] (fun i wx => ∃ n : Int, -2 ≤ n ∧ n ≤ 18 ∧ i = .int .i64 n ∧ Hid (Below W.heap.size W wx)) (fun i _ => (18 - intOf i).toNat)
      case atStart => exact ⟨-2, by omega, by omega, rfl, HW⟩
      case round =>
        clear HW
        obtain ⟨n, hn0, hn1, rfl, HW⟩ := hrel
        by_cases hln : n < 18
        · go_wp2_with fail
          refine (HH1.out _ _ _).mono ?_
          rintro e w3 ⟨rfl, hb3⟩
          have HW3 := Lib.hid (below_then HW.out hb3)
          clear hb3 HW
          go_wp2_with fail
          refine (HH0.out _ _ _).mono ?_
          rintro e w4 ⟨rfl, hb4⟩
          have HW4 := Lib.hid (below_then HW3.out hb4)
          clear hb4 HW3
          go_wp2
          go_roundw
          case rel => exact ⟨n + 1, by omega, by omega, rfl, HW4⟩
          case measure => simp [intOf]; omega
        · obtain rfl : n = 18 := by omega
          go_wp2
          go_roundw
          case rel => exact ⟨a + 1, by omega, by omega, rfl, HW⟩
          case measure => simp [intOf]; omega
    · obtain rfl : a = 18 := by omega
      clear HH1 HH0
      go_wp2_with fail
      refine (HF.out _).mono ?_
      rintro e w1 ⟨g1, rfl, hg1, hs1, hb1⟩
      have HW1 := Lib.hid (below_then HW.out hb1)
      have HS1 := Lib.hid hs1
      have HG1 := Lib.hid (Nat.le_trans HW.out.size hg1)
      clear hb1 hs1 hg1 HW
      go_wp2_with fail
      refine (HF.out _).mono ?_
      rintro e w2 ⟨g2, rfl, hg2, hs2, hb2⟩
      have HW2 := Lib.hid (below_then HW1.out hb2)
      have hne : g1 ≠ g2 := by have := HS1.out.lt; omega
      have HG2 := Lib.hid (Nat.le_trans HW1.out.size hg2)
      have HS2 := Lib.hid (HS1.out.below hb2)
      have HT2 := Lib.hid hs2
      clear hb2 hs2 hg2 HW1 HS1 HF
      go_wp2_with fail
      refine (HV1.out _).mono ?_
      rintro e w3 ⟨rfl, hb3⟩
      have HW3 := Lib.hid (below_then HW2.out hb3)
      have HS3 := Lib.hid (HS2.out.below hb3)
      have HT3 := Lib.hid (HT2.out.below hb3)
      clear hb3 HW2 HS2 HT2 HV1
      go_wp2_with fail
      refine (HV2.out _).mono ?_
      rintro e w4 ⟨rfl, hb4⟩
      have HW4 := Lib.hid (below_then HW3.out hb4)
      have HS4 := Lib.hid (HS3.out.below hb4)
      have HT4 := Lib.hid (HT3.out.below hb4)
      clear hb4 HW3 HS3 HT3 HV2
      obtain ⟨⟨u1, c1⟩, f1⟩ := HS4.out.at_ (i := 2) (by omega)
      obtain ⟨⟨u2, c2⟩, f2⟩ := HT4.out.at_ (i := 1) (by omega)
      obtain ⟨w6, hw6⟩ : ∃ w6, (w4.setCell ⟨g1, 2, none⟩ (.int .u64 V1)).setCell ⟨g2, 1, none⟩ (.int .u64 V2) = w6 := ⟨_, rfl⟩
      have HS6 : Hid (ShowU w6 (.slice (some ⟨g1, 0, none⟩) 3 3) ((frs 3 5).set 2 V1)) := Lib.hid (by
        rw [← hw6]
        exact ((HS4.out.set HFL.out (by omega) V1).other hne 1 _).show_ (by simp [HFL.out]) (by omega))
      have HT6 : Hid (ShowU w6 (.slice (some ⟨g2, 0, none⟩) 3 3) ((frs 3 5).set 1 V2)) := Lib.hid (by
        rw [← hw6]
        exact ((HT4.out.other (Ne.symm hne) 2 _).set HFL.out (by omega) V2).show_ (by simp [HFL.out]) (by omega))
      have HW6 : Hid (Below W.heap.size W w6) := Lib.hid (by
        rw [← hw6]
        exact (HW4.out.setCell (p := ⟨g1, 2, none⟩) HG1.out _).setCell (p := ⟨g2, 1, none⟩) HG2.out _)
      have HEQ := Lib.hid hw6
      clear HS4 HT4 HW4 HG1 HG2 hw6
      go_wp2_with fail
      rw [HEQ.out]
      refine (HL1.out _ _ HS6.out).mono ?_
      rintro e w7 ⟨ro, rc, rfl, _, hb7⟩
      have HW7 := Lib.hid (below_then HW6.out hb7)
      have HS7 := Lib.hid (HS6.out.below hb7)
      have HT7 := Lib.hid (HT6.out.below hb7)
      clear hb7 HW6 HS6 HT6 HL1 HEQ c1 c2 f1 f2
      go_wp2_with fail
      refine (HL2.out _ _ HS7.out).mono ?_
      rintro e w8 ⟨ro2, rc2, rfl, _, hb8⟩
      have HW8 := Lib.hid (below_then HW7.out hb8)
      have HT8 := Lib.hid (HT7.out.below hb8)
      clear hb8 HW7 HS7 HT7 HL2
      have HZ8 : Hid (ShowU (w8.alloc O) (.slice (some ⟨w8.heap.size, 0, none⟩) 17 17) (List.replicate 17 0)) := Lib.hid ((WordsAt.zero (HRow.out w8)).show_ (by simp) (by omega))
      have HY8 := Lib.hid (below_one (Below.refl w8.heap.size w8) O)
      have HW9 := Lib.hid (below_one HW8.out O)
      go_wp2_with fail
      refine (HL3.out _ _ HZ8.out).mono ?_
      rintro e w9 ⟨ro3, rc3, rfl, _, hb9⟩
      have HW10 := Lib.hid (below_then HW9.out hb9)
      have HT10 := Lib.hid ((HT8.out.below HY8.out).below hb9)
      clear hb9 HW8 HT8 HZ8 HY8 HW9 HL3
      go_wp2_with fail
      refine (HL4.out _ _ HT10.out).mono ?_
      rintro e w11 ⟨ro4, rc4, rfl, _, hb11⟩
      have HW11 := Lib.hid (below_then HW10.out hb11)
      have HT11 := Lib.hid (HT10.out.below hb11)
      clear hb11 HW10 HT10 HL4
      go_wp2_with fail
      refine (HL5.out _ _ HT11.out).mono ?_
      rintro e w12 ⟨ro5, rc5, rfl, _, hb12⟩
      have HW12 := Lib.hid (below_then HW11.out hb12)
      clear hb12 HW11 HT11 HL5
      go_wp2_with fail
      refine (HF0.out _).mono ?_
      rintro e w13 ⟨rfl, rfl⟩
      go_wp2_with fail
      refine (HF17.out _).mono ?_
      rintro e w13 ⟨rfl, rfl⟩
      go_wp2_with fail
      refine (works _).mono ?_
      rintro e w14 ⟨rfl, hb14⟩
      have HW14 := Lib.hid (below_then HW12.out hb14)
      clear hb14 HW12
      go_wp2
      go_ret
      exact ⟨rfl, HW14.out⟩
end Go.Proofs.Ytcahhcblhhpniaa
