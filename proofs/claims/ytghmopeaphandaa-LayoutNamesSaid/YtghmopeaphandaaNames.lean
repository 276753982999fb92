/-
  The closed law LayoutNames, walked.
-/
import Derived.Test.YtghmopeaphandaaPlays
set_option linter.unusedVariables false
set_option linter.unusedSimpArgs false
namespace Go.Proofs.Ytghmopeaphandaa
open Go Go.RowKit

theorem names_known : ∃ l B : Ly, (ofL 24 8 false = l ∧ ofE 24 8 false = 0) ∧ (ofL 2048 64 false = B ∧ ofE 2048 64 false = 0) ∧ (atV l 9 = 216 ∧ atE l 9 = 0) ∧ atE l 10 = 9 ∧ atE l (-1) = 9 ∧ (atE { l with waste := 17 } 0 = 2 ∧ ¬ valid { l with waste := 17 }) ∧ (B.objs = 1 ∧ B.order = 3 ∧ B.waste = 0) :=
  ⟨_, _, ⟨rfl, by decide +kernel⟩, ⟨rfl, by decide +kernel⟩, ⟨by decide +kernel, by decide +kernel⟩, by decide +kernel, by decide +kernel, ⟨by decide +kernel, by decide +kernel⟩, ⟨by decide +kernel, by decide +kernel, by decide +kernel⟩⟩
set_option maxHeartbeats 4000000 in
set_option maxRecDepth 100000 in
theorem walkNames (W : World) : Calls Try.prog 7 #[] W fun e W' => e = .returned (.bool true) ∧ Below W.heap.size W W' := by
  obtain ⟨l, B, ⟨l1, l2⟩, ⟨b1, b2⟩, ⟨a1, a2⟩, a3, a4, ⟨a5, a6⟩, b3, b4, b5⟩ := names_known
  have hl := cOf 24 8 false
  rw [l1, l2] at hl
  have hB := cOf 2048 64 false
  rw [b1, b2] at hB
  have h9 := cAt l 9
  rw [a1, a2] at h9
  have h10 := cAt l 10
  rw [a3] at h10
  have hm := cAt l (-1)
  rw [a4] at hm
  obtain ⟨d, hd⟩ : ∃ d : Ly, { l with waste := 17 } = d := ⟨_, rfl⟩
  have HDL : Hid (l.arr.setIfInBounds 6 (.int .i64 17) = d.arr) := Lib.hid (by rw [← hd]; rfl)
  rw [hd] at a5 a6
  have h0 := cAt d 0
  rw [a5] at h0
  have hi := cIndex d 0 0 false (.bad a6)
  generalize atV l 10 = v10 at h10
  generalize atV l (-1) = vm at hm
  generalize atV d 0 = v0 at h0
  have HL := Lib.hid hl
  have HB := Lib.hid hB
  have H9 := Lib.hid h9
  have H10 := Lib.hid h10
  have HM := Lib.hid hm
  have H0 := Lib.hid h0
  have HI := Lib.hid hi
  have HBF := Lib.hid (And.intro b3 (And.intro b4 b5))
  clear hl hB h9 h10 hm h0 hi hd l1 l2 b1 b2 a1 a2 a3 a4 a5 a6 b3 b4 b5
  go_enter Try.func7, Try.ntmps7
  go_wp2
  go_loopw [1] (fun i wr => ∃ n : Nat, n ≤ 5 ∧ i = .int .i64 n ∧ Hid (Below W.heap.size W wr)) (fun i _ => 5 - (intOf i).toNat)
  case atStart => exact ⟨0, by omega, rfl, Lib.hid (Below.refl _ _)⟩
  case round =>
    obtain ⟨n, hn, rfl, HW⟩ := hrel
    by_cases hlt : n < 5
    · go_wp2
      try simp only [show decide ((n : Int) < 5) = true from decide_eq_true (by omega)]
      go_loopw [2] (fun i wx => ∃ k : Nat, k ≤ 66 ∧ i = .int .i64 k ∧ Hid (Below W.heap.size W wx)) (fun i _ => 66 - (intOf i).toNat)
      case atStart => exact ⟨0, by omega, rfl, HW⟩
      case round =>
        clear HW
        obtain ⟨k, hk, rfl, HW⟩ := hrel
        by_cases hlk : k < 66
        · have hc : (wr.alloc (.cells #[.int .i64 0, .int .i64 1, .int .i64 2048, .int .i64 2049, .int .i64 300] 3)).cell? ⟨wr.heap.size, n, none⟩ = some (.int .i64 (pk [0, 1, 2048, 2049, 300] n)) := by
            rcases (by omega : n = 0 ∨ n = 1 ∨ n = 2 ∨ n = 3 ∨ n = 4) with rfl | rfl | rfl | rfl | rfl <;> exact self_cell (heap_new _ _) _ _ rfl
          generalize pk [0, 1, 2048, 2049, 300] n = v at hc
          obtain ⟨m, hm⟩ : ∃ m, (n : Int).tmod 2 = m := ⟨_, rfl⟩
          have hm2 : 0 ≤ m ∧ m < 2 := by rw [Int.tmod_eq_emod_of_nonneg (by omega)] at hm; omega
          obtain ⟨g, hg⟩ : ∃ g, (m == 0) = g := ⟨_, rfl⟩
          go_wp2_with fail
          refine (walkOf _ _ _ _).mono ?_
          rintro e w3 ⟨rfl, hb3⟩
          have HW3 := Lib.hid (below_then (below_one HW.out _) hb3)
          clear hb3 HW hc
          go_wp2
          go_roundw
          case rel => exact ⟨k + 1, by omega, by go_num, HW3⟩
          case measure => simp [intOf]; omega
        · obtain rfl : k = 66 := by omega
          go_wp2
          go_roundw
          case rel => exact ⟨n + 1, by omega, by go_num, HW⟩
          case measure => simp [intOf]; omega
    · obtain rfl : n = 5 := by omega
      clear hn hlt
      go_wp2_with fail
      refine (HL.out _).mono ?_
      rintro e w1 ⟨rfl, hb1⟩
      have HW1 := Lib.hid (below_then HW.out hb1)
      have HZ1 : Hid (LyAt (w1.alloc lay0) w1.heap.size zL) := Lib.hid (heap_new _ _)
      clear hb1 HW HL
      go_wp2_with (refine wpList_storeL (by rfl) _ _ (by rfl) w1.heap.size l (by rfl) (by rfl) _ HZ1.out rfl ?_; intro w2 h2 hk2; have HA2 := Lib.hid h2; have HW2 := Lib.hid (below_one_kept (below_one HW1.out _) hk2 HW1.out.size); have HG := Lib.hid HW1.out.size; clear HZ1 HW1 h2 hk2; refine Stop.mk ?_)
      unfold Stop
      obtain ⟨D, hD⟩ : ∃ D, w1.heap.size = D := ⟨_, rfl⟩
      rw [hD] at HA2 HG
      simp only [hD]
      clear hD
      go_wp2_with (refine wpList_loadL (by rfl) _ (by rfl) D l (by rfl) HA2.out ?_)
      refine (H9.out _).mono ?_
      rintro e w3 ⟨rfl, hb3⟩
      have HA3 := Lib.hid (HA2.out.below hb3)
      have HW3 := Lib.hid (below_then HW2.out hb3)
      clear hb3 HA2 HW2 H9
      go_wp2_with (refine wpList_loadL (by rfl) _ (by rfl) D l (by rfl) HA3.out ?_)
      refine (H10.out _).mono ?_
      rintro e w4 ⟨rfl, hb4⟩
      have HA4 := Lib.hid (HA3.out.below hb4)
      have HW4 := Lib.hid (below_then HW3.out hb4)
      clear hb4 HA3 HW3 H10
      go_wp2_with (refine wpList_loadL (by rfl) _ (by rfl) D l (by rfl) HA4.out ?_)
      refine (HM.out _).mono ?_
      rintro e w5 ⟨rfl, hb5⟩
      have HA5 := Lib.hid (HA4.out.below hb5)
      have HW5 := Lib.hid (below_then HW4.out hb5)
      clear hb5 HA4 HW4 HM
      go_wp2_with (first
        | (refine wpList_storeI (by rfl) _ _ (by rfl) D 6 17 l d (by rfl) (by rfl) HA5.out (by decide) HDL.out ?_; intro w6 h6 hk6; have HA6 := Lib.hid h6; have HW6 := Lib.hid (below_one_kept HW5.out hk6 HG.out); clear h6 hk6 HA5 HW5 HDL)
        | (refine wpList_loadL (by rfl) _ (by rfl) D d (by rfl) HA6.out ?_))
      refine (H0.out _).mono ?_
      rintro e w7 ⟨rfl, hb7⟩
      have HA7 := Lib.hid (HA6.out.below hb7)
      have HW7 := Lib.hid (below_then HW6.out hb7)
      clear hb7 HA6 HW6 H0
      go_wp2_with (refine wpList_loadL (by rfl) _ (by rfl) D d (by rfl) HA7.out ?_)
      refine (HI.out _).mono ?_
      rintro e w8 ⟨rfl, hb8⟩
      have HW8 := Lib.hid (below_then HW7.out hb8)
      clear hb8 HA7 HW7 HI
      go_wp2_with fail
      refine (HB.out _).mono ?_
      rintro e w9 ⟨rfl, hb9⟩
      have HW9 := Lib.hid (below_then HW8.out hb9)
      have HZ9 : Hid (LyAt (w9.alloc lay0) w9.heap.size zL) := Lib.hid (heap_new _ _)
      clear hb9 HW8 HB
      go_wp2_with (refine wpList_storeL (by rfl) _ _ (by rfl) w9.heap.size B (by rfl) (by rfl) _ HZ9.out rfl ?_; intro w10 h10 hk10; have HA10 := Lib.hid h10; have HW10 := Lib.hid (below_one_kept (below_one HW9.out _) hk10 HW9.out.size); clear HZ9 HW9 h10 hk10; refine Stop.mk ?_)
      unfold Stop
      go_wp2_with fail
      refine (works _).mono ?_
      rintro e w11 ⟨rfl, hb11⟩
      have HW11 := Lib.hid (below_then HW10.out hb11)
      obtain ⟨_, _, _, _, g4, g5, g6⟩ := (HA10.out.below hb11).cells
      obtain ⟨f1, f2, f3⟩ := HBF.out
      rw [f1] at g5
      rw [f2] at g4
      rw [f3] at g6
      clear hb11 HA10 HW10 HBF f1 f2 f3
      go_wp2
      go_ret
      exact ⟨rfl, HW11.out⟩
end Go.Proofs.Ytghmopeaphandaa
