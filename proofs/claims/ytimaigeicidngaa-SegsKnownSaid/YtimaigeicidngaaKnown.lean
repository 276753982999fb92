/-
  SegsKnown: both ends of all.
-/
import Derived.Test.YtimaigeicidngaaBig
import Derived.Test.YtimaigeicidngaaLReady
set_option linter.unusedVariables false
set_option linter.unusedSimpArgs false
namespace Go.Proofs.Ytimaigeicidngaa
open Go Go.RowKit

theorem big_first {w : World} {ao : Option Addr} (h : ShowW w (.slice ao 257 257) bigL) (m : Nat) (hm : m ≤ 257) : ShowW w (.slice ao m 257) (bigL.take m) := by
  have h1 : ShowW w (.slice ao bigL.length 257) bigL := by rw [bigL_length]; exact h
  exact h1.first (by rw [bigL_length]; exact hm)
theorem bad_cells {w : World} {B i : Nat} (h : ShowW w (.slice (some ⟨B, 0, none⟩) 6 6) badL) (hi : i < 6) : w.cell? ⟨B, i * 2, none⟩ = some (.int .i64 (wt badL i).who) ∧ w.cell? ⟨B, i * 2 + 1, none⟩ = some (.int .i64 (wt badL i).due) := by
  obtain ⟨b, o, e, c0, c1⟩ := h.cell hi
  cases e
  rw [Nat.zero_add] at c0 c1
  exact ⟨c0, c1⟩
set_option maxHeartbeats 8000000 in
set_option maxRecDepth 100000 in
theorem walkKnown (W : World) :
    Calls Try.prog 8 #[] W fun e W' => e = .returned (.bool true) ∧ Below W.heap.size W W' := by
  obtain ⟨O1, hO1, hr1⟩ := makeW 257 (by decide)
  have hm1 : ∀ w : World, (Instr.makeSlice 22 (.int .i64 257) (.int .i64 257)).run Try.prog w = .ok (.slice (some ⟨w.heap.size, 0, none⟩) 257 257) (w.alloc O1) := hO1
  have HT0 : Hid (TabIs (W.alloc O1) W.heap.size 257 (bigF 0)) := Lib.hid ((hr1 W).congr (fun i _ => bigF_start i))
  have HB0 : Hid (Below W.heap.size W (W.alloc O1)) := Lib.hid (below_one (Below.refl _ _) _)
  clear hO1 hr1
  go_enter Try.func8, Try.ntmps8
  go_wp2
  go_loopw [2] (fun x wr => ∃ k : Nat, k ≤ 257 ∧ x = .int .i64 k ∧ Hid (TabIs wr W.heap.size 257 (bigF k)) ∧ Hid (Below W.heap.size W wr)) (fun x _ => 257 - (intOf x).toNat)
  case atStart => exact ⟨0, by decide, rfl, HT0, HB0⟩
  case round =>
    clear HT0 HB0
    obtain ⟨k, hk, rfl, HT, HB⟩ := hrel
    by_cases hlt : k < 257
    · have hki : (k : Int) < 257 := by omega
      obtain ⟨c0, c1⟩ := HT.out.cells hlt
      have f0 := HT.out.frozen (k * 2)
      have f1 := HT.out.frozen (k * 2 + 1)
      obtain ⟨q, hq⟩ : ∃ q, k / 50 = q := ⟨_, rfl⟩
      have hqi : (k : Int).tdiv 50 = (q : Int) := by rw [← hq]; simp [Int.tdiv_eq_ediv_of_nonneg]
      have hq6 : q ≤ 6 := by omega
      have HTN : Hid (TabIs ((wr.setCell ⟨W.heap.size, k * 2, none⟩ (.int .i64 (k : Int))).setCell ⟨W.heap.size, k * 2 + 1, none⟩ (.int .i64 (1 + (q : Int)))) W.heap.size 257 (bigF (k + 1))) := Lib.hid (by
        have h := (HT.out.set k (bigG k)).congr (fun i _ => bigF_step k i)
        unfold bigG at h
        rw [hq] at h
        exact h)
      have HBN := Lib.hid ((HB.out.setCell (p := ⟨W.heap.size, k * 2, none⟩) (Nat.le_refl _) (.int .i64 (k : Int))).setCell (p := ⟨W.heap.size, k * 2 + 1, none⟩) (Nat.le_refl _) (.int .i64 (1 + (q : Int))))
      clear hq
      go_wp2
      go_roundw
      case rel => exact ⟨k + 1, by omega, by go_num, HTN, HBN⟩
      case measure => simp [intOf]; omega
    · have hke : k = 257 := by omega
      subst hke
      have HSG : Hid (ShowW wr (.slice (some ⟨W.heap.size, 0, none⟩) 257 257) bigL) := Lib.hid ((HT.out.congr (fun i hi => bigF_all i hi)).showsF ⟨Nat.le_refl _, by unfold maxLen; decide⟩)
      clear HT
      go_wp2_with fail
      refine (cCheck _ bigL 5 bigL_check _ HSG.out).mono ?_
      rintro e w1 ⟨rfl, hb⟩
      have B1 := Lib.hid (below_then HB.out hb)
      have S1 := Lib.hid (HSG.out.below hb)
      clear hb HSG HB
      go_wp2_with fail
      refine (cCheck _ (bigL.take 256) 0 bigT_check _ (big_first S1.out 256 (by decide))).mono ?_
      rintro e w2 ⟨rfl, hb⟩
      have B2 := Lib.hid (below_then B1.out hb)
      have S2 := Lib.hid (S1.out.below hb)
      clear hb S1 B1
      go_wp2_with fail
      refine (walkRows _ (bigL.take 256) 0 9 _ (big_first S2.out 256 (by decide))).mono ?_
      rintro e w3 ⟨rfl, hb⟩
      have B3 := Lib.hid (below_then B2.out hb)
      have S3 := Lib.hid (S2.out.below hb)
      clear hb S2 B2
      go_wp2_with fail
      refine (walkRows _ (bigL.take 255) 0 9 _ (big_first S3.out 255 (by decide))).mono ?_
      rintro e w4 ⟨rfl, hb⟩
      have B4 := Lib.hid (below_then B3.out hb)
      have S4 := Lib.hid (S3.out.below hb)
      clear hb S3 B3
      go_wp2_with fail
      refine (walkReady _ bigL 3 _ S4.out).mono ?_
      rintro e w5 ⟨rfl, hb⟩
      have B5 := Lib.hid (below_then B4.out hb)
      have S5 := Lib.hid (S4.out.below hb)
      clear hb S4 B4
      go_wp2
      go_loopw [3] (fun x wr => ∃ i : Int, -1 ≤ i ∧ i ≤ 8 ∧ x = .int .i64 i ∧ Hid (ShowW wr (.slice (some ⟨W.heap.size, 0, none⟩) 257 257) bigL) ∧ Hid (Below W.heap.size W wr)) (fun x _ => (8 - intOf x).toNat)
      case atStart => exact ⟨-1, by decide, by decide, rfl, S5, B5⟩
      case round =>
        clear S5 B5
        obtain ⟨i, hi1, hi2, rfl, S5, B5⟩ := hrel
        by_cases hi8 : i < 8
        · go_wp2_with fail
          refine (walkReady _ (bigL.take 256) i _ (big_first S5.out 256 (by decide))).mono ?_
          rintro e w6 ⟨rfl, hb⟩
          have B6 := Lib.hid (below_then B5.out hb)
          have S6 := Lib.hid (S5.out.below hb)
          clear hb S5 B5
          go_wp2_with fail
          refine (walkCut _ (bigL.take 256) i _ (big_first S6.out 256 (by decide))).mono ?_
          rintro e w7 ⟨rfl, hb⟩
          have B7 := Lib.hid (below_then B6.out hb)
          have S7 := Lib.hid (S6.out.below hb)
          clear hb S6 B6
          go_wp2_with fail
          refine (walkTwice _ (bigL.take 256) i 3 _ (big_first S7.out 256 (by decide))).mono ?_
          rintro e w8 ⟨rfl, hb⟩
          have B8 := Lib.hid (below_then B7.out hb)
          have S8 := Lib.hid (S7.out.below hb)
          clear hb S7 B7
          go_wp2
          go_roundw
          case rel => exact ⟨i + 1, by omega, by omega, by go_num, S8, B8⟩
          case measure => simp [intOf]; omega
        · have hie : i = 8 := by omega
          subst hie
          clear S5
          go_wp2
          have HSB : Hid (ShowW (wr.alloc (.cells (wts badL).toArray 24)) (.slice (some ⟨wr.heap.size, 0, none⟩) 6 6) badL) := Lib.hid (lit_w wr _ badL 6 rfl (by decide))
          have HBG := Lib.hid (below_one B5.out (.cells (wts badL).toArray 24))
          clear B5
          generalize wr.heap.size = g at *
          go_loopw [5] (fun x wx => ∃ i : Nat, i ≤ 6 ∧ x = .int .i64 i ∧ Hid (ShowW wx (.slice (some ⟨g, 0, none⟩) 6 6) badL) ∧ Hid (Below W.heap.size W wx)) (fun x _ => 6 - (intOf x).toNat)
          case atStart => exact ⟨0, by decide, rfl, HSB, HBG⟩
          case round =>
            clear HSB HBG
            obtain ⟨i, hi, rfl, SB, BB⟩ := hrel
            by_cases hi6 : i < 6
            · have hi6' : (i : Int) < 6 := by omega
              obtain ⟨x, hx⟩ : ∃ x, wt badL i = x := ⟨_, rfl⟩
              obtain ⟨a, d⟩ := x
              have HX := Lib.hid hx
              obtain ⟨c0, c1⟩ := bad_cells SB.out hi6
              rw [hx] at c0 c1
              dsimp only at c0 c1
              have gl : g < wr.heap.size := World.block_lt_of_cell? wr _ c0
              clear hx
              go_wp2_with fail
              refine (walkRows _ [⟨1, 1⟩] a d _ (lit_one _ 1 1)).mono ?_
              rintro e w6 ⟨rfl, hb⟩
              have B6 := Lib.hid (below_lit BB.out hb)
              have S6 := Lib.hid ((SB.out.below (below_one (Below.refl _ _) _)).below hb)
              clear hb SB BB c0 c1 gl
              obtain ⟨c0, c1⟩ := bad_cells S6.out hi6
              rw [HX.out] at c0 c1
              dsimp only at c0 c1
              have gl : g < w6.heap.size := World.block_lt_of_cell? w6 _ c0
              go_wp2_with fail
              refine (walkRows _ [⟨a, d⟩] 2 2 _ (lit_one _ a d)).mono ?_
              rintro e w7 ⟨rfl, hb⟩
              have B7 := Lib.hid (below_lit B6.out hb)
              have S7 := Lib.hid ((S6.out.below (below_one (Below.refl _ _) _)).below hb)
              clear hb S6 B6 c0 c1 gl
              obtain ⟨c0, c1⟩ := bad_cells S7.out hi6
              rw [HX.out] at c0 c1
              dsimp only at c0 c1
              have gl : g < w7.heap.size := World.block_lt_of_cell? w7 _ c0
              go_wp2_with fail
              refine (walkReady _ [⟨a, d⟩] 1 _ (lit_one _ a d)).mono ?_
              rintro e w8 ⟨rfl, hb⟩
              have B8 := Lib.hid (below_lit B7.out hb)
              have S8 := Lib.hid ((S7.out.below (below_one (Below.refl _ _) _)).below hb)
              clear hb S7 B7 c0 c1 gl
              go_wp2
              go_roundw
              case rel => exact ⟨i + 1, by omega, by go_num, S8, B8⟩
              case measure => simp [intOf]; omega
            · have hie : i = 6 := by omega
              subst hie
              clear SB
              go_wp2_with fail
              refine (works _).mono ?_
              rintro e w6 ⟨rfl, hb⟩
              have B6 := Lib.hid (below_then BB.out hb)
              clear hb BB
              go_wp2_with fail
              refine (walkRows _ [] 0 1 _ (ShowW.nil _)).mono ?_
              rintro e w7 ⟨rfl, hb⟩
              have B7 := Lib.hid (below_then B6.out hb)
              clear hb B6
              go_wp2_with fail
              refine (walkReady _ [] 0 _ (ShowW.nil _)).mono ?_
              rintro e w8 ⟨rfl, hb⟩
              have B8 := Lib.hid (below_then B7.out hb)
              clear hb B7
              go_wp2_with fail
              refine (walkReady _ [⟨0, 2⟩, ⟨0, 1⟩] 2 _ (lit_w w8 _ [⟨0, 2⟩, ⟨0, 1⟩] 2 rfl (by decide))).mono ?_
              rintro e w9 ⟨rfl, hb⟩
              have B9 := Lib.hid (below_lit B8.out hb)
              clear hb B8
              go_wp2
              go_ret
              exact ⟨rfl, B9.out⟩
end Go.Proofs.Ytimaigeicidngaa
