/-
  same: the program's Zone and the document's stand alike.
-/
import Derived.Test.YtlljomnpdgmifaaTw
set_option linter.unusedVariables false
set_option linter.unusedSimpArgs false
namespace Go.Proofs.Ytlljomnpdgmifaa
open Go Go.RowKit

section
variable {W w w' : World} {z y n : Nat} {N N' : Zn} {R R' : Rn} {l l' l2 : List Pg} {f f' f2 : F} {t t' : Int → Option Pg}
theorem wf_near (x : Int) (h1 : -1 ≤ x) (h2 : x < 1099511627776) : wf64 x := WalkArith.wf_i64 (by omega)
set_option maxHeartbeats 16000000 in
set_option maxRecDepth 100000 in
theorem cSame (h : Z2 W w z N n l f t y R l f) : Calls Try.prog 11 #[.pointer (some ⟨z, 0, none⟩), .pointer (some ⟨y, 0, none⟩)] w fun e w' => e = .returned (.bool true) ∧ Below w.heap.size w w' := by
  have H := Lib.hid h
  have hl := h.r.bud.n2
  have hcap := h.r.bud.cap
  unfold maxLen at hcap
  obtain ⟨c0, c1⟩ := h.r.cells
  have d0 := h.r.bud.self
  have HC := Lib.hid (And.intro c0 d0)
  obtain ⟨q, hq⟩ : ∃ q, decide (l = ini l.length) = q := ⟨_, rfl⟩
  have HQ := Lib.hid hq
  obtain ⟨L, hL⟩ : ∃ L, freeF l + cnt n f = L := ⟨_, rfl⟩
  have HL := Lib.hid hL
  clear h c0 c1 d0 hq hL
  go_enter Try.func11, Try.ntmps11
  go_wp2_with fail
  refine (zLeft H.out.a).mono ?_
  rw [HL.out]
  rintro e w1 ⟨rfl, hb1⟩
  have H1 := Lib.hid (And.intro (H.out.below hb1) hb1)
  clear hb1
  go_wp2_with fail
  refine (rzLeft H1.out.1.r H.out.a.inv).mono ?_
  rw [HL.out]
  rintro e w2 ⟨rfl, hb2⟩
  have H2 := Lib.hid (And.intro (H1.out.1.below hb2) (below_then H1.out.2 hb2))
  clear hb2 H1
  go_wp2_with fail
  refine (zWhole H2.out.1.a q HQ.out).mono ?_
  rintro e w3 ⟨rfl, hb3⟩
  have H3 := Lib.hid (And.intro (H2.out.1.below hb3) (below_then H2.out.2 hb3))
  clear hb3 H2
  go_wp2_with fail
  refine (rzWhole H3.out.1.r q HQ.out).mono ?_
  rintro e w4 ⟨rfl, hb4⟩
  have H4 := Lib.hid (And.intro (H3.out.1.below hb4) (below_then H3.out.2 hb4))
  have hqq : (q != q) = false := by cases q <;> rfl
  clear hb4 H3
  go_wp2
  go_loopw [5] (fun x wr => ∃ k : Nat, k ≤ 10 ∧ x = .int .i64 ((k : Int) - 1) ∧ Hid (Below w.heap.size w wr)) (fun x _ => 10 - (intOf x + 1).toNat)
  case atStart => exact ⟨0, by omega, rfl, Lib.hid H4.out.2⟩
  case round =>
    obtain ⟨k, hk, rfl, HB⟩ := hrel
    by_cases hlt : k < 10
    · have hc9 : (k : Int) - 1 < 9 := by omega
      have hsum : IntKind.i64.wrap ((k : Int) - 1 + 1) = (k : Int) - 1 + 1 := IntWalk.i64_in _ (by omega)
      have HZ := Lib.hid (H.out.below HB.out)
      obtain ⟨K, hK⟩ : ∃ K, (listOf f n ((k : Int) - 1)).length = K := ⟨_, rfl⟩
      have HK := Lib.hid hK
      clear hK
      go_wp2_with fail
      refine (zNear HZ.out.a.zb ((k : Int) - 1)).mono ?_
      rw [HK.out]
      rintro e w6 ⟨rfl, hb6⟩
      have HB6 := Lib.hid (below_then HB.out hb6)
      have HZ6 := Lib.hid (HZ.out.below hb6)
      clear hb6
      go_wp2_with fail
      refine (rzNearOf HZ6.out.r ((k : Int) - 1)).mono ?_
      rw [HK.out]
      rintro e w7 ⟨rfl, rfl⟩
      go_wp2
      go_roundw
      case rel => exact ⟨k + 1, by omega, by go_num, HB6⟩
      case measure => simp [intOf]; omega
    · obtain rfl : k = 10 := by omega
      rw [show (((10 : Nat) : Int) - 1) = 9 from rfl]
      go_wp2
      go_loopw [6] (fun x wx => ∃ i : Nat, i ≤ 101 ∧ i ≤ l.length + 2 ∧ x = .int .i64 ((i : Int) - 1) ∧ Hid (Below w.heap.size w wx)) (fun x _ => 101 - (intOf x + 1).toNat)
      case atStart => exact ⟨0, by omega, by omega, rfl, HB⟩
      case round =>
        obtain ⟨i, hi, hil, rfl, HX⟩ := hrel
        have e0 := cell_keep HX.out HC.out.1
        have e1 := cell_keep HX.out HC.out.2
        by_cases hgo : i ≤ l.length + 1 ∧ i < 101
        · obtain ⟨hgo1, hgo2⟩ := hgo
          have g1 : (i : Int) - 1 ≤ (l.length : Int) := by omega
          have g2 : (i : Int) - 1 < 100 := by omega
          have hsum : IntKind.i64.wrap ((i : Int) - 1 + 1) = (i : Int) - 1 + 1 := IntWalk.i64_in _ (by omega)
          obtain ⟨a, c, d, q2, hlk⟩ := look_is t ((i : Int) - 1)
          have HLK := Lib.hid hlk
          have HZ := Lib.hid (H.out.below HX.out)
          have hq2 : (q2 != q2) = false := by cases q2 <;> rfl
          clear hlk
          go_wp2_with fail
          refine (zTagOf HZ.out.a.zb (wf_near _ (by omega) (by omega)) HLK.out).mono ?_
          rintro e w6 ⟨rfl, hb6⟩
          have HZ6 := Lib.hid (((HZ.out.below hb6).below (below_one (Below.refl _ _) (.cells #[.int .i64 a, .int .i64 c, .int .i64 d] 44))))
          have HB6 := Lib.hid (below_one (below_then HX.out hb6) (.cells #[.int .i64 a, .int .i64 c, .int .i64 d] 44))
          have hblk := heap_new w6 (.cells #[.int .i64 a, .int .i64 c, .int .i64 d] 44)
          have HBL := Lib.hid hblk
          clear hb6 hblk e0 e1
          go_wp2_with fail
          refine (rzTag HZ6.out.r HZ6.out.a.inv HZ6.out.a.tg HLK.out).mono ?_
          rintro e w7 ⟨rfl, hb7⟩
          obtain ⟨k0, k1, k2⟩ := self3 (keep_block HBL.out hb7)
          have HB7 := Lib.hid (below_one (below_then HB6.out hb7) (.cells #[.int .i64 a, .int .i64 c, .int .i64 d] 78))
          have hk7 := lt_of_block (keep_block HBL.out hb7)
          clear hb7
          go_wp2
          go_roundw
          case rel => exact ⟨i + 1, by omega, by omega, by go_num, HB7⟩
          case measure => simp [intOf]; omega
        · by_cases hend : i ≤ l.length + 1
          · obtain rfl : i = 101 := by omega
            have g1 : ((101 : Nat) : Int) - 1 ≤ (l.length : Int) := by omega
            go_wp2
            go_ret
            exact ⟨rfl, HX.out⟩
          · obtain rfl : i = l.length + 2 := by omega
            have g1 : ¬ (((l.length + 2 : Nat) : Int) - 1 ≤ (l.length : Int)) := by omega
            have g1' : decide ((l.length : Int) + 2 - 1 ≤ (l.length : Int)) = false := decide_eq_false (by omega)
            have g1'' : ¬ ((l.length : Int) + 2 - 1 ≤ (l.length : Int)) := by omega
            go_wp2
            go_ret
            exact ⟨rfl, HX.out⟩
end
end Go.Proofs.Ytlljomnpdgmifaa
