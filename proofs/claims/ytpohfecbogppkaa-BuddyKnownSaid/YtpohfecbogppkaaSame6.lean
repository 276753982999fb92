/-
  The statements' helpers outs, same.
-/
import Derived.Test.YtpohfecbogppkaaRFresh
set_option linter.unusedVariables false
set_option linter.unusedSimpArgs false
namespace Go.Proofs.Ytpohfecbogppkaa
open Go Go.RowKit

/-- the blocks that are out -/
def outq (l : List Pg) (i : Nat) : Bool := decide ((pg l i).kind = 2)
abbrev outI (l : List Pg) : List Int := ids (outq l) l.length
set_option maxHeartbeats 4000000 in
set_option maxRecDepth 100000 in
theorem cOuts (u : Value) (l : List Pg) (hn : l.length ≤ 1024) (w : World) (hs : ShowP w u l) :
    Calls Try.prog 13 #[u] w fun e w' => ∃ v, e = .returned v ∧ ShowI w' v (outI l) ∧ Below w.heap.size w w' := by
  obtain ⟨ao, cap, rfl, hcap, hat⟩ := hs.form
  clear hs
  obtain ⟨i0, hi, hz0, hz1, hz2⟩ := info_parts infoI
  go_enter Try.func13, Try.ntmps13
  go_wp2
  go_loopw [3, 4] (fun v y wr => ∃ k : Nat, k ≤ l.length ∧ y = .int .i64 k ∧ wr.ownsRow w.heap.size 3 1 v (ids (outq l) k).length (nms (ids (outq l) k)) ∧ Below w.heap.size w wr) (fun v y _ => l.length - (intOf y).toNat)
  case atStart => exact ⟨0, by omega, rfl, World.ownsRow_nil _ _ _ _, Below.refl _ _⟩
  case round =>
    obtain ⟨k, hk, rfl, hown, hb⟩ := hrel
    have hkl := ids_le (outq l) k
    by_cases hlt : k < l.length
    · have HY := Lib.hid (ids_yes (q := outq l) (k := k))
      have HN := Lib.hid (ids_no (q := outq l) (k := k))
      obtain ⟨b1, o1, rfl, c1, _, _⟩ := hat k hlt
      have d1 := cell_keep hb c1
      clear c1
      have hbz := hb.size
      by_cases hq : (pg l k).kind = 2
      · have HY1 := Lib.hid (HY.out (decide_eq_true hq))
        rw [hq] at d1
        obtain ⟨N, hN⟩ : ∃ N, (ids (outq l) k).length = N := ⟨_, rfl⟩
        obtain ⟨xs, hxs⟩ : ∃ xs, nms (ids (outq l) k) = xs := ⟨_, rfl⟩
        rw [hN, hxs] at hown
        rw [hN] at hkl
        have HX := Lib.hid (And.intro hN hxs)
        clear hN hxs HY HN hq
        go_wp2_with (at_builtin; refine wpList_append_own _ (by rfl) _ _ 35 (by rfl) w.heap.size 3 i0 (.int .i64 0) 1 8 Try.underlying35 hi hz0 hz1 hz2 (by rfl) (by decide) _ N xs (by rfl) (hown.alloc _) ⟨wr.heap.size, 0, none⟩ 1 1 [.int .i64 (k : Int)] (by rfl) (by rfl) (cell_one_new _ _ _) (by intro u hu; simp at hu; subst hu; rfl) (by unfold maxLen; omega) (by omega) (by rw [size_alloc]; omega) ?_)
        intro v' w1 hown' hg _
        have hb1 : Below w.heap.size w w1 := (below_one hb _).grown hg (by rw [size_alloc]; omega) (own_ge hown)
        go_wp2
        go_roundw
        case rel => exact ⟨k + 1, by omega, by go_num, by rw [HY1.out]; simpa [nms, HX.out.1, ← HX.out.2] using hown', hb1⟩
        case measure => simp [intOf]; omega
      · have HN1 := Lib.hid (HN.out (decide_eq_false hq))
        generalize (pg l k).kind = kk at d1 hq
        have hq2 : (kk == 2) = false := by rw [beq_eq_false_iff_ne]; exact hq
        clear HY HN
        go_wp2
        go_roundw
        case rel => exact ⟨k + 1, by omega, by go_num, by rw [HN1.out]; exact hown, hb⟩
        case measure => simp [intOf]; omega
    · obtain rfl : k = l.length := by omega
      have hs := own_i hown
      go_wp2
      go_ret
      exact ⟨_, rfl, hs, hb⟩
section
variable {w : World} {B g cap B2 g2 cap2 : Nat} {l : List Pg}
set_option maxHeartbeats 8000000 in
set_option maxRecDepth 100000 in
/-- both stand alike -/
theorem cSame6 (h : BudAt w 56 B g cap l) (hr : BudAt w 39 B2 g2 cap2 l) :
    Calls Try.prog 16 #[.pointer (some ⟨B, 0, none⟩), .pointer (some ⟨B2, 0, none⟩)] w fun e w' => e = .returned (.bool true) ∧ Below w.heap.size w w' := by
  have HA := Lib.hid h
  have HR := Lib.hid hr
  have hn1 := h.n1
  have hn2 := h.n2
  obtain ⟨Q, hQ⟩ : ∃ Q, decide (l = ini l.length) = Q := ⟨_, rfl⟩
  have HQ := Lib.hid hQ
  obtain ⟨F, hF⟩ : ∃ F, freeF l = F := ⟨_, rfl⟩
  have HF := Lib.hid hF
  clear h hr hQ hF
  go_enter Try.func16, Try.ntmps16
  go_wp2_with fail
  refine (cPagesOf HA.out).mono ?_
  rintro e w1 ⟨g3, cp, rfl, hg3, hcp, ht, hb1⟩
  have HT1 := Lib.hid ht
  have hs1 := (HR.out.below hb1).self
  have HB1 := Lib.hid hb1
  clear ht hb1
  go_wp2_with fail
  refine (cSameR _ _ l l _ (HT1.out.shows hcp) (HR.out.below HB1.out).shows).mono ?_
  rintro e w2 ⟨rfl, hb⟩
  rw [decide_eq_true rfl]
  have HB2 := Lib.hid (below_then HB1.out hb)
  have HT2 := Lib.hid (HT1.out.below hb)
  clear hb hs1 HB1 HT1
  go_wp2_with fail
  refine (cLeft (HA.out.below HB2.out) F HF.out).mono ?_
  rintro e w3 ⟨rfl, hb⟩
  have HB3 := Lib.hid (below_then HB2.out hb)
  have HT3 := Lib.hid (HT2.out.below hb)
  clear hb HB2 HT2
  go_wp2_with fail
  refine (rLeft (HR.out.below HB3.out) F HF.out).mono ?_
  rintro e w4 ⟨rfl, hb⟩
  have HB4 := Lib.hid (below_then HB3.out hb)
  have HT4 := Lib.hid (HT3.out.below hb)
  clear hb HB3 HT3
  go_wp2_with fail
  refine (cWhole (HA.out.below HB4.out) Q HQ.out).mono ?_
  rintro e w5 ⟨rfl, hb⟩
  have HB5 := Lib.hid (below_then HB4.out hb)
  have HT5 := Lib.hid (HT4.out.below hb)
  clear hb HB4 HT4
  go_wp2_with fail
  refine (rWhole (HR.out.below HB5.out) Q HQ.out).mono ?_
  rintro e w6 ⟨rfl, hb⟩
  have HB6 := Lib.hid (below_then HB5.out hb)
  have HT6 := Lib.hid (HT5.out.below hb)
  clear hb HB5 HT5
  go_wp2
  go_loopw [6] (fun x wr => ∃ y : Int, x = .int .i64 y ∧ -1 ≤ y ∧ y ≤ 12 ∧ Hid (Below w.heap.size w wr) ∧ Hid (TabIs wr g3 l.length (pg l))) (fun x _ => (12 - intOf x).toNat)
  case atStart => exact ⟨-1, rfl, by omega, by omega, HB6, HT6⟩
  case round =>
    obtain ⟨y, rfl, hy1, hy2, HBr, HTr⟩ := hrel
    by_cases hlt : y ≤ 11
    · go_wp2_with fail
      refine (cFrees (HA.out.below HBr.out) y).mono ?_
      rintro e w7 ⟨v, rfl, hv, hb⟩
      have HB7 := Lib.hid (below_then HBr.out hb)
      have HT7 := Lib.hid (HTr.out.below hb)
      have HV := Lib.hid hv
      clear hb hv
      go_wp2_with fail
      refine (rFrees (HR.out.below HB7.out) y).mono ?_
      rintro e w8 ⟨v2, rfl, hv2, hb⟩
      have HB8 := Lib.hid (below_then HB7.out hb)
      have HT8 := Lib.hid (HT7.out.below hb)
      have HV1 := Lib.hid (HV.out.below hb)
      have HV2 := Lib.hid hv2
      clear hb hv2 HB7 HT7 HV
      go_wp2_with fail
      refine (cEqInts _ _ _ _ _ HV1.out HV2.out).mono ?_
      rintro e w9 ⟨rfl, hb⟩
      rw [decide_eq_true rfl]
      have HB9 := Lib.hid (below_then HB8.out hb)
      have HT9 := Lib.hid (HT8.out.below hb)
      clear hb HB8 HT8 HV1 HV2
      go_wp2
      go_roundw
      case rel => exact ⟨y + 1, rfl, by omega, by omega, HB9, HT9⟩
      case measure => simp [intOf]; omega
    · have hy : y = 12 := by omega
      subst hy
      unfold maxLen at hcp
      go_wp2
      go_loopw [7] (fun x wx => ∃ k : Nat, k ≤ l.length ∧ x = .int .i64 k ∧ Hid (Below w.heap.size w wx) ∧ Hid (∃ f, TabIs wx g3 l.length f)) (fun x _ => l.length - (intOf x).toNat)
      case atStart => exact ⟨0, by omega, by first | rfl | go_num, HBr, Lib.hid ⟨_, HTr.out⟩⟩
      case round =>
        obtain ⟨k, hk, rfl, HBk, HTk⟩ := hrel
        by_cases hkl : k < l.length
        · obtain ⟨f, hf⟩ := HTk.out
          obtain ⟨c0, _, _⟩ := hf.cells hkl
          have f0 := hf.frozen (k * 3)
          have HT2 : Hid (∃ f, TabIs (wr.setCell ⟨g3, k * 3, none⟩ (.int .i64 9)) g3 l.length f) := Lib.hid ⟨_, hf.setKind k 9⟩
          have HB2 := Lib.hid (HBk.out.setCell (p := ⟨g3, k * 3, none⟩) hg3 (.int .i64 9))
          clear hf
          go_wp2
          go_roundw
          case rel => exact ⟨k + 1, by omega, by go_num, HB2, HT2⟩
          case measure => simp [intOf]; omega
        · obtain rfl : k = l.length := by omega
          have HS := Lib.hid (HR.out.below HBk.out).self
          go_wp2
          go_region_held3 (fun W => W.cell? ⟨B2, 0, none⟩ = some (.slice (some ⟨g2, 0, none⟩) l.length cap2) ∧ Below wr.heap.size wr W)
            (first | exact key1 HS.out (by assumption) | exact key1 HS.out (Below.drew (Below.refl _ _)))
            (first
              | (go_at_call 19; refine (cPagesOf (HA.out.below (below_then HBk.out (show _ ∧ Below wr.heap.size wr _ from by assumption).2))).mono ?_; rintro e w10 ⟨g10, cp10, rfl, hg10, hcp10, ht10, h10⟩; have hb10 : Below wr.heap.size wr w10 := below_then (show _ ∧ Below wr.heap.size wr _ from by assumption).2 h10; have hs10 : ShowP w10 (.slice (some ⟨g10, 0, none⟩) l.length cp10) l := ht10.shows hcp10)
              | (go_at_call 35; refine (cSameR _ _ l l _ (by assumption) (HR.out.below (below_then HBk.out (show _ ∧ Below wr.heap.size wr _ from by assumption).2)).shows).mono ?_; rintro e w11 ⟨rfl, h11⟩; have hb11 : Below wr.heap.size wr w11 := below_then (show _ ∧ Below wr.heap.size wr _ from by assumption).2 h11))
          all_goals go_wp2
          all_goals go_ret
          all_goals exact ⟨by first | rfl | exact ret_bool (decide_eq_true rfl), below_then HBk.out (show _ ∧ Below wr.heap.size wr _ from by assumption).2⟩
end
end Go.Proofs.Ytpohfecbogppkaa
