/-
  The law OwnerMoves, walked.
-/
import Derived.Test.YtoffakamlpfgoaaOne
import Derived.Test.YtoffakamlpfgoaaDo
import Derived.StillTailTactics
set_option linter.unusedVariables false
set_option linter.unusedSimpArgs false
namespace Go.Proofs.Ytoffakamlpfgoaa
open Go Go.RowKit

theorem countF_grp {S O : Nat} {f : Ow} {g : Int} (h : grp g) : countF S O f g = cnt (ofG f g) S O := if_pos h
theorem mov_from (S O : Nat) (f : Ow) {a c : Int} (h : a ≠ c) : countF S O (mov f a c) a = 0 := by
  unfold countF
  split
  · refine cnt_none _ _ _ fun s i _ => ?_
    unfold ofG mov
    by_cases e : f s i = a
    · rw [if_pos e]
      exact decide_eq_false (fun e2 => h e2.symm)
    · rw [if_neg e]
      exact decide_eq_false e
  · rfl
theorem mov_to (S O : Nat) (f : Ow) {a c : Int} (h : a ≠ c) (ha : grp a) (hc : grp c) : countF S O (mov f a c) c = countF S O f a + countF S O f c := by
  rw [countF_grp ha, countF_grp hc, countF_grp hc]
  refine cnt_add S O fun s i _ => ?_
  unfold ofG mov
  by_cases e : f s i = a
  · rw [if_pos e, decide_eq_true rfl, decide_eq_true e, decide_eq_false (by rw [e]; exact h)]
    rfl
  · rw [if_neg e, decide_eq_false e]
    show _ = 0 + _
    omega
set_option maxHeartbeats 8000000 in
set_option maxRecDepth 100000 in
theorem walkMoves (u : Value) (l : List Qd) (x1 x2 : Int) (W : World) (hs : ShowD W u l) : Calls Try.prog 5 #[u, .int .i64 x1, .int .i64 x2] W fun e W' => e = .returned (.bool true) ∧ Below W.heap.size W W' := by
  obtain ⟨ao, cap, rfl, hcap, hat⟩ := hs.form
  clear hs
  obtain ⟨a, ha⟩ : ∃ a, bring x1 5 + 1 = a := ⟨_, rfl⟩
  obtain ⟨c, hc⟩ : ∃ c, bring x2 5 + 1 = c := ⟨_, rfl⟩
  have ha6 : 1 ≤ a ∧ a < 6 := by have := bring_lt x1 5 (by decide); omega
  have hc6 : 1 ≤ c ∧ c < 6 := by have := bring_lt x2 5 (by decide); omega
  have HX1 : Hid (x1 % 5 = (a : Int) - 1) := Lib.hid (by have := bring_int x1 5 (by decide); omega)
  have HX2 : Hid (x2 % 5 = (c : Int) - 1) := Lib.hid (by have := bring_int x2 5 (by decide); omega)
  have HGA : Hid (grp (a : Int)) := Lib.hid ⟨by omega, by omega⟩
  have HGC : Hid (grp (c : Int)) := Lib.hid ⟨by omega, by omega⟩
  clear ha hc
  go_enter Try.func5, Try.ntmps5
  go_wp2_with fail
  refine (oNew 5 16 (by decide) W).mono ?_
  rintro e w1 ⟨B, b, rfl, h1⟩
  have H1 := Lib.hid h1
  clear h1
  go_wp2
  go_loopw [9] (fun i wr => ∃ k : Nat, k ≤ l.length ∧ k ≤ 100 ∧ i = .int .i64 k ∧ Hid (∃ f, O1 W wr B b 5 16 f)) (fun i _ => l.length - (intOf i).toNat)
  case atStart => exact ⟨0, by omega, by omega, rfl, Lib.hid ⟨_, H1.out⟩⟩
  case round =>
    clear H1
    obtain ⟨k, hk, hk100, rfl, HS⟩ := hrel
    obtain ⟨f, hf⟩ := HS.out
    have HT := Lib.hid hf
    clear hf HS
    by_cases hlt : k < l.length
    · by_cases hlt2 : k < 100
      · obtain ⟨b1, o1, rfl, d0, d1, d2, d3, d4⟩ := hat k hlt
        clear d0 d4
        replace d1 := cell_keep HT.out.low d1
        replace d2 := cell_keep HT.out.low d2
        replace d3 := cell_keep HT.out.low d3
        generalize (qd l k).slab = s at d1
        generalize (qd l k).i = i at d2
        generalize (qd l k).g = g at d3
        obtain ⟨y, hy⟩ : ∃ y, 1 + bring g 4 = y := ⟨_, rfl⟩
        have hy5 : 1 ≤ y ∧ y < 5 := by have := bring_lt g 4 (by decide); omega
        obtain ⟨z, hz⟩ : ∃ z, bring g 4 = z := ⟨_, rfl⟩
        have HZ : Hid (g % 4 = (z : Int)) := Lib.hid (by rw [← hz]; exact (bring_int g 4 (by decide)).symm)
        have hz4 : z < 4 := by rw [← hz]; exact bring_lt g 4 (by decide)
        have hw1 : (1 + (z : Int)) = (y : Int) := by omega
        clear hy hz
        obtain ⟨er, f', hr⟩ := SetIs.ex 5 16 f (s % 5) (i % 16) (y : Int)
        have HR := Lib.hid hr
        have hd := HT.out.drew
        clear hr
        go_wp2
        refine wp_region_still_tail 20 (by kernel_rfl) (by kernel_rfl) ?_
        simp only [List.take_succ_cons, List.take_zero, List.drop_succ_cons, List.drop_zero]
        repeat still_step
        still_call (cBringM _ _ (by decide) _)
        repeat still_step
        still_call (cBringM _ _ (by decide) _)
        repeat still_step
        still_call (cBringM _ _ (by decide) _)
        rw [HZ.out]
        repeat still_step
        refine wpStill_nil ?_
        change wpList _ _ _ _ _ wr.drew
        go_wp2_with fail
        refine (oSet hd HR.out).mono ?_
        rintro e wM ⟨rfl, bM, _⟩
        have H9 := Lib.hid bM
        clear bM hd d1 d2 d3
        go_wp2
        go_roundw
        case rel => exact ⟨k + 1, by omega, by omega, by go_num, Lib.hid ⟨_, H9.out⟩⟩
        case measure => simp [intOf]; omega
      · have hk1 : k = 100 := by omega
        subst hk1
        rw [show ((100 : Nat) : Int) = 100 from rfl]
        clear hat
        go_wp2_with fail
        refine (cBringM _ _ (by decide) _).mono ?_
        rintro e w2 ⟨rfl, rfl⟩
        rw [HX1.out]
        go_wp2_with fail
        refine (cBringM _ _ (by decide) _).mono ?_
        rintro e w2 ⟨rfl, rfl⟩
        rw [HX2.out]
        have e1 : (1 : Int) + ((a : Int) - 1) = (a : Int) := by omega
        have e2 : (1 : Int) + ((c : Int) - 1) = (c : Int) := by omega
        obtain ⟨p, hp⟩ : ∃ p, countF 5 16 f (a : Int) = p := ⟨_, rfl⟩
        obtain ⟨q, hq⟩ : ∃ q, countF 5 16 f (c : Int) = q := ⟨_, rfl⟩
        have hp4 : p ≤ 4096 := by rw [← hp]; exact countF_le _ _ _ _ (by decide) (by decide)
        have hq4 : q ≤ 4096 := by rw [← hq]; exact countF_le _ _ _ _ (by decide) (by decide)
        have HP := Lib.hid hp
        have HQ := Lib.hid hq
        clear hp hq
        go_wp2_with fail
        refine (oCount HT.out _ p HP.out).mono ?_
        rintro e w3 ⟨rfl, h3, _⟩
        have H3 := Lib.hid h3
        clear h3 HT
        go_wp2_with fail
        refine (oCount H3.out _ q HQ.out).mono ?_
        rintro e w4 ⟨rfl, h4, _⟩
        have H4 := Lib.hid h4
        clear h4 H3
        by_cases hac : a = c
        · subst hac
          have haa : ((a : Int) == (a : Int)) = true := by simp
          have hpp : ((p : Int) == (p : Int)) = true := by simp
          go_wp2_with fail
          refine (oMove H4.out (.same HGA.out HGA.out rfl)).mono ?_
          rintro e w5 ⟨rfl, h5, _⟩
          have H5 := Lib.hid h5
          clear h5 H4
          go_wp2_with fail
          refine (oCount H5.out _ p HP.out).mono ?_
          rintro e w6 ⟨rfl, h6, _⟩
          have H6 := Lib.hid h6
          clear h6 H5
          go_wp2_with fail
          refine (works _).mono ?_
          rintro e w7 ⟨rfl, hb⟩
          have HB := Lib.hid (below_then H6.out.low hb)
          clear hb
          go_wp2
          go_ret
          exact ⟨rfl, HB.out⟩
        · have hci : (a : Int) ≠ (c : Int) := by omega
          have hca : ((a : Int) == (c : Int)) = false := by simpa using hci
          have hpp : ((p : Int) == (p : Int)) = true := by simp
          have HM : Hid (MoveIs 5 16 f (a : Int) (c : Int) (p : Int) 0 (mov f a c)) := Lib.hid (by rw [← HP.out, countF_grp HGA.out]; exact .ok HGA.out HGC.out hci)
          have HF : Hid (countF 5 16 (mov f (a : Int) (c : Int)) (a : Int) = 0) := Lib.hid (mov_from _ _ _ hci)
          have HT2 : Hid (countF 5 16 (mov f (a : Int) (c : Int)) (c : Int) = p + q) := Lib.hid (by rw [mov_to _ _ _ hci HGA.out HGC.out, HP.out, HQ.out])
          have hsum : (((p + q : Nat) : Int) == (p : Int) + (q : Int)) = true := by simp
          clear hac hci
          go_wp2_with fail
          refine (oMove H4.out HM.out).mono ?_
          rintro e w5 ⟨rfl, h5, _⟩
          have H5 := Lib.hid h5
          clear h5 H4
          go_wp2_with fail
          refine (oCount H5.out _ 0 HF.out).mono ?_
          rintro e w6 ⟨rfl, h6, _⟩
          have H6 := Lib.hid h6
          clear h6 H5
          go_wp2_with fail
          refine (oCount H6.out _ (p + q) HT2.out).mono ?_
          rintro e w6 ⟨rfl, h7, _⟩
          have H7 := Lib.hid h7
          clear h7 H6
          go_wp2_with fail
          refine (works _).mono ?_
          rintro e w7 ⟨rfl, hb⟩
          have HB := Lib.hid (below_then H7.out.low hb)
          clear hb
          go_wp2
          go_ret
          exact ⟨rfl, HB.out⟩
    · have hk1 : l.length = k := by omega
      clear hat
      rw [hk1]
      clear hk1 hlt hk
      go_wp2_with fail
      refine (cBringM _ _ (by decide) _).mono ?_
      rintro e w2 ⟨rfl, rfl⟩
      rw [HX1.out]
      go_wp2_with fail
      refine (cBringM _ _ (by decide) _).mono ?_
      rintro e w2 ⟨rfl, rfl⟩
      rw [HX2.out]
      have e1 : (1 : Int) + ((a : Int) - 1) = (a : Int) := by omega
      have e2 : (1 : Int) + ((c : Int) - 1) = (c : Int) := by omega
      obtain ⟨p, hp⟩ : ∃ p, countF 5 16 f (a : Int) = p := ⟨_, rfl⟩
      obtain ⟨q, hq⟩ : ∃ q, countF 5 16 f (c : Int) = q := ⟨_, rfl⟩
      have hp4 : p ≤ 4096 := by rw [← hp]; exact countF_le _ _ _ _ (by decide) (by decide)
      have hq4 : q ≤ 4096 := by rw [← hq]; exact countF_le _ _ _ _ (by decide) (by decide)
      have HP := Lib.hid hp
      have HQ := Lib.hid hq
      clear hp hq
      go_wp2_with fail
      refine (oCount HT.out _ p HP.out).mono ?_
      rintro e w3 ⟨rfl, h3, _⟩
      have H3 := Lib.hid h3
      clear h3 HT
      go_wp2_with fail
      refine (oCount H3.out _ q HQ.out).mono ?_
      rintro e w4 ⟨rfl, h4, _⟩
      have H4 := Lib.hid h4
      clear h4 H3
      by_cases hac : a = c
      · subst hac
        have haa : ((a : Int) == (a : Int)) = true := by simp
        have hpp : ((p : Int) == (p : Int)) = true := by simp
        go_wp2_with fail
        refine (oMove H4.out (.same HGA.out HGA.out rfl)).mono ?_
        rintro e w5 ⟨rfl, h5, _⟩
        have H5 := Lib.hid h5
        clear h5 H4
        go_wp2_with fail
        refine (oCount H5.out _ p HP.out).mono ?_
        rintro e w6 ⟨rfl, h6, _⟩
        have H6 := Lib.hid h6
        clear h6 H5
        go_wp2_with fail
        refine (works _).mono ?_
        rintro e w7 ⟨rfl, hb⟩
        have HB := Lib.hid (below_then H6.out.low hb)
        clear hb
        go_wp2
        go_ret
        exact ⟨rfl, HB.out⟩
      · have hci : (a : Int) ≠ (c : Int) := by omega
        have hca : ((a : Int) == (c : Int)) = false := by simpa using hci
        have hpp : ((p : Int) == (p : Int)) = true := by simp
        have HM : Hid (MoveIs 5 16 f (a : Int) (c : Int) (p : Int) 0 (mov f a c)) := Lib.hid (by rw [← HP.out, countF_grp HGA.out]; exact .ok HGA.out HGC.out hci)
        have HF : Hid (countF 5 16 (mov f (a : Int) (c : Int)) (a : Int) = 0) := Lib.hid (mov_from _ _ _ hci)
        have HT2 : Hid (countF 5 16 (mov f (a : Int) (c : Int)) (c : Int) = p + q) := Lib.hid (by rw [mov_to _ _ _ hci HGA.out HGC.out, HP.out, HQ.out])
        have hsum : (((p + q : Nat) : Int) == (p : Int) + (q : Int)) = true := by simp
        clear hac hci
        go_wp2_with fail
        refine (oMove H4.out HM.out).mono ?_
        rintro e w5 ⟨rfl, h5, _⟩
        have H5 := Lib.hid h5
        clear h5 H4
        go_wp2_with fail
        refine (oCount H5.out _ 0 HF.out).mono ?_
        rintro e w6 ⟨rfl, h6, _⟩
        have H6 := Lib.hid h6
        clear h6 H5
        go_wp2_with fail
        refine (oCount H6.out _ (p + q) HT2.out).mono ?_
        rintro e w6 ⟨rfl, h7, _⟩
        have H7 := Lib.hid h7
        clear h7 H6
        go_wp2_with fail
        refine (works _).mono ?_
        rintro e w7 ⟨rfl, hb⟩
        have HB := Lib.hid (below_then H7.out.low hb)
        clear hb
        go_wp2
        go_ret
        exact ⟨rfl, HB.out⟩
end Go.Proofs.Ytoffakamlpfgoaa
