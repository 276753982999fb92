/-
  Heads of the program: word, headIn, decoded, Head, HeadOf.
-/
import Derived.Test.YtnnfmlbgoplnaaaRc
import Derived.BigQuiet
set_option linter.unusedVariables false
set_option linter.unusedSimpArgs false
namespace Go.Proofs.Ytnnfmlbgoplnaaa
open Go Go.RowKit

theorem hdword_bad {s o : Int} (h : ¬ mayH s o) : 0 = headV s o ∧ 2 = headE s o := by unfold headV headE; rw [if_neg h, if_neg h]; exact ⟨rfl, rfl⟩
theorem hdword_good {s o : Int} (h : mayH s o) : wdH s o = headV s o ∧ 0 = headE s o := by unfold headV headE; rw [if_pos h, if_pos h]; exact ⟨rfl, rfl⟩
set_option maxHeartbeats 3000000 in
theorem cWordH (s o : Int) (w : World) :
    Calls Try.prog 71 #[.agg #[.int .i64 s, .int .i64 o]] w fun e w' => e = .returned (.tuple #[.int .u64 (headV s o), .int .i64 (headE s o)]) ∧ Below w.heap.size w w' := by
  have hgd := guardH
  have HB : Hid (Below w.heap.size w (w.alloc (.cells #[.int .i64 s, .int .i64 o] 96))) := Lib.hid (below_one (Below.refl _ _) _)
  by_cases hz : s = -1 ∧ o = -1
  · obtain ⟨rfl, rfl⟩ := hz
    have hm : mayH (-1) (-1) := Or.inl ⟨rfl, rfl⟩
    have HX := Lib.hid (hdword_good hm)
    have heq := fun w => eqinH (a := -1) (b := -1) (c := -1) (d := -1) (q := true) (by decide) w
    have HJ : Hid (∀ w, Calls Try.prog 83 #[.int .i64 0, .int .i64 0] w fun e w' => e = .returned (.int .u64 0) ∧ w' = w) := Lib.hid (cJoined 0 0 (by omega) (by omega))
    clear hm
    go_enter Try.func71, Try.ntmps71
    go_wp2_with fail
    refine (HJ.out _).mono ?_
    rintro e w1 ⟨rfl, rfl⟩
    go_wp2
    go_ret2
    exact ⟨ret_ue HX.out.1 HX.out.2, HB.out⟩
  · have heq := fun w => eqinH (a := s) (b := o) (c := -1) (d := -1) (q := false) (decide_eq_false hz) w
    by_cases hs : 0 ≤ s ∧ s < 32
    · have HS := Lib.hid (cIsSlab s true (decide_eq_true hs))
      by_cases h1 : -1 ≤ o
      · by_cases h2 : o < 16
        · have hm : mayH s o := Or.inr ⟨hs.1, hs.2, h1, h2⟩
          have hr := mayH_range hm
          have HX := Lib.hid (hdword_good hm)
          obtain ⟨s1, s2⟩ := hs
          have HJ : Hid (∀ w, Calls Try.prog 83 #[.int .i64 (s + 1), .int .i64 (o + 1)] w fun e w' => e = .returned (.int .u64 (wdH s o)) ∧ w' = w) := Lib.hid (cJoined (s + 1) (o + 1) (by omega) (by omega))
          clear hm hz hr
          go_enter Try.func71, Try.ntmps71
          go_wp2_with fail
          refine (HS.out _).mono ?_
          rintro e w1 ⟨rfl, rfl⟩
          go_wp2_with fail
          refine (HJ.out _).mono ?_
          rintro e w1 ⟨rfl, rfl⟩
          go_wp2
          go_ret2
          exact ⟨ret_ue HX.out.1 HX.out.2, HB.out⟩
        · have HX := Lib.hid (hdword_bad (s := s) (o := o) (by unfold mayH; omega))
          clear hz hs
          go_enter Try.func71, Try.ntmps71
          go_wp2_with fail
          refine (HS.out _).mono ?_
          rintro e w1 ⟨rfl, rfl⟩
          go_wp2
          go_ret2
          exact ⟨ret_ue HX.out.1 HX.out.2, HB.out⟩
      · have HX := Lib.hid (hdword_bad (s := s) (o := o) (by unfold mayH; omega))
        clear hz hs
        go_enter Try.func71, Try.ntmps71
        go_wp2_with fail
        refine (HS.out _).mono ?_
        rintro e w1 ⟨rfl, rfl⟩
        go_wp2
        go_ret2
        exact ⟨ret_ue HX.out.1 HX.out.2, HB.out⟩
    · have HS := Lib.hid (cIsSlab s false (decide_eq_false hs))
      have HX := Lib.hid (hdword_bad (s := s) (o := o) (by unfold mayH; omega))
      clear hz hs
      by_cases h1 : -1 ≤ o
      · by_cases h2 : o < 16
        · go_enter Try.func71, Try.ntmps71
          go_wp2_with fail
          refine (HS.out _).mono ?_
          rintro e w1 ⟨rfl, rfl⟩
          go_wp2
          go_ret2
          exact ⟨ret_ue HX.out.1 HX.out.2, HB.out⟩
        · go_enter Try.func71, Try.ntmps71
          go_wp2_with fail
          refine (HS.out _).mono ?_
          rintro e w1 ⟨rfl, rfl⟩
          go_wp2
          go_ret2
          exact ⟨ret_ue HX.out.1 HX.out.2, HB.out⟩
      · go_enter Try.func71, Try.ntmps71
        go_wp2_with fail
        refine (HS.out _).mono ?_
        rintro e w1 ⟨rfl, rfl⟩
        go_wp2
        go_ret2
        exact ⟨ret_ue HX.out.1 HX.out.2, HB.out⟩
theorem res_inH {tmps : Array Value} {K : Nat} {w : World} {a b : Int} (h2 : tmps.getD 2 undef = .pointer (some ⟨K, 0, none⟩)) (hb : PrAt 96 w K a b) :
    (results Try.f70 tmps).run Try.prog w = .ok (.agg (prA a b)) w := by
  obtain ⟨fs, hf⟩ := prH.under
  exact results_cell_row rfl tmps w K _ (prA a b) _ (.struct fs) h2 hb hf rfl prH.info
theorem res_decH {tmps : Array Value} {K : Nat} {w : World} {a b : Int} {q : Bool} (h2 : tmps.getD 6 undef = .pointer (some ⟨K, 0, none⟩)) (h3 : tmps.getD 7 undef = .bool q) (hb : PrAt 96 w K a b) :
    (results Try.f69 tmps).run Try.prog w = .ok (.tuple #[.agg (prA a b), .bool q]) w := by
  obtain ⟨c0, c1⟩ := hb.cells
  rw [Array.getD_eq_getD_getElem?] at h2 h3
  simp [results, Try.f69, h2, h3, c0, c1, go_sem]
set_option maxHeartbeats 2000000 in
theorem cInH (x : Int) (hx : okW x) (w : World) :
    Calls Try.prog 70 #[.int .u64 x] w fun e w' => e = .returned (.agg (prA (x / 64 - 1) (x % 64 - 1))) ∧ Below w.heap.size w w' := by
  have HP := Lib.hid (cParted x hx)
  obtain ⟨p, hp⟩ : ∃ p, x % 64 = p := ⟨_, rfl⟩
  obtain ⟨q, hq⟩ : ∃ q, x / 64 = q := ⟨_, rfl⟩
  obtain ⟨x1, x2⟩ := hx
  have hp2 : 0 ≤ p ∧ p < 64 := by omega
  have hq2 : 0 ≤ q ∧ q < 9223372036854775807 := by omega
  rw [hp, hq] at HP
  simp only [hp, hq]
  obtain ⟨p1, p2⟩ := hp2
  obtain ⟨q1, q2⟩ := hq2
  clear hp hq
  go_enter Try.func70, Try.ntmps70
  go_wp2_with fail
  refine (HP.out _).mono ?_
  rintro e w1 ⟨rfl, rfl⟩
  go_wp2_with (refine wpList_storeP prH (by rfl) _ _ (by rfl) w.heap.size (q - 1) (p - 1) (by rfl) (by rfl) _ (pr_new _ w) rfl ?_; intro w2 h2 hk2)
  exact bodyPost_ret (res_inH rfl h2) rfl ⟨rfl, below_one_kept (below_one (Below.refl _ _) _) hk2 (Nat.le_refl _)⟩
set_option maxHeartbeats 3000000 in
theorem cDecH (x : Int) (hx : okW x) (w : World) :
    Calls Try.prog 69 #[.int .u64 x, fnV 70, fnV 71] w fun e w' => e = .returned (.tuple #[.agg (prA (hS x) (hO x)), .bool (decide (isH x))]) ∧ Below w.heap.size w w' := by
  have HI := Lib.hid (cInH x hx)
  have H0 : Hid (∀ w, Calls Try.prog 70 #[.int .u64 0] w fun e w' => e = .returned (.agg (prA (-1) (-1))) ∧ Below w.heap.size w w') := Lib.hid (cInH 0 (by decide))
  have hP := cWordH (x / 64 - 1) (x % 64 - 1)
  by_cases h1 : isH x
  · have h1' : mayH (x / 64 - 1) (x % 64 - 1) := h1
    rw [← (hdword_good h1').1, ← (hdword_good h1').2, wdH_in] at hP
    have e1 : hS x = x / 64 - 1 := if_pos h1
    have e2 : hO x = x % 64 - 1 := if_pos h1
    rw [e1, e2, decide_eq_true h1]
    have HP := Lib.hid hP
    have hxx : (x != x) = false := by simp
    clear hP h1 h1' e1 e2 H0 hx
    generalize (x / 64 - 1) = a at *
    generalize (x % 64 - 1) = b at *
    go_enter Try.func69, Try.ntmps69
    go_wp2_with fail
    refine (HI.out _).mono ?_
    rintro e w1 ⟨rfl, hb1⟩
    have HK1 := Lib.hid ((pr_new 96 w).below hb1)
    have HL1 := Lib.hid (below_then (below_one (Below.refl _ _) _) hb1)
    clear hb1
    go_wp2_with (refine wpList_storeP prH (by rfl) _ _ (by rfl) w1.heap.size a b (by rfl) (by rfl) _ (pr_new _ w1) rfl ?_; intro w2 h2 hk2; have hb2 := below_one_kept (below_one (Below.refl w1.heap.size w1) _) hk2 (Nat.le_refl _); have HK2 := Lib.hid (HK1.out.below hb2); have HX2 := Lib.hid h2; have HL2 := Lib.hid (below_then HL1.out hb2); clear h2 hk2 hb2 HL1 HK1; refine Stop.mk ?_)
    unfold Stop
    go_wp2_with (refine wpList_loadP prH (by rfl) _ (by rfl) w1.heap.size a b (by rfl) HX2.out ?_)
    refine (HP.out _).mono ?_
    rintro e w3 ⟨rfl, hb3⟩
    have HK3 := Lib.hid (HK2.out.below hb3)
    have HX3 := Lib.hid (HX2.out.below hb3)
    have HL3 := Lib.hid (below_then HL2.out hb3)
    clear hb3 HL2 HK2 HX2
    go_wp2_with (first
      | (refine wpList_loadP prH (by rfl) _ (by rfl) w1.heap.size a b (by rfl) HX3.out ?_)
      | (refine wpList_storeP prH (by rfl) _ _ (by rfl) w.heap.size a b (by rfl) (by rfl) _ HK3.out rfl ?_; intro w4 h4 hk4))
    exact bodyPost_ret (res_decH rfl rfl h4) rfl ⟨rfl, below_one_kept HL3.out hk4 (Nat.le_refl _)⟩
  · have h1' : ¬ mayH (x / 64 - 1) (x % 64 - 1) := h1
    rw [← (hdword_bad h1').1, ← (hdword_bad h1').2] at hP
    have e1 : hS x = -1 := if_neg h1
    have e2 : hO x = -1 := if_neg h1
    rw [e1, e2, decide_eq_false h1]
    have HP := Lib.hid hP
    clear hP h1 h1' e1 e2 hx
    generalize (x / 64 - 1) = a at *
    generalize (x % 64 - 1) = b at *
    go_enter Try.func69, Try.ntmps69
    go_wp2_with fail
    refine (HI.out _).mono ?_
    rintro e w1 ⟨rfl, hb1⟩
    have HK1 := Lib.hid ((pr_new 96 w).below hb1)
    have HL1 := Lib.hid (below_then (below_one (Below.refl _ _) _) hb1)
    clear hb1
    go_wp2_with (refine wpList_storeP prH (by rfl) _ _ (by rfl) w1.heap.size a b (by rfl) (by rfl) _ (pr_new _ w1) rfl ?_; intro w2 h2 hk2; have hb2 := below_one_kept (below_one (Below.refl w1.heap.size w1) _) hk2 (Nat.le_refl _); have HK2 := Lib.hid (HK1.out.below hb2); have HX2 := Lib.hid h2; have HL2 := Lib.hid (below_then HL1.out hb2); clear h2 hk2 hb2 HL1 HK1; refine Stop.mk ?_)
    unfold Stop
    go_wp2_with (refine wpList_loadP prH (by rfl) _ (by rfl) w1.heap.size a b (by rfl) HX2.out ?_)
    refine (HP.out _).mono ?_
    rintro e w3 ⟨rfl, hb3⟩
    have HK3 := Lib.hid (HK2.out.below hb3)
    have HL3 := Lib.hid (below_then HL2.out hb3)
    clear hb3 HL2 HK2 HX2 HI
    go_wp2_with fail
    refine (H0.out _).mono ?_
    rintro e w4 ⟨rfl, hb4⟩
    have HK4 := Lib.hid (HK3.out.below hb4)
    have HL4 := Lib.hid (below_then HL3.out hb4)
    clear hb4 HL3 HK3
    go_wp2_with (refine wpList_storeP prH (by rfl) _ _ (by rfl) w.heap.size (-1) (-1) (by rfl) (by rfl) _ HK4.out rfl ?_; intro w5 h5 hk5)
    exact bodyPost_ret (res_decH rfl rfl h5) rfl ⟨rfl, below_one_kept HL4.out hk5 (Nat.le_refl _)⟩
set_option maxHeartbeats 2000000 in
theorem cOfH (x : Int) (hx : okW x) (w : World) :
    Calls Try.prog 57 #[.int .u64 x] w fun e w' => e = .returned (.tuple #[.int .i64 (hS x), .int .i64 (hO x), .bool (decide (isH x))]) ∧ Below w.heap.size w w' := by
  have HD := Lib.hid (cDecH x hx)
  generalize hS x = a at *
  generalize hO x = b at *
  generalize decide (isH x) = q at *
  clear hx
  go_enter Try.func57, Try.ntmps57
  go_wp2_with fail
  refine (HD.out _).mono ?_
  rintro e w1 ⟨rfl, hb⟩
  have HB := Lib.hid hb
  clear hb
  go_wp2_with (refine wpList_storeP prH (by rfl) _ _ (by rfl) w1.heap.size a b (by rfl) (by rfl) _ (pr_new _ w1) rfl ?_; intro w2 h2 hk2; have HB2 := Lib.hid (below_then HB.out (below_one_kept (below_one (Below.refl w1.heap.size w1) _) hk2 (Nat.le_refl _))); obtain ⟨c0, c1⟩ := h2.cells; clear h2 hk2 HB; refine Stop.mk ?_)
  unfold Stop
  go_wp2
  go_quiet (fail)
  go_wp2
  go_ret3
  exact ⟨rfl, below_drewN HB2.out _⟩
end Go.Proofs.Ytnnfmlbgoplnaaa
