/-
  Parts of the program: word, partIn, decoded, Part, PartOf.
-/
import Derived.Test.YtnnfmlbgoplnaaaHp
import Derived.BigQuiet
set_option linter.unusedVariables false
set_option linter.unusedSimpArgs false
namespace Go.Proofs.Ytnnfmlbgoplnaaa
open Go Go.RowKit

theorem ptword_bad {s o : Int} (h : ¬ mayP s o) : 0 = partV s o ∧ 2 = partE s o := by unfold partV partE; rw [if_neg h, if_neg h]; exact ⟨rfl, rfl⟩
theorem ptword_good {s o : Int} (h : mayP s o) : wdP s o = partV s o ∧ 0 = partE s o := by unfold partV partE; rw [if_pos h, if_pos h]; exact ⟨rfl, rfl⟩
set_option maxHeartbeats 3000000 in
theorem cWordP (s o : Int) (w : World) :
    Calls Try.prog 89 #[.agg #[.int .i64 s, .int .i64 o]] w fun e w' => e = .returned (.tuple #[.int .u64 (partV s o), .int .i64 (partE s o)]) ∧ Below w.heap.size w w' := by
  have hgd := guardP
  have HB : Hid (Below w.heap.size w (w.alloc (.cells #[.int .i64 s, .int .i64 o] 119))) := Lib.hid (below_one (Below.refl _ _) _)
  by_cases hz : s = -1 ∧ o = 0
  · obtain ⟨rfl, rfl⟩ := hz
    have hm : mayP (-1) (0) := Or.inl ⟨rfl, rfl⟩
    have HX := Lib.hid (ptword_good hm)
    have heq := fun w => eqinP (a := -1) (b := 0) (c := -1) (d := 0) (q := true) (by decide) w
    have HJ : Hid (∀ w, Calls Try.prog 83 #[.int .i64 0, .int .i64 0] w fun e w' => e = .returned (.int .u64 0) ∧ w' = w) := Lib.hid (cJoined 0 0 (by omega) (by omega))
    clear hm
    go_enter Try.func89, Try.ntmps89
    go_wp2_with fail
    refine (HJ.out _).mono ?_
    rintro e w1 ⟨rfl, rfl⟩
    go_wp2
    go_ret2
    exact ⟨ret_ue HX.out.1 HX.out.2, HB.out⟩
  · have heq := fun w => eqinP (a := s) (b := o) (c := -1) (d := 0) (q := false) (decide_eq_false hz) w
    by_cases hs : 0 ≤ s ∧ s < 32
    · have HS := Lib.hid (cIsSlab s true (decide_eq_true hs))
      by_cases h1 : 1 ≤ o
      · by_cases h2 : o ≤ 63
        · have hm : mayP s o := Or.inr ⟨hs.1, hs.2, h1, h2⟩
          have hr := mayP_range hm
          have HX := Lib.hid (ptword_good hm)
          obtain ⟨s1, s2⟩ := hs
          have HJ : Hid (∀ w, Calls Try.prog 83 #[.int .i64 o, .int .i64 (s + 1)] w fun e w' => e = .returned (.int .u64 (wdP s o)) ∧ w' = w) := Lib.hid (by have h := cJoined o (s + 1) (by omega) (by omega); rw [show 64 * o + (s + 1) = wdP s o by unfold wdP; omega] at h; exact h)
          clear hm hz hr
          go_enter Try.func89, Try.ntmps89
          go_wp2_with fail
          refine (HS.out _).mono ?_
          rintro e w1 ⟨rfl, rfl⟩
          go_wp2_with fail
          refine (HJ.out _).mono ?_
          rintro e w1 ⟨rfl, rfl⟩
          go_wp2
          go_ret2
          exact ⟨ret_ue HX.out.1 HX.out.2, HB.out⟩
        · have HX := Lib.hid (ptword_bad (s := s) (o := o) (by unfold mayP; omega))
          clear hz hs
          go_enter Try.func89, Try.ntmps89
          go_wp2_with fail
          refine (HS.out _).mono ?_
          rintro e w1 ⟨rfl, rfl⟩
          go_wp2
          go_ret2
          exact ⟨ret_ue HX.out.1 HX.out.2, HB.out⟩
      · have HX := Lib.hid (ptword_bad (s := s) (o := o) (by unfold mayP; omega))
        clear hz hs
        go_enter Try.func89, Try.ntmps89
        go_wp2_with fail
        refine (HS.out _).mono ?_
        rintro e w1 ⟨rfl, rfl⟩
        go_wp2
        go_ret2
        exact ⟨ret_ue HX.out.1 HX.out.2, HB.out⟩
    · have HS := Lib.hid (cIsSlab s false (decide_eq_false hs))
      have HX := Lib.hid (ptword_bad (s := s) (o := o) (by unfold mayP; omega))
      clear hz hs
      by_cases h1 : 1 ≤ o
      · by_cases h2 : o ≤ 63
        · go_enter Try.func89, Try.ntmps89
          go_wp2_with fail
          refine (HS.out _).mono ?_
          rintro e w1 ⟨rfl, rfl⟩
          go_wp2
          go_ret2
          exact ⟨ret_ue HX.out.1 HX.out.2, HB.out⟩
        · go_enter Try.func89, Try.ntmps89
          go_wp2_with fail
          refine (HS.out _).mono ?_
          rintro e w1 ⟨rfl, rfl⟩
          go_wp2
          go_ret2
          exact ⟨ret_ue HX.out.1 HX.out.2, HB.out⟩
      · go_enter Try.func89, Try.ntmps89
        go_wp2_with fail
        refine (HS.out _).mono ?_
        rintro e w1 ⟨rfl, rfl⟩
        go_wp2
        go_ret2
        exact ⟨ret_ue HX.out.1 HX.out.2, HB.out⟩
theorem res_inP {tmps : Array Value} {K : Nat} {w : World} {a b : Int} (h2 : tmps.getD 2 undef = .pointer (some ⟨K, 0, none⟩)) (hb : PrAt 119 w K a b) :
    (results Try.f88 tmps).run Try.prog w = .ok (.agg (prA a b)) w := by
  obtain ⟨fs, hf⟩ := prP.under
  exact results_cell_row rfl tmps w K _ (prA a b) _ (.struct fs) h2 hb hf rfl prP.info
theorem res_decP {tmps : Array Value} {K : Nat} {w : World} {a b : Int} {q : Bool} (h2 : tmps.getD 6 undef = .pointer (some ⟨K, 0, none⟩)) (h3 : tmps.getD 7 undef = .bool q) (hb : PrAt 119 w K a b) :
    (results Try.f87 tmps).run Try.prog w = .ok (.tuple #[.agg (prA a b), .bool q]) w := by
  obtain ⟨c0, c1⟩ := hb.cells
  rw [Array.getD_eq_getD_getElem?] at h2 h3
  simp [results, Try.f87, h2, h3, c0, c1, go_sem]
set_option maxHeartbeats 2000000 in
theorem cInP (x : Int) (hx : okW x) (w : World) :
    Calls Try.prog 88 #[.int .u64 x] w fun e w' => e = .returned (.agg (prA (x % 64 - 1) (x / 64))) ∧ Below w.heap.size w w' := by
  have HP := Lib.hid (cParted x hx)
  obtain ⟨p, hp⟩ : ∃ p, x % 64 = p := ⟨_, rfl⟩
  obtain ⟨q, hq⟩ : ∃ q, x / 64 = q := ⟨_, rfl⟩
  obtain ⟨x1, x2⟩ := hx
  have hp2 : 0 ≤ p ∧ p < 64 := by omega
  have hq2 : 0 ≤ q ∧ q < 9223372036854775807 := by omega
  rw [hp, hq] at HP
  simp only [hp, hq]
  obtain ⟨p1, p2⟩ := hp2
  obtain ⟨q1, q2⟩ := hq2
  clear hp hq
  go_enter Try.func88, Try.ntmps88
  go_wp2_with fail
  refine (HP.out _).mono ?_
  rintro e w1 ⟨rfl, rfl⟩
  go_wp2_with (refine wpList_storeP prP (by rfl) _ _ (by rfl) w.heap.size (p - 1) (q) (by rfl) (by rfl) _ (pr_new _ w) rfl ?_; intro w2 h2 hk2)
  exact bodyPost_ret (res_inP rfl h2) rfl ⟨rfl, below_one_kept (below_one (Below.refl _ _) _) hk2 (Nat.le_refl _)⟩
set_option maxHeartbeats 3000000 in
theorem cDecP (x : Int) (hx : okW x) (w : World) :
    Calls Try.prog 87 #[.int .u64 x, fnV 88, fnV 89] w fun e w' => e = .returned (.tuple #[.agg (prA (pS x) (pM x)), .bool (decide (isP x))]) ∧ Below w.heap.size w w' := by
  have HI := Lib.hid (cInP x hx)
  have H0 : Hid (∀ w, Calls Try.prog 88 #[.int .u64 0] w fun e w' => e = .returned (.agg (prA (-1) (0))) ∧ Below w.heap.size w w') := Lib.hid (cInP 0 (by decide))
  have hP := cWordP (x % 64 - 1) (x / 64)
  by_cases h1 : isP x
  · have h1' : mayP (x % 64 - 1) (x / 64) := h1
    rw [← (ptword_good h1').1, ← (ptword_good h1').2, wdP_in] at hP
    have e1 : pS x = x % 64 - 1 := if_pos h1
    have e2 : pM x = x / 64 := if_pos h1
    rw [e1, e2, decide_eq_true h1]
    have HP := Lib.hid hP
    have hxx : (x != x) = false := by simp
    clear hP h1 h1' e1 e2 H0 hx
    generalize (x % 64 - 1) = a at *
    generalize (x / 64) = b at *
    go_enter Try.func87, Try.ntmps87
    go_wp2_with fail
    refine (HI.out _).mono ?_
    rintro e w1 ⟨rfl, hb1⟩
    have HK1 := Lib.hid ((pr_new 119 w).below hb1)
    have HL1 := Lib.hid (below_then (below_one (Below.refl _ _) _) hb1)
    clear hb1
    go_wp2_with (refine wpList_storeP prP (by rfl) _ _ (by rfl) w1.heap.size a b (by rfl) (by rfl) _ (pr_new _ w1) rfl ?_; intro w2 h2 hk2; have hb2 := below_one_kept (below_one (Below.refl w1.heap.size w1) _) hk2 (Nat.le_refl _); have HK2 := Lib.hid (HK1.out.below hb2); have HX2 := Lib.hid h2; have HL2 := Lib.hid (below_then HL1.out hb2); clear h2 hk2 hb2 HL1 HK1; refine Stop.mk ?_)
    unfold Stop
    go_wp2_with (refine wpList_loadP prP (by rfl) _ (by rfl) w1.heap.size a b (by rfl) HX2.out ?_)
    refine (HP.out _).mono ?_
    rintro e w3 ⟨rfl, hb3⟩
    have HK3 := Lib.hid (HK2.out.below hb3)
    have HX3 := Lib.hid (HX2.out.below hb3)
    have HL3 := Lib.hid (below_then HL2.out hb3)
    clear hb3 HL2 HK2 HX2
    go_wp2_with (first
      | (refine wpList_loadP prP (by rfl) _ (by rfl) w1.heap.size a b (by rfl) HX3.out ?_)
      | (refine wpList_storeP prP (by rfl) _ _ (by rfl) w.heap.size a b (by rfl) (by rfl) _ HK3.out rfl ?_; intro w4 h4 hk4))
    exact bodyPost_ret (res_decP rfl rfl h4) rfl ⟨rfl, below_one_kept HL3.out hk4 (Nat.le_refl _)⟩
  · have h1' : ¬ mayP (x % 64 - 1) (x / 64) := h1
    rw [← (ptword_bad h1').1, ← (ptword_bad h1').2] at hP
    have e1 : pS x = -1 := if_neg h1
    have e2 : pM x = 0 := if_neg h1
    rw [e1, e2, decide_eq_false h1]
    have HP := Lib.hid hP
    clear hP h1 h1' e1 e2 hx
    generalize (x % 64 - 1) = a at *
    generalize (x / 64) = b at *
    go_enter Try.func87, Try.ntmps87
    go_wp2_with fail
    refine (HI.out _).mono ?_
    rintro e w1 ⟨rfl, hb1⟩
    have HK1 := Lib.hid ((pr_new 119 w).below hb1)
    have HL1 := Lib.hid (below_then (below_one (Below.refl _ _) _) hb1)
    clear hb1
    go_wp2_with (refine wpList_storeP prP (by rfl) _ _ (by rfl) w1.heap.size a b (by rfl) (by rfl) _ (pr_new _ w1) rfl ?_; intro w2 h2 hk2; have hb2 := below_one_kept (below_one (Below.refl w1.heap.size w1) _) hk2 (Nat.le_refl _); have HK2 := Lib.hid (HK1.out.below hb2); have HX2 := Lib.hid h2; have HL2 := Lib.hid (below_then HL1.out hb2); clear h2 hk2 hb2 HL1 HK1; refine Stop.mk ?_)
    unfold Stop
    go_wp2_with (refine wpList_loadP prP (by rfl) _ (by rfl) w1.heap.size a b (by rfl) HX2.out ?_)
    refine (HP.out _).mono ?_
    rintro e w3 ⟨rfl, hb3⟩
    have HK3 := Lib.hid (HK2.out.below hb3)
    have HL3 := Lib.hid (below_then HL2.out hb3)
    clear hb3 HL2 HK2 HX2 HI
    go_wp2_with fail
    refine (H0.out _).mono ?_
    rintro e w4 ⟨rfl, hb4⟩
    have HK4 := Lib.hid (HK3.out.below hb4)
    have HL4 := Lib.hid (below_then HL3.out hb4)
    clear hb4 HL3 HK3
    go_wp2_with (refine wpList_storeP prP (by rfl) _ _ (by rfl) w.heap.size (-1) (0) (by rfl) (by rfl) _ HK4.out rfl ?_; intro w5 h5 hk5)
    exact bodyPost_ret (res_decP rfl rfl h5) rfl ⟨rfl, below_one_kept HL4.out hk5 (Nat.le_refl _)⟩
set_option maxHeartbeats 2000000 in
theorem cOfP (x : Int) (hx : okW x) (w : World) :
    Calls Try.prog 73 #[.int .u64 x] w fun e w' => e = .returned (.tuple #[.int .i64 (pS x), .int .i64 (pM x), .bool (decide (isP x))]) ∧ Below w.heap.size w w' := by
  have HD := Lib.hid (cDecP x hx)
  generalize pS x = a at *
  generalize pM x = b at *
  generalize decide (isP x) = q at *
  clear hx
  go_enter Try.func73, Try.ntmps73
  go_wp2_with fail
  refine (HD.out _).mono ?_
  rintro e w1 ⟨rfl, hb⟩
  have HB := Lib.hid hb
  clear hb
  go_wp2_with (refine wpList_storeP prP (by rfl) _ _ (by rfl) w1.heap.size a b (by rfl) (by rfl) _ (pr_new _ w1) rfl ?_; intro w2 h2 hk2; have HB2 := Lib.hid (below_then HB.out (below_one_kept (below_one (Below.refl w1.heap.size w1) _) hk2 (Nat.le_refl _))); obtain ⟨c0, c1⟩ := h2.cells; clear h2 hk2 HB; refine Stop.mk ?_)
  unfold Stop
  go_wp2
  go_quiet (fail)
  go_wp2
  go_ret3
  exact ⟨rfl, below_drewN HB2.out _⟩
end Go.Proofs.Ytnnfmlbgoplnaaa
