/-
  The law CountBack, walked.
-/
import Derived.Test.YtljdlmkaolfedaaWorks
set_option linter.unusedVariables false
set_option linter.unusedSimpArgs false
namespace Go.Proofs.Ytljdlmkaolfedaa
open Go Go.RowKit

/-- what is read of a word, written again -/
theorem heads_back (y : Int) (hy : okW y) : ∃ s o q V E, (∀ w, Calls Try.prog 17 #[.int .u64 y] w fun e w' => e = .returned (.tuple #[.int .i64 s, .int .i64 o, .bool q]) ∧ Below w.heap.size w w') ∧
    (∀ w, Calls Try.prog 13 #[.int .i64 s, .int .i64 o] w fun e w' => e = .returned (.tuple #[.int .u64 V, .int .i64 E]) ∧ Below w.heap.size w w') ∧ ((q = true ∧ (V == y) = true ∧ (E == 0) = true) ∨ q = false) := by
  refine ⟨hS y, hO y, _, _, _, cOfH y hy, cEncH _ _, ?_⟩
  by_cases h : isH y
  · obtain ⟨e1, e2⟩ := headOf_back h
    exact Or.inl ⟨decide_eq_true h, by rw [e1]; simp, by rw [e2]; rfl⟩
  · exact Or.inr (decide_eq_false h)
theorem parts_back (y : Int) (hy : okW y) : ∃ s o q V E, (∀ w, Calls Try.prog 19 #[.int .u64 y] w fun e w' => e = .returned (.tuple #[.int .i64 s, .int .i64 o, .bool q]) ∧ Below w.heap.size w w') ∧
    (∀ w, Calls Try.prog 15 #[.int .i64 s, .int .i64 o] w fun e w' => e = .returned (.tuple #[.int .u64 V, .int .i64 E]) ∧ Below w.heap.size w w') ∧ ((q = true ∧ (V == y) = true ∧ (E == 0) = true) ∨ q = false) := by
  refine ⟨pS y, pM y, _, _, _, cOfP y hy, cEncP _ _, ?_⟩
  by_cases h : isP y
  · obtain ⟨e1, e2⟩ := partOf_back h
    exact Or.inl ⟨decide_eq_true h, by rw [e1]; simp, by rw [e2]; rfl⟩
  · exact Or.inr (decide_eq_false h)
set_option maxHeartbeats 8000000 in
set_option maxRecDepth 100000 in
theorem walkBack (a b : Ct) (x : Int) (hx : okW x) (W : World) : Calls Try.prog 5 #[a.agg, b.agg, .int .u64 x] W fun e W' => e = .returned (.bool true) ∧ Below W.heap.size W W' := by
  obtain ⟨x1, x2⟩ := hx
  obtain ⟨M, hM⟩ : ∃ M, x % 4200 = M := ⟨_, rfl⟩
  have hM1 : 0 ≤ M ∧ M < 4200 := by omega
  obtain ⟨s, o, q, V, E, hc1, hc2, hq⟩ := heads_back M ⟨hM1.1, by omega⟩
  obtain ⟨p, m, r, U, F, hc3, hc4, hr⟩ := parts_back M ⟨hM1.1, by omega⟩
  have H1 := Lib.hid hc1
  have H2 := Lib.hid hc2
  have H3 := Lib.hid hc3
  have H4 := Lib.hid hc4
  have HQ := Lib.hid hq
  have HR := Lib.hid hr
  have hgd := guardK
  have HA : Hid (CtAt ((W.alloc (.cells a.arr 23)).alloc (.cells b.arr 23)) W.heap.size a) := Lib.hid (heap_low2 _ _ _)
  have HB : Hid (CtAt ((W.alloc (.cells a.arr 23)).alloc (.cells b.arr 23)) (W.heap.size + 1) b) := Lib.hid (heap_new2 _ _ _)
  have HW : Hid (Below W.heap.size W ((W.alloc (.cells a.arr 23)).alloc (.cells b.arr 23))) := Lib.hid (below_one (below_one (Below.refl _ _) _) _)
  clear hc1 hc2 hc3 hc4 hq hr hM1
  by_cases ma : mayC a
  · have pa := cPack a
    rw [← (pack_good ma).1, ← (pack_good ma).2] at pa
    have ra := wd_range ma
    have ca := cCounts (wdC a) ⟨ra.1, by omega⟩
    rw [cnt_wd ma, decide_eq_true (wd_is ma)] at ca
    have haa := fun w' => eqIs (c := a) (d := a) (decide_eq_true rfl) w'
    by_cases mb : mayC b
    · have pb := cPack b
      rw [← (pack_good mb).1, ← (pack_good mb).2] at pb
      obtain ⟨z, hz⟩ : ∃ z, decide (a = b) = z := ⟨_, rfl⟩
      have hab := fun w' => eqIs (c := a) (d := b) hz w'
      have hvv : (wdC a == wdC b) = z := by
        rw [← hz]
        by_cases e : a = b
        · rw [e]; simp
        · have : wdC a ≠ wdC b := fun e2 => e (wd_inj ma mb e2)
          rw [decide_eq_false e]
          simpa using this
      have hzz : (z != z) = false := by simp
      generalize wdC a = P at *
      generalize wdC b = Q at *
      have PA := Lib.hid pa
      have PB := Lib.hid pb
      have CA := Lib.hid ca
      clear pa pb ca ra ma mb hz
      go_enter Try.func5, Try.ntmps5
      go_wp2_with (refine wpList_loadC (by rfl) _ (by rfl) W.heap.size a (by rfl) HA.out ?_)
      refine (PA.out _).mono ?_
      rintro e w1 ⟨rfl, hb1⟩
      have HA1 := Lib.hid (HA.out.below hb1)
      have HB1 := Lib.hid (HB.out.below hb1)
      have HW1 := Lib.hid (below_then HW.out hb1)
      clear hb1 HA HB HW
      go_wp2_with (refine wpList_loadC (by rfl) _ (by rfl) (W.heap.size + 1) b (by rfl) HB1.out ?_)
      refine (PB.out _).mono ?_
      rintro e w2 ⟨rfl, hb2⟩
      have HA2 := Lib.hid (HA1.out.below hb2)
      have HB2 := Lib.hid (HB1.out.below hb2)
      have HW2 := Lib.hid (below_then HW1.out hb2)
      clear hb2 HA1 HB1 HW1
      obtain ⟨c0, c1, c2, c3⟩ := HA2.out.cells
      obtain ⟨d0, d1, d2, d3⟩ := HB2.out.cells
      clear HB2
      go_wp2_with fail
      refine (CA.out _).mono ?_
      rintro e w3 ⟨rfl, hb3⟩
      have HA3 := Lib.hid (HA2.out.below hb3)
      have HW3 := Lib.hid (below_then HW2.out hb3)
      clear hb3 HA2 HW2 c0 c1 c2 c3 d0 d1 d2 d3
      go_wp2_with (refine wpList_storeC (by rfl) _ _ (by rfl) w3.heap.size a (by rfl) (by rfl) _ (zero_new w3) rfl ?_; intro w4 h4 hk4; have hb4 := below_one_kept (below_one (Below.refl w3.heap.size w3) _) hk4 (Nat.le_refl _); obtain ⟨d0, d1, d2, d3⟩ := h4.cells; obtain ⟨c0, c1, c2, c3⟩ := (HA3.out.below hb4).cells; have HW4 := Lib.hid (below_then HW3.out hb4); clear h4 hk4 hb4 HA3 HW3; refine Stop.mk ?_)
      unfold Stop
      go_wp2_with fail
      refine (H1.out _).mono ?_
      rintro e w5 ⟨rfl, hb5⟩
      have HW5 := Lib.hid (below_then HW4.out hb5)
      clear hb5 HW4 H1
      go_wp2_with fail
      refine (H3.out _).mono ?_
      rintro e w6 ⟨rfl, hb6⟩
      have HW6 := Lib.hid (below_then HW5.out hb6)
      clear hb6 HW5 H3
      go_wp2_with fail
      refine (H2.out _).mono ?_
      rintro e w7 ⟨rfl, hb7⟩
      have HW7 := Lib.hid (below_then HW6.out hb7)
      clear hb7 HW6 H2
      go_wp2_with fail
      refine (H4.out _).mono ?_
      rintro e w8 ⟨rfl, hb8⟩
      have HW8 := Lib.hid (below_then HW7.out hb8)
      clear hb8 HW7 H4
      rcases HQ.out with ⟨rfl, q1, q2⟩ | rfl <;> rcases HR.out with ⟨rfl, r1, r2⟩ | rfl <;> clear HQ HR <;>
      · go_wp2_with fail
        refine (works _).mono ?_
        rintro e w9 ⟨rfl, hb9⟩
        have HW9 := Lib.hid (below_then HW8.out hb9)
        clear hb9 HW8
        go_wp2
        go_ret
        exact ⟨rfl, HW9.out⟩
    · have pb := cPack b
      rw [← (pack_bad mb).1, ← (pack_bad mb).2] at pb
      generalize wdC a = P at *
      have PA := Lib.hid pa
      have PB := Lib.hid pb
      have CA := Lib.hid ca
      clear pa pb ca ra ma mb
      go_enter Try.func5, Try.ntmps5
      go_wp2_with (refine wpList_loadC (by rfl) _ (by rfl) W.heap.size a (by rfl) HA.out ?_)
      refine (PA.out _).mono ?_
      rintro e w1 ⟨rfl, hb1⟩
      have HA1 := Lib.hid (HA.out.below hb1)
      have HB1 := Lib.hid (HB.out.below hb1)
      have HW1 := Lib.hid (below_then HW.out hb1)
      clear hb1 HA HB HW
      go_wp2_with (refine wpList_loadC (by rfl) _ (by rfl) (W.heap.size + 1) b (by rfl) HB1.out ?_)
      refine (PB.out _).mono ?_
      rintro e w2 ⟨rfl, hb2⟩
      have HA2 := Lib.hid (HA1.out.below hb2)
      have HB2 := Lib.hid (HB1.out.below hb2)
      have HW2 := Lib.hid (below_then HW1.out hb2)
      clear hb2 HA1 HB1 HW1
      go_wp2_with fail
      refine (CA.out _).mono ?_
      rintro e w3 ⟨rfl, hb3⟩
      have HA3 := Lib.hid (HA2.out.below hb3)
      have HW3 := Lib.hid (below_then HW2.out hb3)
      clear hb3 HA2 HB2 HW2
      go_wp2_with (refine wpList_storeC (by rfl) _ _ (by rfl) w3.heap.size a (by rfl) (by rfl) _ (zero_new w3) rfl ?_; intro w4 h4 hk4; have hb4 := below_one_kept (below_one (Below.refl w3.heap.size w3) _) hk4 (Nat.le_refl _); obtain ⟨d0, d1, d2, d3⟩ := h4.cells; obtain ⟨c0, c1, c2, c3⟩ := (HA3.out.below hb4).cells; have HW4 := Lib.hid (below_then HW3.out hb4); clear h4 hk4 hb4 HA3 HW3; refine Stop.mk ?_)
      unfold Stop
      go_wp2_with fail
      refine (H1.out _).mono ?_
      rintro e w5 ⟨rfl, hb5⟩
      have HW5 := Lib.hid (below_then HW4.out hb5)
      clear hb5 HW4 H1
      go_wp2_with fail
      refine (H3.out _).mono ?_
      rintro e w6 ⟨rfl, hb6⟩
      have HW6 := Lib.hid (below_then HW5.out hb6)
      clear hb6 HW5 H3
      go_wp2_with fail
      refine (H2.out _).mono ?_
      rintro e w7 ⟨rfl, hb7⟩
      have HW7 := Lib.hid (below_then HW6.out hb7)
      clear hb7 HW6 H2
      go_wp2_with fail
      refine (H4.out _).mono ?_
      rintro e w8 ⟨rfl, hb8⟩
      have HW8 := Lib.hid (below_then HW7.out hb8)
      clear hb8 HW7 H4
      rcases HQ.out with ⟨rfl, q1, q2⟩ | rfl <;> rcases HR.out with ⟨rfl, r1, r2⟩ | rfl <;> clear HQ HR <;>
      · go_wp2_with fail
        refine (works _).mono ?_
        rintro e w9 ⟨rfl, hb9⟩
        have HW9 := Lib.hid (below_then HW8.out hb9)
        clear hb9 HW8
        go_wp2
        go_ret
        exact ⟨rfl, HW9.out⟩
  · have pa := cPack a
    rw [← (pack_bad ma).1, ← (pack_bad ma).2] at pa
    have pb := cPack b
    generalize packV b = Q at *
    generalize packE b = G at *
    have ca := cCounts 0 (by decide)
    generalize cntV 0 = Z at *
    generalize decide (isC 0) = z at *
    have PA := Lib.hid pa
    have PB := Lib.hid pb
    have CA := Lib.hid ca
    clear pa pb ca ma
    go_enter Try.func5, Try.ntmps5
    go_wp2_with (refine wpList_loadC (by rfl) _ (by rfl) W.heap.size a (by rfl) HA.out ?_)
    refine (PA.out _).mono ?_
    rintro e w1 ⟨rfl, hb1⟩
    have HA1 := Lib.hid (HA.out.below hb1)
    have HB1 := Lib.hid (HB.out.below hb1)
    have HW1 := Lib.hid (below_then HW.out hb1)
    clear hb1 HA HB HW
    go_wp2_with (refine wpList_loadC (by rfl) _ (by rfl) (W.heap.size + 1) b (by rfl) HB1.out ?_)
    refine (PB.out _).mono ?_
    rintro e w2 ⟨rfl, hb2⟩
    have HA2 := Lib.hid (HA1.out.below hb2)
    have HB2 := Lib.hid (HB1.out.below hb2)
    have HW2 := Lib.hid (below_then HW1.out hb2)
    clear hb2 HA1 HB1 HW1
    go_wp2_with fail
    refine (CA.out _).mono ?_
    rintro e w3 ⟨rfl, hb3⟩
    have HW3 := Lib.hid (below_then HW2.out hb3)
    clear hb3 HA2 HB2 HW2
    go_wp2_with (refine wpList_storeC (by rfl) _ _ (by rfl) w3.heap.size Z (by rfl) (by rfl) _ (zero_new w3) rfl ?_; intro w4 h4 hk4; have hb4 := below_one_kept (below_one (Below.refl w3.heap.size w3) _) hk4 (Nat.le_refl _); have HW4 := Lib.hid (below_then HW3.out hb4); clear h4 hk4 hb4 HW3; refine Stop.mk ?_)
    unfold Stop
    go_wp2_with fail
    refine (H1.out _).mono ?_
    rintro e w5 ⟨rfl, hb5⟩
    have HW5 := Lib.hid (below_then HW4.out hb5)
    clear hb5 HW4 H1
    go_wp2_with fail
    refine (H3.out _).mono ?_
    rintro e w6 ⟨rfl, hb6⟩
    have HW6 := Lib.hid (below_then HW5.out hb6)
    clear hb6 HW5 H3
    go_wp2_with fail
    refine (H2.out _).mono ?_
    rintro e w7 ⟨rfl, hb7⟩
    have HW7 := Lib.hid (below_then HW6.out hb7)
    clear hb7 HW6 H2
    go_wp2_with fail
    refine (H4.out _).mono ?_
    rintro e w8 ⟨rfl, hb8⟩
    have HW8 := Lib.hid (below_then HW7.out hb8)
    clear hb8 HW7 H4
    rcases HQ.out with ⟨rfl, q1, q2⟩ | rfl <;> rcases HR.out with ⟨rfl, r1, r2⟩ | rfl <;> clear HQ HR <;>
    · go_wp2_with fail
      refine (works _).mono ?_
      rintro e w9 ⟨rfl, hb9⟩
      have HW9 := Lib.hid (below_then HW8.out hb9)
      clear hb9 HW8
      go_wp2
      go_ret
      exact ⟨rfl, HW9.out⟩
end Go.Proofs.Ytljdlmkaolfedaa
