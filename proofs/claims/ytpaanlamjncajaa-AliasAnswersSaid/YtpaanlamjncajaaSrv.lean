/-
  Serves of the program.
-/
import Derived.Test.YtpaanlamjncajaaChk
set_option linter.unusedVariables false
set_option linter.unusedSimpArgs false
namespace Go.Proofs.Ytpaanlamjncajaa
open Go Go.RowKit

/-- two caches as arguments -/
abbrev argO (c : Sp) : Obj := .cells c.arr 23
theorem arg_low (w : World) (a b : Sp) : SpAt ((w.alloc (argO a)).alloc (argO b)) w.heap.size a := heap_low2 _ _ _
theorem arg_high (w : World) (a b : Sp) : SpAt ((w.alloc (argO a)).alloc (argO b)) (w.heap.size + 1) b := heap_new2 _ _ _
theorem arg_two (w : World) (a b : Sp) : Below w.heap.size w ((w.alloc (argO a)).alloc (argO b)) := below_one (below_one (Below.refl _ _) _) _
theorem below_two {w wr w' : World} (hb : Below w.heap.size w wr) (h : Below wr.heap.size wr w') : Below w.heap.size w w' := below_then hb h
/-- what is asked of two caches ahead of a walk -/
theorem srv_no1 {a b : Sp} (h : a.ok = false) : srv a b = false := by simp [srv, h]
theorem srv_no2 {a b : Sp} (h : b.ok = false) : srv a b = false := by simp [srv, h]
theorem srv_no3 {a b : Sp} (h : a.step ≠ b.step) : srv a b = false := by simp [srv, h]
theorem srv_no4 {a b : Sp} (h : ¬ a.flags = 0) : srv a b = false := by simp [srv, h]
theorem srv_no5 {a b : Sp} (h : ¬ b.flags = 0) : srv a b = false := by simp [srv, h]
theorem srv_no6 {a b : Sp} (h : ¬ a.align % b.align = 0) : srv a b = false := by simp [srv, h]
theorem ok_align {c : Sp} (h : c.ok = true) : 8 ≤ c.align ∧ c.align ≤ 64 := by
  obtain ⟨_, h2, _⟩ := Sp.ok_iff.1 h
  omega
set_option maxHeartbeats 4000000 in
theorem cServes (a b : Sp) (w : World) :
    Calls Try.prog 13 #[a.agg, b.agg] w fun e w' => e = .returned (.bool (srv a b)) ∧ Below w.heap.size w w' := by
  have HXa := Lib.hid (arg_low w a b)
  have HXb := Lib.hid (arg_high w a b)
  have HA := fun w => cStep a w
  have HB := fun w => cStep b w
  cases ho : a.ok with
  | false =>
    rw [srv_no1 ho]
    rw [step_no ho] at HA
    have HA := Lib.hid HA
    clear HB
    go_enter Try.func13, Try.ntmps13
    go_wp2_with fail
    refine (HA.out _).mono ?_
    rintro e w1 ⟨rfl, hb1⟩
    have HW := Lib.hid (below_then (arg_two w a b) hb1)
    clear hb1
    go_wp2
    go_ret
    exact ⟨rfl, HW.out⟩
  | true =>
    have hs := step_in ho
    have hp1 : 1 ≤ a.step := hs.2.2.2.2
    have hp2 : a.step ≤ 1024 := hs.2.2.2.1
    clear hs
    by_cases hst : a.step = b.step
    · have hob : b.ok = true := by
        cases h : b.ok with
        | true => rfl
        | false =>
          rw [step_no h] at hst
          omega
      obtain ⟨ga1, ga2⟩ := ok_align ho
      obtain ⟨gb1, gb2⟩ := ok_align hob
      by_cases hfa : a.flags = 0
      · by_cases hfb : b.flags = 0
        · cases hsr : decide (a.align % b.align = 0) with
          | true =>
            have hr := of_decide_eq_true hsr
            rw [srv_iff.2 ⟨ho, hob, hst, hfa, hfb, hr⟩]
            rw [← hst] at HB
            generalize a.step = p at *
            have HA := Lib.hid HA
            have HB := Lib.hid HB
            have HFA := Lib.hid hfa
            have HFB := Lib.hid hfb
            clear hsr hst hfa hfb
            go_enter Try.func13, Try.ntmps13
            go_wp2_with fail
            refine (HA.out _).mono ?_
            rintro e w1 ⟨rfl, hb1⟩
            have HW := Lib.hid (below_then (arg_two w a b) hb1)
            have HXa1 := Lib.hid (HXa.out.below hb1)
            obtain ⟨d0, d1, d2⟩ := (HXb.out.below hb1).cells
            have HXb1 := Lib.hid (HXb.out.below hb1)
            clear hb1
            go_wp2_with fail
            refine (HB.out _).mono ?_
            rintro e w2 ⟨rfl, hb2⟩
            have HW2 := Lib.hid (below_then HW.out hb2)
            obtain ⟨c0, c1, c2⟩ := (HXa1.out.below hb2).cells
            obtain ⟨d0, d1, d2⟩ := (HXb1.out.below hb2).cells
            clear hb2
            have hfa := HFA.out
            have hfb := HFB.out
            go_wp2
            go_ret
            exact ⟨rfl, HW2.out⟩
          | false =>
            have hr : ¬ a.align % b.align = 0 := of_decide_eq_false hsr
            rw [srv_no6 hr]
            rw [← hst] at HB
            generalize a.step = p at *
            have HA := Lib.hid HA
            have HB := Lib.hid HB
            have HFA := Lib.hid hfa
            have HFB := Lib.hid hfb
            clear hsr hst hfa hfb
            go_enter Try.func13, Try.ntmps13
            go_wp2_with fail
            refine (HA.out _).mono ?_
            rintro e w1 ⟨rfl, hb1⟩
            have HW := Lib.hid (below_then (arg_two w a b) hb1)
            have HXa1 := Lib.hid (HXa.out.below hb1)
            obtain ⟨d0, d1, d2⟩ := (HXb.out.below hb1).cells
            have HXb1 := Lib.hid (HXb.out.below hb1)
            clear hb1
            go_wp2_with fail
            refine (HB.out _).mono ?_
            rintro e w2 ⟨rfl, hb2⟩
            have HW2 := Lib.hid (below_then HW.out hb2)
            obtain ⟨c0, c1, c2⟩ := (HXa1.out.below hb2).cells
            obtain ⟨d0, d1, d2⟩ := (HXb1.out.below hb2).cells
            clear hb2
            have hfa := HFA.out
            have hfb := HFB.out
            go_wp2
            go_ret
            exact ⟨ret_bool (by simpa using hr), HW2.out⟩
        · rw [srv_no5 hfb]
          rw [← hst] at HB
          generalize a.step = p at *
          have HA := Lib.hid HA
          have HB := Lib.hid HB
          have HFA := Lib.hid hfa
          clear hst hfa
          go_enter Try.func13, Try.ntmps13
          go_wp2_with fail
          refine (HA.out _).mono ?_
          rintro e w1 ⟨rfl, hb1⟩
          have HW := Lib.hid (below_then (arg_two w a b) hb1)
          have HXa1 := Lib.hid (HXa.out.below hb1)
          obtain ⟨d0, d1, d2⟩ := (HXb.out.below hb1).cells
          have HXb1 := Lib.hid (HXb.out.below hb1)
          clear hb1
          go_wp2_with fail
          refine (HB.out _).mono ?_
          rintro e w2 ⟨rfl, hb2⟩
          have HW2 := Lib.hid (below_then HW.out hb2)
          obtain ⟨c0, c1, c2⟩ := (HXa1.out.below hb2).cells
          obtain ⟨d0, d1, d2⟩ := (HXb1.out.below hb2).cells
          clear hb2
          have hfa := HFA.out
          go_wp2
          go_ret
          exact ⟨rfl, HW2.out⟩
      · rw [srv_no4 hfa]
        rw [← hst] at HB
        generalize a.step = p at *
        have HA := Lib.hid HA
        have HB := Lib.hid HB
        clear hst
        go_enter Try.func13, Try.ntmps13
        go_wp2_with fail
        refine (HA.out _).mono ?_
        rintro e w1 ⟨rfl, hb1⟩
        have HW := Lib.hid (below_then (arg_two w a b) hb1)
        have HXa1 := Lib.hid (HXa.out.below hb1)
        obtain ⟨d0, d1, d2⟩ := (HXb.out.below hb1).cells
        clear hb1
        go_wp2_with fail
        refine (HB.out _).mono ?_
        rintro e w2 ⟨rfl, hb2⟩
        have HW2 := Lib.hid (below_then HW.out hb2)
        obtain ⟨c0, c1, c2⟩ := (HXa1.out.below hb2).cells
        clear hb2
        go_wp2
        go_ret
        exact ⟨rfl, HW2.out⟩
    · rw [srv_no3 hst]
      generalize a.step = p at *
      generalize b.step = q at *
      have HA := Lib.hid HA
      have HB := Lib.hid HB
      go_enter Try.func13, Try.ntmps13
      go_wp2_with fail
      refine (HA.out _).mono ?_
      rintro e w1 ⟨rfl, hb1⟩
      have HW := Lib.hid (below_then (arg_two w a b) hb1)
      obtain ⟨d0, d1, d2⟩ := (HXb.out.below hb1).cells
      clear hb1
      go_wp2_with fail
      refine (HB.out _).mono ?_
      rintro e w2 ⟨rfl, hb2⟩
      have HW2 := Lib.hid (below_then HW.out hb2)
      clear hb2
      go_wp2
      go_ret
      exact ⟨rfl, HW2.out⟩
end Go.Proofs.Ytpaanlamjncajaa
