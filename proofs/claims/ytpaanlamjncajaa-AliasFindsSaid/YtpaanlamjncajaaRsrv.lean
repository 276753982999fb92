/-
  Serves of the document.
-/
import Derived.Test.YtpaanlamjncajaaRef
import Derived.Deep.RegionWith
import Derived.Deep.Cut
import Derived.Deep.CutRange
set_option linter.unusedVariables false
set_option linter.unusedSimpArgs false
namespace Go.Proofs.Ytpaanlamjncajaa
open Go Go.RowKit

/-- two caches at these blocks, in a world that lies above another one -/
structure Two (W : World) (i j : Nat) (a b : Sp) (w : World) : Prop where
  at1 : SpAt w i a
  at2 : SpAt w j b
  low : Below W.heap.size W w
section
variable {W w w' : World} {i j : Nat} {a b : Sp}
theorem Two.next (h : Two W i j a b w) (hb : Below w.heap.size w w') : Two W i j a b w' := ⟨h.at1.below hb, h.at2.below hb, below_then h.low hb⟩
theorem Two.drew (h : Two W i j a b w) : Two W i j a b w.drew := ⟨h.at1, h.at2, ⟨h.low.os, h.low.tape, h.low.output, h.low.size, h.low.block⟩⟩
theorem two_new (w : World) (a b : Sp) : Two w w.heap.size (w.heap.size + 1) a b ((w.alloc (argO a)).alloc (argO b)) := ⟨arg_low _ _ _, arg_high _ _ _, arg_two _ _ _⟩
end
set_option maxHeartbeats 8000000 in
theorem rServes (a b : Sp) (w : World) :
    Calls Try.prog 14 #[a.agg, b.agg] w fun e w' => e = .returned (.bool (srv a b)) ∧ Below w.heap.size w w' := by
  have HX := Lib.hid (two_new w a b)
  have HA := fun w => rCheck a w
  have HB := fun w => rCheck b w
  cases ho : a.ok with
  | false =>
    rw [srv_no1 ho]
    rw [chk_no ho] at HA
    have HA := Lib.hid HA
    clear HB
    go_enter Try.func14, Try.ntmps14
    go_wp2_with fail
    refine (HA.out _).mono ?_
    rintro e w1 ⟨rfl, hb1⟩
    have HW := Lib.hid (HX.out.next hb1)
    clear hb1
    go_wp2
    go_ret
    exact ⟨rfl, HW.out.low⟩
  | true =>
    rw [chk_yes ho] at HA
    have HA := Lib.hid HA
    cases hob : b.ok with
    | false =>
      rw [srv_no2 hob]
      rw [chk_no hob] at HB
      have HB := Lib.hid HB
      go_enter Try.func14, Try.ntmps14
      go_wp2_with fail
      refine (HA.out _).mono ?_
      rintro e w1 ⟨rfl, hb1⟩
      have HX1 := Lib.hid (HX.out.next hb1)
      obtain ⟨d0, d1, d2⟩ := HX1.out.at2.cells
      clear hb1 HX
      go_wp2_with fail
      refine (HB.out _).mono ?_
      rintro e w2 ⟨rfl, hb2⟩
      have HX2 := Lib.hid (HX1.out.next hb2)
      clear hb2
      go_wp2
      go_ret
      exact ⟨rfl, HX2.out.low⟩
    | true =>
      rw [chk_yes hob] at HB
      have HB := Lib.hid HB
      obtain ⟨ga1, ga2⟩ := ok_align ho
      obtain ⟨gb1, gb2⟩ := ok_align hob
      by_cases hfa : a.flags = 0
      · by_cases hfb : b.flags = 0
        · have HFA := Lib.hid hfa
          have HFB := Lib.hid hfb
          obtain ⟨q, hq⟩ : ∃ q, decide (a.step = b.step) = q := ⟨_, rfl⟩
          obtain ⟨r, hr⟩ : ∃ r, decide (a.align % b.align = 0) = r := ⟨_, rfl⟩
          have hs : srv a b = (q && r) := by
            rw [← hq, ← hr]
            simp [srv, ho, hob, hfa, hfb]
          rw [hs]
          have HS := Lib.hid (And.intro hq hr)
          clear hfa hfb hq hr hs
          go_enter Try.func14, Try.ntmps14
          go_wp2_with fail
          refine (HA.out _).mono ?_
          rintro e w1 ⟨rfl, hb1⟩
          have HX1 := Lib.hid (HX.out.next hb1)
          obtain ⟨d0, d1, d2⟩ := HX1.out.at2.cells
          clear hb1 HX d0 d1 d2
          obtain ⟨d0, d1, d2⟩ := HX1.out.at2.cells
          go_wp2_with fail
          refine (HB.out _).mono ?_
          rintro e w2 ⟨rfl, hb2⟩
          have HX2 := Lib.hid (HX1.out.next hb2)
          clear hb2 HX1 d0 d1 d2 HA HB
          obtain ⟨c0, c1, c2⟩ := HX2.out.at1.cells
          obtain ⟨d0, d1, d2⟩ := HX2.out.at2.cells
          have hfa := HFA.out
          have hfb := HFB.out
          go_upto_region 3 with fail
          clear hfa hfb
          obtain ⟨hq, hr⟩ := HS.out
          clear HFA HFB HS
          cases q with
          | false =>
            have hst := of_decide_eq_false hq
            have hst2 : (a.step == b.step) = false := by simpa using hst
            clear hr hst
            first
            | (go_region_with (go_at_call 12; refine (rStep _ _).mono ?_; rintro e w3 ⟨rfl, hb3⟩; first
              | (have HX4 := Lib.hid (HX3.out.next hb3); clear hb3)
              | (have HX3 := Lib.hid (HX2.out.drew.next hb3); clear hb3; obtain ⟨c0, c1, c2⟩ := HX3.out.at1.cells; obtain ⟨d0, d1, d2⟩ := HX3.out.at2.cells)))
            | fail
            all_goals
              go_wp2
              go_ret
              exact ⟨rfl, HX4.out.low⟩
          | true =>
            have hst := of_decide_eq_true hq
            have hst2 : (a.step == b.step) = true := by simpa using hst
            clear hq hst
            have hrr : (a.align % b.align == 0) = r := by rw [← hr]; rfl
            clear hr
            go_region_with (go_at_call 12; refine (rStep _ _).mono ?_; rintro e w3 ⟨rfl, hb3⟩; first
              | (have HX4 := Lib.hid (HX3.out.next hb3); clear hb3; obtain ⟨c0, c1, c2⟩ := HX4.out.at1.cells; obtain ⟨d0, d1, d2⟩ := HX4.out.at2.cells)
              | (have HX3 := Lib.hid (HX2.out.drew.next hb3); clear hb3; obtain ⟨c0, c1, c2⟩ := HX3.out.at1.cells; obtain ⟨d0, d1, d2⟩ := HX3.out.at2.cells))
            all_goals
              go_wp2
              go_ret
              exact ⟨rfl, HX4.out.low⟩
        · have HFA := Lib.hid hfa
          have HFB := Lib.hid hfb
          rw [srv_no5 hfb]
          clear hfa hfb
          go_enter Try.func14, Try.ntmps14
          go_wp2_with fail
          refine (HA.out _).mono ?_
          rintro e w1 ⟨rfl, hb1⟩
          have HX1 := Lib.hid (HX.out.next hb1)
          obtain ⟨d0, d1, d2⟩ := HX1.out.at2.cells
          clear hb1 HX
          go_wp2_with fail
          refine (HB.out _).mono ?_
          rintro e w2 ⟨rfl, hb2⟩
          have HX2 := Lib.hid (HX1.out.next hb2)
          clear hb2 d0 d1 d2
          obtain ⟨c0, c1, c2⟩ := HX2.out.at1.cells
          obtain ⟨d0, d1, d2⟩ := HX2.out.at2.cells
          have hfa := HFA.out
          have hfb := HFB.out
          go_wp2
          go_ret
          exact ⟨rfl, HX2.out.low⟩
      · rw [srv_no4 hfa]
        go_enter Try.func14, Try.ntmps14
        go_wp2_with fail
        refine (HA.out _).mono ?_
        rintro e w1 ⟨rfl, hb1⟩
        have HX1 := Lib.hid (HX.out.next hb1)
        obtain ⟨d0, d1, d2⟩ := HX1.out.at2.cells
        clear hb1 HX
        go_wp2_with fail
        refine (HB.out _).mono ?_
        rintro e w2 ⟨rfl, hb2⟩
        have HX2 := Lib.hid (HX1.out.next hb2)
        clear hb2 d0 d1 d2
        obtain ⟨c0, c1, c2⟩ := HX2.out.at1.cells
        go_wp2
        go_ret
        exact ⟨rfl, HX2.out.low⟩
end Go.Proofs.Ytpaanlamjncajaa
