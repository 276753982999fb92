/-
  The chapter's examples.
-/
import Derived.Test.YtljdlmkaolfedaaRh
import Derived.Test.YtljdlmkaolfedaaCo
set_option linter.unusedVariables false
set_option linter.unusedSimpArgs false
namespace Go.Proofs.Ytljdlmkaolfedaa
open Go Go.RowKit

theorem pack_known : packV ⟨3, 10, true, true⟩ = 199171 ∧ packE ⟨3, 10, true, true⟩ = 0 := by decide
theorem head_known : headV 0 0 = 65 ∧ headE 0 0 = 0 ∧ headV 31 (-1) = 2048 ∧ headE 31 (-1) = 0 ∧ headE (-1) 0 = 2 := by decide
theorem part_known : partV 31 63 = 4064 ∧ partE 31 63 = 0 ∧ partE 0 0 = 2 := by decide
theorem of_known : decide (isC 131072) = false ∧ (hS 64 = 0 ∧ hO 64 = -1 ∧ decide (isH 64) = true) ∧ decide (isH 1) = false ∧ decide (isP 1) = false := by decide
set_option maxHeartbeats 4000000 in
theorem works (W : World) : Calls Try.prog 12 #[] W fun e W' => e = .returned (.bool true) ∧ Below W.heap.size W W' := by
  obtain ⟨a1, a2⟩ := pack_known
  obtain ⟨b1, b2, b3, b4, b5⟩ := head_known
  obtain ⟨c1, c2, c3⟩ := part_known
  obtain ⟨d1, ⟨d2, d3, d4⟩, d5, d6⟩ := of_known
  have ha := cPack ⟨3, 10, true, true⟩
  rw [a1, a2] at ha
  have hb := cEncH 0 0
  rw [b1, b2] at hb
  have hc := cEncH 31 (-1)
  rw [b3, b4] at hc
  have hh := cEncH (-1) 0
  rw [b5] at hh
  generalize headV (-1) 0 = vh at hh
  have hd := cEncP 31 63
  rw [c1, c2] at hd
  have hj := cEncP 0 0
  rw [c3] at hj
  generalize partV 0 0 = vj at hj
  have hk := cCounts 131072 (by decide)
  rw [d1] at hk
  generalize cntV 131072 = X at hk
  have hl := cOfH 64 (by decide)
  rw [d2, d3, d4] at hl
  have hm := cOfH 1 (by decide)
  rw [d5] at hm
  generalize hS 1 = m1 at hm
  generalize hO 1 = m2 at hm
  have hn := cOfP 1 (by decide)
  rw [d6] at hn
  generalize pS 1 = n1 at hn
  generalize pM 1 = n2 at hn
  have HA := Lib.hid ha
  have HB := Lib.hid hb
  have HC := Lib.hid hc
  have HH := Lib.hid hh
  have HD := Lib.hid hd
  have HJ := Lib.hid hj
  have HK := Lib.hid hk
  have HL := Lib.hid hl
  have HM := Lib.hid hm
  have HN := Lib.hid hn
  clear ha hb hc hh hd hj hk hl hm hn a1 a2 b1 b2 b3 b4 b5 c1 c2 c3 d1 d2 d3 d4 d5 d6
  go_enter Try.func12, Try.ntmps12
  go_wp2_with fail
  refine (HA.out _).mono ?_
  rintro e w1 ⟨rfl, hb1⟩
  have HW1 := Lib.hid hb1
  clear hb1
  go_wp2_with fail
  refine (HB.out _).mono ?_
  rintro e w2 ⟨rfl, hb2⟩
  have HW2 := Lib.hid (below_then HW1.out hb2)
  clear hb2 HW1
  go_wp2_with fail
  refine (HC.out _).mono ?_
  rintro e w3 ⟨rfl, hb3⟩
  have HW3 := Lib.hid (below_then HW2.out hb3)
  clear hb3 HW2
  go_wp2_with fail
  refine (HH.out _).mono ?_
  rintro e w4 ⟨rfl, hb4⟩
  have HW4 := Lib.hid (below_then HW3.out hb4)
  clear hb4 HW3
  go_wp2_with fail
  refine (HD.out _).mono ?_
  rintro e w5 ⟨rfl, hb5⟩
  have HW5 := Lib.hid (below_then HW4.out hb5)
  clear hb5 HW4
  go_wp2_with fail
  refine (HJ.out _).mono ?_
  rintro e w6 ⟨rfl, hb6⟩
  have HW6 := Lib.hid (below_then HW5.out hb6)
  clear hb6 HW5
  go_wp2_with fail
  refine (HK.out _).mono ?_
  rintro e w7 ⟨rfl, hb7⟩
  have HW7 := Lib.hid (below_then HW6.out hb7)
  clear hb7 HW6
  go_wp2_with (refine wpList_storeC (by rfl) _ _ (by rfl) w7.heap.size X (by rfl) (by rfl) _ (zero_new w7) rfl ?_; intro w8 h8 hk8; have HW8 := Lib.hid (below_then HW7.out (below_one_kept (below_one (Below.refl w7.heap.size w7) _) hk8 (Nat.le_refl _))); clear h8 hk8 HW7; refine Stop.mk ?_)
  unfold Stop
  go_wp2_with fail
  refine (HL.out _).mono ?_
  rintro e w9 ⟨rfl, hb9⟩
  have HW9 := Lib.hid (below_then HW8.out hb9)
  clear hb9 HW8
  go_wp2_with fail
  refine (HM.out _).mono ?_
  rintro e w10 ⟨rfl, hb10⟩
  have HW10 := Lib.hid (below_then HW9.out hb10)
  clear hb10 HW9
  go_wp2_with fail
  refine (HN.out _).mono ?_
  rintro e w11 ⟨rfl, hb11⟩
  have HW11 := Lib.hid (below_then HW10.out hb11)
  clear hb11 HW10
  go_wp2
  go_ret
  exact ⟨rfl, HW11.out⟩
end Go.Proofs.Ytljdlmkaolfedaa
