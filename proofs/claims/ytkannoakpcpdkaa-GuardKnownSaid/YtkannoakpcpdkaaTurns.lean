/-
  GuardTurns.
-/
import Derived.Test.YtkannoakpcpdkaaWorks
set_option linter.unusedVariables false
set_option linter.unusedSimpArgs false
namespace Go.Proofs.Ytkannoakpcpdkaa
open Go Go.RowKit

set_option maxHeartbeats 8000000 in
theorem walkTurns (u : Value) (l : List Int) (out : Bool) (w : World) (hu : ShowB w u l) (hy : Bytey l) (hl : l.length * 1 ≤ 140737488355328) :
    Calls Try.prog 4 #[u, .bool out] w fun e w' => e = .returned (.bool true) ∧ Below w.heap.size w w' := by
  have HU := Lib.hid hu
  have HY := Lib.hid hy
  have HL := Lib.hid hl
  clear hu hy hl
  go_enter Try.func4, Try.ntmps4
  go_wp2_with fail
  refine (cCopyBytes _ l w HU.out HL.out).mono ?_
  rintro e w1 ⟨ai, ci, rfl, hi1, hb1⟩
  have B1 := Lib.hid hb1
  have I1 := Lib.hid hi1
  clear hb1 hi1
  generalize (Value.slice ai l.length ci) = vi at I1 ⊢
  go_wp2_with fail
  refine (cChk _ l out w1 I1.out).mono ?_
  rintro e w2 ⟨rfl, hb2⟩
  have I2 := Lib.hid (I1.out.below hb2)
  have B2 := Lib.hid (below_then B1.out hb2)
  clear hb2
  go_wp2_with fail
  refine (rChk _ l out w2 (HU.out.below B2.out)).mono ?_
  rintro e w3 ⟨rfl, hb3⟩
  have I3 := Lib.hid (I2.out.below hb3)
  have B3 := Lib.hid (below_then B2.out hb3)
  clear hb3
  generalize chkA l out = ca
  generalize chkE l out = ce
  go_wp2_with fail
  refine (cOut _ l w3 I3.out).mono ?_
  rintro e w4 ⟨a4, n4, c4, rfl, hs4, hb4⟩
  have S4 := Lib.hid hs4
  have I4 := Lib.hid (I3.out.below hb4)
  have B4 := Lib.hid (below_then B3.out hb4)
  clear hs4 hb4
  go_wp2_with fail
  refine (rOut _ l w4 (HU.out.below B4.out)).mono ?_
  rintro e w5 ⟨a5, n5, c5, rfl, hs5, hb5⟩
  have S5 := Lib.hid hs5
  have S45 := Lib.hid (S4.out.below hb5)
  have I5 := Lib.hid (I4.out.below hb5)
  have B5 := Lib.hid (below_then B4.out hb5)
  clear hs5 hb5
  go_wp2_with fail
  refine (cBack _ l w5 I5.out).mono ?_
  rintro e w6 ⟨a6, n6, c6, rfl, hs6, hb6⟩
  have S6 := Lib.hid hs6
  have S46 := Lib.hid (S45.out.below hb6)
  have S56 := Lib.hid (S5.out.below hb6)
  have I6 := Lib.hid (I5.out.below hb6)
  have B6 := Lib.hid (below_then B5.out hb6)
  clear hs6 hb6
  go_wp2_with fail
  refine (rBack _ l w6 (HU.out.below B6.out)).mono ?_
  rintro e w7 ⟨a7, n7, c7, rfl, hs7, hb7⟩
  have S7 := Lib.hid hs7
  have S47 := Lib.hid (S46.out.below hb7)
  have S57 := Lib.hid (S56.out.below hb7)
  have S67 := Lib.hid (S6.out.below hb7)
  have I7 := Lib.hid (I6.out.below hb7)
  have B7 := Lib.hid (below_then B6.out hb7)
  clear hs7 hb7
  generalize chkE l false = e4
  generalize chkE l true = e6
  go_wp2_with fail
  refine (cEqYes _ _ _ _ rfl w7 S47.out S57.out (bytey_got _ _)).mono ?_
  rintro e w8 ⟨rfl, rfl⟩
  go_wp2_with fail
  refine (cEqYes _ _ _ _ rfl _ S67.out S7.out (bytey_got _ _)).mono ?_
  rintro e w9 ⟨rfl, rfl⟩
  go_wp2_with fail
  refine (cEqYes _ _ _ _ rfl _ I7.out (HU.out.below B7.out) HY.out).mono ?_
  rintro e w10 ⟨rfl, rfl⟩
  go_wp2_with fail
  refine (cWorks _).mono ?_
  rintro e w11 ⟨rfl, hb⟩
  have HB := Lib.hid (below_then B7.out hb)
  clear hb
  go_wp2
  go_ret
  exact ⟨rfl, HB.out⟩
end Go.Proofs.Ytkannoakpcpdkaa
