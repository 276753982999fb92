/-
  The law AliasRoom, walked.
-/
import Derived.Test.YtpaanlamjncajaaRooma
import Derived.Test.YtpaanlamjncajaaRoomb
import Derived.Test.YtpaanlamjncajaaRoomc
set_option linter.unusedVariables false
set_option linter.unusedSimpArgs false
namespace Go.Proofs.Ytpaanlamjncajaa
open Go Go.RowKit

set_option maxHeartbeats 4000000 in
set_option maxRecDepth 100000 in
theorem room0 (a b : Sp) (hs : srv a b = true) (W : World) : Calls Try.prog 6 #[a.agg, b.agg] W fun e W' => e = .returned (.bool true) ∧ Below W.heap.size W W' := by
  obtain ⟨r1, r2, r3, r4⟩ := srv_room hs
  obtain ⟨o1, o2, o3, o4, o5, o6⟩ := srv_iff.1 hs
  obtain ⟨g1, g2⟩ := ok_align o1
  obtain ⟨g3, g4⟩ := ok_align o2
  have g5 := step_in o1
  obtain ⟨⟨g6, g7⟩, _⟩ := Sp.ok_iff.1 o1
  have HS := fun w => cStep a w
  generalize a.step = n at *
  obtain ⟨_, _, _, n1, n2⟩ := g5
  have HO := Lib.hid (And.intro o4 o5)
  clear o1 o2 o3 o4 o5 o6
  have HS := Lib.hid HS
  have HV := fun w => cServes a b w
  rw [hs] at HV
  have HV := Lib.hid HV
  have H0 := Lib.hid (two_new W a b)
  clear hs
  go_enter Try.func6, Try.ntmps6
  go_wp2_with fail
  refine (HV.out _).mono ?_
  rintro e w1 ⟨rfl, hb1⟩
  have hT1 := H0.out.next hb1
  obtain ⟨p0, p1, p2, p3, p4, p5, _⟩ := (H0.out.next hb1).six
  clear hb1 HV H0
  go_wp2_with fail
  refine (HS.out _).mono ?_
  rintro e w2 ⟨rfl, hb2⟩
  have hT2 := Two.next (show Two W W.heap.size (W.heap.size + 1) a b w1 from hT1) hb2
  obtain ⟨q0, q1, q2, q3, q4, q5, _⟩ := hT2.six
  clear hb2 p0 p1 p2 p3 p4 p5
  obtain ⟨o4, o5⟩ := HO.out
  go_wp2_with fail
  refine (works _).mono ?_
  rintro e w3 ⟨rfl, hb3⟩
  have hT3 := hT2.next hb3
  go_wp2
  go_ret
  exact ⟨rfl, hT3.low⟩
theorem walkRoom (a b : Sp) (W : World) : Calls Try.prog 6 #[a.agg, b.agg] W fun e W' => e = .returned (.bool true) ∧ Below W.heap.size W W' := by
  cases hs : srv a b with
  | true => exact room0 a b hs W
  | false =>
    rcases srv_why hs with h | ⟨h1, h2⟩ | ⟨h1, h2, h3⟩ | ⟨h1, h2, h3, h4⟩ | ⟨h1, h2, h3, h4, h5⟩
    · exact room1 a b hs h W
    · exact room2 a b hs h1 h2 W
    · exact room3 a b hs h1 h2 h3 W
    · exact room4 a b hs h1 h2 h3 h4 W
    · exact room5 a b hs h1 h2 h3 h4 h5 W
end Go.Proofs.Ytpaanlamjncajaa
