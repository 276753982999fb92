/-
  The law GracePlays, walked.
-/
import Derived.Test.YtnnpclknlccmiaaWorks
set_option linter.unusedVariables false
set_option linter.unusedSimpArgs false
namespace Go.Proofs.Ytnnpclknlccmiaa
open Go Go.RowKit

theorem G2.start {W w1 w2 : World} {B p B2 d r m n : Nat} {va vr : Nat → Value} (ha : GV w1 B p n va noG) (hb : Below W.heap.size W w1) (h1 : W.heap.size ≤ B) (h2 : W.heap.size ≤ p)
    (hr : RV w2 B2 d r m n vr noG false) (hb2 : Below w1.heap.size w1 w2) (g1 : w1.heap.size ≤ B2) (g2 : w1.heap.size ≤ d) (g3 : w1.heap.size ≤ r) (g4 : w1.heap.size ≤ m) : G2 W w2 B p B2 d r m n noG noG := by
  have hz := hb.size
  refine ⟨⟨_, ha.below hb2⟩, ⟨_, hr.flag (by symm; exact anyB_no.2 (fun _ _ => rfl))⟩, below_then hb hb2, ?_, ?_⟩
  · rintro k (rfl | rfl) <;> assumption
  · rintro k (rfl | rfl | rfl | rfl) <;> omega
set_option maxHeartbeats 16000000 in
set_option maxRecDepth 100000 in
theorem walkPlays (x0 : Int) (u : Value) (l : List Pg) (W : World) (hs : ShowP W u l) : Calls Try.prog 3 #[.int .i64 x0, u] W fun e W' => e = .returned (.bool true) ∧ Below W.heap.size W W' := by
  obtain ⟨ao, cap, rfl, hcap, hat⟩ := hs.form
  clear hs
  by_cases hok : 1 ≤ x0 ∧ x0 ≤ 8
  · obtain ⟨n, rfl⟩ : ∃ n : Nat, x0 = n := ⟨x0.toNat, by omega⟩
    have hn : 1 ≤ n ∧ n ≤ 8 := by omega
    clear hok
    go_enter Try.func3, Try.ntmps3
    go_wp2_with fail
    refine (cNew n W hn).mono ?_
    rintro e w1 ⟨B, p, rfl, ha, hb, h1, h2⟩
    have H1 := Lib.hid (And.intro ha (And.intro hb (And.intro h1 h2)))
    clear ha hb h1 h2
    go_wp2_with fail
    refine (rNew n _ hn).mono ?_
    rintro e w2 ⟨B2, d, r, m, rfl, hr, hb, g1, g2, g3, g4⟩
    have H2 := Lib.hid (G2.start H1.out.1 H1.out.2.1 H1.out.2.2.1 H1.out.2.2.2 hr hb g1 g2 g3 g4)
    clear hr hb g1 g2 g3 g4 H1
    go_wp2
    go_loopw [9] (fun i wr => ∃ k : Nat, k ≤ l.length ∧ k ≤ 300 ∧ i = .int .i64 k ∧ Hid (∃ g, G2 W wr B p B2 d r m n g g ∧ GI n k g)) (fun i _ => l.length - (intOf i).toNat)
    case atStart => exact ⟨0, by omega, by omega, rfl, Lib.hid ⟨_, H2.out, GI.new hn⟩⟩
    case round =>
      clear H2
      obtain ⟨k, hk, hk300, rfl, HS⟩ := hrel
      obtain ⟨g, hg2, hgi⟩ := HS.out
      have HG := Lib.hid hg2
      have HI := Lib.hid hgi
      clear hg2 hgi HS
      by_cases hlt : k < l.length
      · by_cases hlt2 : k < 300
        · obtain ⟨b1, o1, rfl, c0, c1, c2⟩ := hat k hlt
          have d0 := cell_keep HG.out.low c0
          have d1 := cell_keep HG.out.low c1
          have d2 := cell_keep HG.out.low c2
          clear c0 c1 c2
          generalize pg l k = c at d0 d1 d2
          go_wp2_with fail
          refine (cStep HG.out HI.out (by omega) c).mono ?_
          rintro e w3 ⟨rfl, g3, h3, h4⟩
          have H3 := Lib.hid (And.intro h3 h4)
          clear h3 h4 d0 d1 d2 HG HI
          go_wp2_with fail
          refine (cSameG H3.out.1 H3.out.2).mono ?_
          rintro e w4 ⟨rfl, hb4⟩
          have H4 := Lib.hid (H3.out.1.below hb4)
          clear hb4
          go_wp2
          go_roundw
          case rel => exact ⟨k + 1, by omega, by omega, by go_num, Lib.hid ⟨_, H4.out, H3.out.2⟩⟩
          case measure => simp [intOf]; omega
        · obtain rfl : k = 300 := by omega
          rw [show ((300 : Nat) : Int) = 300 from rfl]
          go_wp2_with fail
          refine (works _).mono ?_
          rintro e w3 ⟨rfl, hb⟩
          have HB := Lib.hid (below_then HG.out.low hb)
          clear hb
          go_wp2
          go_ret
          exact ⟨rfl, HB.out⟩
      · obtain rfl : k = l.length := by omega
        go_wp2_with fail
        refine (works _).mono ?_
        rintro e w3 ⟨rfl, hb⟩
        have HB := Lib.hid (below_then HG.out.low hb)
        clear hb
        go_wp2
        go_ret
        exact ⟨rfl, HB.out⟩
  · go_enter Try.func3, Try.ntmps3
    go_wp2_with fail
    refine (cNewBad x0 W hok).mono ?_
    rintro e w1 ⟨rfl, rfl⟩
    go_wp2_with fail
    refine (rNewBad x0 _ hok).mono ?_
    rintro e w2 ⟨rfl, rfl⟩
    go_wp2
    go_loopw [9] (fun i wr => i = .int .i64 0 ∧ wr = w2) (fun i _ => 0)
    case atStart => exact ⟨rfl, rfl⟩
    case round =>
      obtain ⟨rfl, rfl⟩ := hrel
      by_cases h0 : 0 < l.length
      · go_wp2_with fail
        refine (works _).mono ?_
        rintro e w3 ⟨rfl, hb⟩
        have HB := Lib.hid hb
        clear hb
        go_wp2
        go_ret
        exact ⟨rfl, HB.out⟩
      · go_wp2_with fail
        refine (works _).mono ?_
        rintro e w3 ⟨rfl, hb⟩
        have HB := Lib.hid hb
        clear hb
        go_wp2
        go_ret
        exact ⟨rfl, HB.out⟩
end Go.Proofs.Ytnnpclknlccmiaa
