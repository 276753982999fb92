/-
  The law TreePlays, walked.
-/
import Derived.Test.YtbdlkglngjjpjaaTwo
set_option linter.unusedVariables false
set_option linter.unusedSimpArgs false
namespace Go.Proofs.Ytbdlkglngjjpjaa
open Go Go.RowKit

set_option maxHeartbeats 8000000 in
set_option maxRecDepth 100000 in
theorem walkPlays (u : Value) (l : List Wt) (W : World) (hs : ShowW W u l) : Calls Try.prog 3 #[u] W fun e W' => e = .returned (.bool true) ∧ Below W.heap.size W W' := by
  obtain ⟨ao, cap, rfl, hcap, hat⟩ := hs.form
  clear hs
  go_enter Try.func3, Try.ntmps3
  go_wp2_with fail
  refine (tNew W).mono ?_
  rintro e w1 ⟨B, rfl, h1⟩
  have H1 := Lib.hid h1
  clear h1
  go_wp2_with fail
  refine (xNew H1.out).mono ?_
  rintro e w2 ⟨B2, rfl, h2⟩
  have H2 := Lib.hid h2
  clear h2 H1
  go_wp2
  go_loopw [5] (fun i wr => ∃ k : Nat, k ≤ l.length ∧ k ≤ 60 ∧ i = .int .i64 k ∧ Hid (∃ t, T2 W wr B B2 t t)) (fun i _ => l.length - (intOf i).toNat)
  case atStart => exact ⟨0, by omega, by omega, rfl, Lib.hid ⟨_, H2.out⟩⟩
  case round =>
    clear H2
    obtain ⟨k, hk, hk60, rfl, HS⟩ := hrel
    obtain ⟨t, ht⟩ := HS.out
    have HT := Lib.hid ht
    clear ht HS
    by_cases hlt : k < l.length
    · by_cases hlt2 : k < 60
      · obtain ⟨b1, o1, rfl, c0, c1⟩ := hat k hlt
        have d0 := cell_keep HT.out.a.low c0
        have d1 := cell_keep HT.out.a.low c1
        have HC1 := Lib.hid c1
        clear c0 c1
        generalize (wt l k).who = kd at d0
        generalize (wt l k).due = x at d1 HC1
        obtain ⟨q, hq⟩ : ∃ q, bring kd 2 = q := ⟨_, rfl⟩
        have HQ := Lib.hid hq
        clear hq
        go_wp2_with fail
        refine (cBringN kd 2 2 rfl (by decide) _).mono ?_
        rintro e w2 ⟨rfl, rfl⟩
        rw [HQ.out]
        by_cases h0 : q = 0
        · subst h0
          obtain ⟨a, er, t', hr⟩ := add_is HT.out.ri x
          have HR := Lib.hid hr
          clear hr
          go_wp2_with fail
          refine (xAdd HT.out HR.out).mono ?_
          rintro e w3 ⟨rfl, h3⟩
          have H3 := Lib.hid h3
          have d3 := cell_keep h3.a.low HC1.out
          clear h3 d0 d1
          go_wp2_with fail
          refine (xrAdd H3.out HR.out).mono ?_
          rintro e w4 ⟨rfl, h4⟩
          have H4 := Lib.hid h4
          clear h4 d3
          go_wp2
          go_roundw
          case rel => exact ⟨k + 1, by omega, by omega, by go_num, Lib.hid ⟨_, H4.out⟩⟩
          case measure => simp [intOf]; omega
        · obtain ⟨er, t', hr⟩ := off_is t x
          have HR := Lib.hid hr
          have hne : ((q : Int) == 0) = false := by simp; omega
          have hd := HT.out.drew
          clear hr h0
          go_wp2
          go_region_held3 (fun w' => w'.cell? ⟨b1, o1 + k * 2 + 1, none⟩ = some (.int .i64 x))
            (first | exact cell_keep (T2.a (show T2 W _ B B2 _ _ from by assumption)).low HC1.out)
            (first
              | (go_at_call 13; refine (xOff (by assumption) HR.out).mono ?_; rintro e wN ⟨rfl, bN⟩)
              | (go_at_call 14; refine (xrOff (by assumption) HR.out).mono ?_; rintro e wM ⟨rfl, bM⟩))
          all_goals
            have H9 := Lib.hid bM
            clear bM bN hd d0 d1
            go_wp2
            go_roundw
            case rel => exact ⟨k + 1, by omega, by omega, by go_num, Lib.hid ⟨_, H9.out⟩⟩
            case measure => simp [intOf]; omega
      · obtain rfl : k = 60 := by omega
        rw [show ((60 : Nat) : Int) = 60 from rfl]
        go_wp2_with fail
        refine (cSame HT.out).mono ?_
        rintro e w3 ⟨rfl, hb⟩
        have HB := Lib.hid (below_then HT.out.a.low hb)
        clear hb
        go_wp2_with fail
        refine (works _).mono ?_
        rintro e w4 ⟨rfl, hb⟩
        have HB4 := Lib.hid (below_then HB.out hb)
        clear hb
        go_wp2
        go_ret
        exact ⟨rfl, HB4.out⟩
    · obtain rfl : k = l.length := by omega
      go_wp2_with fail
      refine (cSame HT.out).mono ?_
      rintro e w3 ⟨rfl, hb⟩
      have HB := Lib.hid (below_then HT.out.a.low hb)
      clear hb
      go_wp2_with fail
      refine (works _).mono ?_
      rintro e w4 ⟨rfl, hb⟩
      have HB4 := Lib.hid (below_then HB.out hb)
      clear hb
      go_wp2
      go_ret
      exact ⟨rfl, HB4.out⟩
end Go.Proofs.Ytbdlkglngjjpjaa
