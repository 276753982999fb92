/-
  The law NearPlays, walked.
-/
import Derived.Test.YtpmlmpkjmgebnaaStep
set_option linter.unusedVariables false
set_option linter.unusedSimpArgs false
namespace Go.Proofs.Ytpmlmpkjmgebnaa
open Go Go.RowKit

theorem St2.start {W w1 w2 : World} {B g B2 g2 n lim : Nat} (ha : NearG w1 48 B g noV n lim noF) (hb : Below W.heap.size W w1) (hg : ∀ k, Own n B g noV k → W.heap.size ≤ k)
    (hr : NearG w2 50 B2 g2 noV n lim noF) (hb2 : Below w1.heap.size w1 w2) (hg2 : ∀ k, Own n B2 g2 noV k → w1.heap.size ≤ k) : St2 W w2 B g noV noF B2 g2 noV noF n lim :=
  ⟨ha.below hb2, hr, fine_no _ _, fine_no _ _, below_then hb hb2, hg, fun k o => Nat.le_trans hb.size (hg2 k o), fun k o o2 => by
    have := ha.own_lt o
    have := hg2 k o2
    omega⟩
set_option maxHeartbeats 16000000 in
set_option maxRecDepth 100000 in
theorem walkPlays (x0 x1 : Int) (u : Value) (l : List Pg) (W : World) (hs : ShowP W u l) : Calls Try.prog 3 #[.int .i64 x0, .int .i64 x1, u] W fun e W' => e = .returned (.bool true) ∧ Below W.heap.size W W' := by
  obtain ⟨ao, cap, rfl, hcap, hat⟩ := hs.form
  clear hs
  by_cases hok : ArgOk x0 x1
  · obtain ⟨n, rfl⟩ : ∃ n : Nat, x0 = n := ⟨x0.toNat, by have := hok.1; omega⟩
    obtain ⟨lim, rfl⟩ : ∃ lim : Nat, x1 = lim := ⟨x1.toNat, by have := hok.2; omega⟩
    have hn : 1 ≤ n ∧ n ≤ 8 := by have := hok.1; omega
    have hl : lim ≤ 64 := by have := hok.2; omega
    clear hok
    go_enter Try.func3, Try.ntmps3
    go_wp2_with fail
    refine (cNew n lim W hn hl).mono ?_
    rintro e w1 ⟨B, g, rfl, ha, hb, hg⟩
    have H1 := Lib.hid (And.intro ha (And.intro hb hg))
    clear ha hb hg
    go_wp2_with fail
    refine (rNew n lim _ hn hl).mono ?_
    rintro e w2 ⟨B2, g2, rfl, ha, hb, hg⟩
    have H2 := Lib.hid (St2.start H1.out.1 H1.out.2.1 H1.out.2.2 ha hb hg)
    clear ha hb hg H1
    go_wp2
    go_loopw [11] (fun i wr => ∃ (k : Nat) (vs vs2 : Nat → Value) (f : F), k ≤ l.length ∧ k ≤ 150 ∧ i = .int .i64 k ∧ Hid (St2 W wr B g vs f B2 g2 vs2 f n lim)) (fun i _ => l.length - (intOf i).toNat)
    case atStart => exact ⟨0, _, _, _, by omega, by omega, rfl, H2⟩
    case round =>
      obtain ⟨k, vs, vs2, f, hk, hk150, rfl, HS⟩ := hrel
      by_cases hlt : k < l.length
      · by_cases hlt2 : k < 150
        · obtain ⟨b1, o1, rfl, c0, c1, c2⟩ := hat k hlt
          have d0 := cell_keep HS.out.low c0
          have d1 := cell_keep HS.out.low c1
          have d2 := cell_keep HS.out.low c2
          clear c0 c1 c2
          generalize pg l k = d at d0 d1 d2
          go_wp2_with fail
          refine (cStep HS.out d).mono ?_
          rintro e w3 ⟨rfl, vs3, vs4, f3, h3⟩
          have H3 := Lib.hid h3
          clear h3 d0 d1 d2 HS
          go_wp2
          go_loopw [12] (fun c wx => ∃ y : Int, c = .int .i64 y ∧ -1 ≤ y ∧ y ≤ 9 ∧ Hid (St2 W wx B g vs3 f3 B2 g2 vs4 f3 n lim)) (fun c _ => (9 - intOf c).toNat)
          case atStart => exact ⟨-1, rfl, by omega, by omega, H3⟩
          case round =>
            obtain ⟨y, rfl, hy1, hy2, HX⟩ := hrel
            by_cases hy : y < 9
            · go_wp2_with fail
              refine (cList HX.out.a y).mono ?_
              rintro e w4 ⟨v4, rfl, hf, hb⟩
              have H4 := Lib.hid (And.intro (HX.out.below hb) (HX.out.fresh hf))
              clear hf hb
              go_wp2_with fail
              refine (rList H4.out.1.r y).mono ?_
              rintro e w5 ⟨v5, rfl, hf, hb⟩
              have H5 := Lib.hid (And.intro (H4.out.1.below hb) (And.intro (H4.out.2.below hb) (Res.shows hf)))
              clear hf hb H4 HX
              go_wp2_with fail
              refine (cEqInts _ _ _ _ _ (Res.shows H5.out.2.1) H5.out.2.2).mono ?_
              rintro e w6 ⟨rfl, hb⟩
              rw [decide_eq_true rfl]
              have H6 := Lib.hid (And.intro (H5.out.1.below hb) (H5.out.2.1.below hb))
              clear hb H5
              rcases Res.wiped H6.out.2 with ⟨rfl, _⟩ | ⟨r, cap', rfl, hc1, hc2, hA, hW⟩
              · go_wp2
                go_loopw [14] (fun i wr => i = .int .i64 0 ∧ wr = w6) (fun i _ => 0)
                case atStart => exact ⟨rfl, rfl⟩
                case round =>
                  obtain ⟨rfl, rfl⟩ := hrel
                  go_wp2
                  go_roundw
                  case rel => exact ⟨y + 1, rfl, by omega, by omega, Lib.hid H6.out.1⟩
                  case measure => simp [intOf]; omega
              · have HA := Lib.hid hA
                have HW := Lib.hid hW
                generalize (listOf f3 n y).length = N at hc1 HW ⊢
                clear hA hW
                go_wp2
                go_loopw [14] (fun i wz => ∃ m : Nat, m ≤ N ∧ i = .int .i64 m ∧ Hid (Wiped w6 wz r N)) (fun i _ => N - (intOf i).toNat)
                case atStart => exact ⟨0, by omega, rfl, HW⟩
                case round =>
                  obtain ⟨m, hm, rfl, HWr⟩ := hrel
                  by_cases hmn : m < N
                  · obtain ⟨⟨uu, e1⟩, e2⟩ := HWr.out.at hmn
                    go_wp2
                    go_roundw
                    case rel => exact ⟨m + 1, by omega, by go_num, Lib.hid (HWr.out.set _)⟩
                    case measure => simp [intOf]; omega
                  · obtain rfl : m = N := by omega
                    go_wp2
                    go_roundw
                    case rel => exact ⟨y + 1, rfl, by omega, by omega, Lib.hid (H6.out.1.wiped HA.out HWr.out)⟩
                    case measure => simp [intOf]; omega
            · obtain rfl : y = 9 := by omega
              go_wp2
              go_roundw
              case rel => exact ⟨k + 1, _, _, _, by omega, by omega, by go_num, HX⟩
              case measure => simp [intOf]; omega
        · obtain rfl : k = 150 := by omega
          rw [show ((150 : Nat) : Int) = 150 from rfl]
          go_wp2_with fail
          refine (cWorks _).mono ?_
          rintro e w3 ⟨rfl, hb⟩
          have HB := Lib.hid (below_then HS.out.low hb)
          clear hb
          go_wp2
          go_ret
          exact ⟨rfl, HB.out⟩
      · obtain rfl : k = l.length := by omega
        go_wp2_with fail
        refine (cWorks _).mono ?_
        rintro e w3 ⟨rfl, hb⟩
        have HB := Lib.hid (below_then HS.out.low hb)
        clear hb
        go_wp2
        go_ret
        exact ⟨rfl, HB.out⟩
  · go_enter Try.func3, Try.ntmps3
    go_wp2_with fail
    refine (cNewBad x0 x1 W hok).mono ?_
    rintro e w1 ⟨rfl, rfl⟩
    go_wp2_with fail
    refine (rNewBad x0 x1 _ hok).mono ?_
    rintro e w2 ⟨rfl, rfl⟩
    go_wp2
    go_loopw [11] (fun i wr => i = .int .i64 0 ∧ wr = w2) (fun i _ => 0)
    case atStart => exact ⟨rfl, rfl⟩
    case round =>
      obtain ⟨rfl, rfl⟩ := hrel
      by_cases h0 : 0 < l.length
      · go_wp2_with fail
        refine (cWorks _).mono ?_
        rintro e w3 ⟨rfl, hb⟩
        have HB := Lib.hid hb
        clear hb
        go_wp2
        go_ret
        exact ⟨rfl, HB.out⟩
      · go_wp2_with fail
        refine (cWorks _).mono ?_
        rintro e w3 ⟨rfl, hb⟩
        have HB := Lib.hid hb
        clear hb
        go_wp2
        go_ret
        exact ⟨rfl, HB.out⟩
end Go.Proofs.Ytpmlmpkjmgebnaa
