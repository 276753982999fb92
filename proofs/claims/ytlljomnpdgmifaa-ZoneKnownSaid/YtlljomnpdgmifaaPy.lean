/-
  The walk of ZonePlays.
-/
import Derived.Test.YtlljomnpdgmifaaSp
import Derived.Test.YtlljomnpdgmifaaOp
set_option linter.unusedVariables false
set_option linter.unusedSimpArgs false
namespace Go.Proofs.Ytlljomnpdgmifaa
open Go Go.RowKit

set_option maxHeartbeats 16000000 in
set_option maxRecDepth 100000 in
theorem walkPlays (cpus pages : Int) (u : Value) (l0 : List Qd) (W : World) (hs : ShowD W u l0) (hw : WfD l0) :
    Calls Try.prog 3 #[.int .i64 cpus, .int .i64 pages, u] W fun e W' => e = .returned (.bool true) ∧ Below W.heap.size W W' := by
  obtain ⟨ao, cap, rfl, hcap, hat⟩ := hs.form
  have HWF := Lib.hid hw
  clear hs hw
  obtain ⟨P, hP⟩ : ∃ P, pages.tmod 200 = P := ⟨_, rfl⟩
  have hP200 : P < 200 := by
    rw [← hP]
    exact Int.tmod_lt_of_pos _ (by decide)
  by_cases hok : (1 ≤ cpus ∧ cpus ≤ 8) ∧ 1 ≤ P ∧ P ≤ 1024
  · obtain ⟨⟨h1, h2⟩, h3, h4⟩ := hok
    obtain ⟨n, rfl⟩ : ∃ n : Nat, cpus = n := ⟨cpus.toNat, by omega⟩
    obtain ⟨m, rfl⟩ : ∃ m : Nat, P = m := ⟨P.toNat, by omega⟩
    have hn : 1 ≤ n ∧ n ≤ 8 := by omega
    have hm : 1 ≤ m ∧ m ≤ 1024 := by omega
    go_enter Try.func3, Try.ntmps3
    go_wp2_with fail
    refine (zNew n m _ hn hm).mono ?_
    rintro e w1 ⟨z, N, rfl, hz, hge, hb1⟩
    have H1 := Lib.hid (And.intro hz (And.intro hge hb1))
    clear hz hge hb1
    go_wp2_with fail
    refine (rzNew n m _ hn hm).mono ?_
    rintro e w2 ⟨y, R, rfl, hr, hge, hb2⟩
    have H2 : Hid (Z2 W w2 z N n (ini m) noF (fun _ => none) y R (ini m) noF) := Lib.hid ⟨H1.out.1.below hb2, hr, below_then H1.out.2.2 hb2, H1.out.2.1, fun k o => Nat.le_trans H1.out.2.2.size (hge k o), fun k o o2 => by
      have a1 := H1.out.1.zb.own_lt o
      have a2 := hge k o2
      omega⟩
    clear hr hge hb2 hP h1 h2 h3 h4
    go_wp2
    go_loopw [11] (fun x wr => ∃ j : Nat, j ≤ l0.length ∧ j ≤ 40 ∧ x = .int .i64 j ∧ Hid (∃ N R l f t, Z2 W wr z N n l f t y R l f)) (fun x _ => l0.length - (intOf x).toNat)
    case atStart => exact ⟨0, by omega, by omega, rfl, Lib.hid ⟨_, _, _, _, _, H2.out⟩⟩
    case round =>
      obtain ⟨j, hj, hj40, rfl, HS⟩ := hrel
      obtain ⟨N3, R3, l3, f3, t3, h3⟩ := HS.out
      have H3 := Lib.hid h3
      clear HS h3
      by_cases hlt : j < l0.length ∧ j < 40
      · obtain ⟨hlt, h40⟩ := hlt
        obtain ⟨b1, o1, rfl, c0, c1, c2, c3⟩ := hat j hlt
        have hwa := HWF.out j hlt
        generalize qd l0 j = d at c0 c1 c2 c3 hwa
        obtain ⟨kd, cpu, a, b⟩ := d
        dsimp only at c0 c1 c2 c3 hwa
        have HWA := Lib.hid hwa
        have d0 := cell_keep H3.out.low c0
        have d1 := cell_keep H3.out.low c1
        have d2 := cell_keep H3.out.low c2
        have d3 := cell_keep H3.out.low c3
        clear c0 c1 c2 c3 hat hwa
        go_wp2_with fail
        refine (cStep H3.out kd cpu a b HWA.out).mono ?_
        rintro e w4 ⟨rfl, N4, R4, l4, f4, t4, h4⟩
        have H4 := Lib.hid h4
        clear h4
        go_wp2
        go_roundw
        case rel => exact ⟨j + 1, by omega, by omega, by go_num, Lib.hid ⟨_, _, _, _, _, H4.out⟩⟩
        case measure => simp [intOf]; omega
      · by_cases hjl : j = l0.length
        · subst hjl
          go_wp2_with fail
          refine (cSame H3.out).mono ?_
          rintro e w5 ⟨rfl, hb5⟩
          have H5 := Lib.hid (below_then H3.out.low hb5)
          clear hb5
          go_wp2_with fail
          refine (works _).mono ?_
          rintro e w6 ⟨rfl, hb6⟩
          have H6 := Lib.hid (below_then H5.out hb6)
          clear hb6
          go_wp2
          go_ret
          exact ⟨ret_bool (by simp), H6.out⟩
        · obtain rfl : j = 40 := by omega
          have hl40 : 40 < l0.length := by omega
          go_wp2_with fail
          refine (cSame H3.out).mono ?_
          rintro e w5 ⟨rfl, hb5⟩
          have H5 := Lib.hid (below_then H3.out.low hb5)
          clear hb5
          go_wp2_with fail
          refine (works _).mono ?_
          rintro e w6 ⟨rfl, hb6⟩
          have H6 := Lib.hid (below_then H5.out hb6)
          clear hb6
          go_wp2
          go_ret
          exact ⟨ret_bool (by simp), H6.out⟩
  · have HOK := Lib.hid hok
    clear hok hat
    go_enter Try.func3, Try.ntmps3
    go_wp2_with fail
    refine (zNewBad cpus P _ HOK.out).mono ?_
    rintro e w1 ⟨rfl, hb1⟩
    have H1 := Lib.hid hb1
    clear hb1
    go_wp2_with fail
    refine (rzNewBad cpus P _ HOK.out).mono ?_
    rintro e w2 ⟨rfl, hb2⟩
    have H2 := Lib.hid (below_then H1.out hb2)
    clear hb2 hP
    go_wp2
    go_loopw [11] (fun x wr => x = .int .i64 0 ∧ Hid (Below W.heap.size W wr)) (fun x _ => 0)
    case atStart => exact ⟨rfl, H2⟩
    case round =>
      obtain ⟨rfl, HB⟩ := hrel
      by_cases h0 : 0 < l0.length
      · go_wp2_with fail
        refine (works _).mono ?_
        rintro e w6 ⟨rfl, hb6⟩
        have H6 := Lib.hid (below_then HB.out hb6)
        clear hb6
        go_wp2
        go_ret
        exact ⟨ret_bool (by simp), H6.out⟩
      · have h00 : l0.length = 0 := by omega
        go_wp2_with fail
        refine (works _).mono ?_
        rintro e w6 ⟨rfl, hb6⟩
        have H6 := Lib.hid (below_then HB.out hb6)
        clear hb6
        go_wp2
        go_ret
        exact ⟨ret_bool (by simp), H6.out⟩
end Go.Proofs.Ytlljomnpdgmifaa
