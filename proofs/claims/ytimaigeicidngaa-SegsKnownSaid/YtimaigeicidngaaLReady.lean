/-
  SegsReady: Ready, program against document's answer.
-/
import Derived.Test.YtimaigeicidngaaLRows
set_option linter.unusedVariables false
set_option linter.unusedSimpArgs false
namespace Go.Proofs.Ytimaigeicidngaa
open Go Go.RowKit

set_option maxHeartbeats 4000000 in
set_option maxRecDepth 100000 in
theorem walkReady (u : Value) (l : List Wt) (d : Int) (W : World) (hs : ShowW W u l) :
    Calls Try.prog 4 #[u, .int .i64 d] W fun e W' => e = .returned (.bool true) ∧ Below W.heap.size W W' := by
  have hs0 := hs
  obtain ⟨ao, cap, rfl, hcap, hat⟩ := hs.form
  obtain ⟨m, hm, hml, hm300⟩ := cut300 l.length
  obtain ⟨L, rfl, hsL⟩ := shows_cut hs0 hml
  obtain ⟨c, hc⟩ : ∃ c, chkF L = c := ⟨_, rfl⟩
  obtain ⟨I, hI⟩ : ∃ I, rdyI L d = I := ⟨_, rfl⟩
  obtain ⟨R, hR⟩ : ∃ R, rdyR L d = R := ⟨_, rfl⟩
  have HC := Lib.hid hc
  have HI := Lib.hid hI
  have HR := Lib.hid hR
  have HS := Lib.hid hsL
  clear hs hs0 hat hc hI hR hsL
  go_enter Try.func4, Try.ntmps4
  go_wp2_with fail
  refine (rCopy _ L _ HS.out (by omega)).mono ?_
  rintro e w1 ⟨ia, ic, rfl, hown, hb⟩
  have B1 := Lib.hid hb
  have S1 := Lib.hid hown.shows
  clear hown hb
  go_wp2_with fail
  refine (cReady _ L d _ S1.out).mono ?_
  rintro e w2 ⟨i1, n1, c1, r1, m1, k1, hn1, hm1, rfl, hoi, hor, hb⟩
  rw [HC.out]
  rw [HI.out] at hn1 hoi
  rw [HR.out] at hm1 hor
  have P2 := Lib.hid hoi.shows
  have Q2 := Lib.hid hor
  have D2 := Lib.hid hb
  clear hn1 hm1 hoi hor hb
  go_wp2_with fail
  refine (rReady _ L d _ (HS.out.below (below_then B1.out D2.out))).mono ?_
  rintro e w3 ⟨i2, n2, c2, r2, m2, k2, hn2, hm2, rfl, hoi, hor, hb⟩
  rw [HC.out]
  rw [HI.out] at hn2 hoi
  rw [HR.out] at hm2 hor
  have P3 := Lib.hid (P2.out.below hb)
  have Q3 := Lib.hid (Q2.out.below hb)
  have M3 := Lib.hid hoi.shows
  have N3 := Lib.hid hor.shows
  have D3 := Lib.hid (below_then D2.out hb)
  clear hn2 hm2 hoi hor hb P2 Q2 D2
  go_wp2_with fail
  refine (cEqInts _ _ I I _ P3.out M3.out).mono ?_
  rintro e w4 ⟨rfl, hb⟩
  rw [decide_eq_true rfl]
  have Q4 := Lib.hid (Q3.out.below hb)
  have N4 := Lib.hid (N3.out.below hb)
  have D4 := Lib.hid (below_then D3.out hb)
  clear hb P3 M3 Q3 N3 D3
  go_wp2_with fail
  refine (cSame _ _ R R _ Q4.out.shows N4.out).mono ?_
  rintro e w8 ⟨rfl, hb⟩
  rw [decide_eq_true rfl]
  have Q8 := Lib.hid (Q4.out.below hb)
  have D8 := Lib.hid (below_then D4.out hb)
  clear hb Q4 N4 D4
  rcases row_of Q8.out with rfl | ⟨g, rfl, hg, hrow, hca, hcm⟩
  · go_wp2
    go_loopw [12] (fun i wr => i = .int .i64 0 ∧ wr = w8) (fun _ _ => 0)
    case atStart => exact ⟨rfl, rfl⟩
    case round =>
      obtain ⟨rfl, rfl⟩ := hrel
      go_wp2_with fail
      refine (cSame _ _ L L _ (S1.out.below D8.out) (HS.out.below (below_then B1.out D8.out))).mono ?_
      rintro e w9 ⟨rfl, hb⟩
      rw [decide_eq_true rfl]
      have B9 := Lib.hid (below_then (below_then B1.out D8.out) hb)
      clear hb
      go_wp2_with fail
      refine (works _).mono ?_
      rintro e w10 ⟨rfl, hb⟩
      have B10 := Lib.hid (below_then B9.out hb)
      clear hb
      go_wp2
      go_ret
      exact ⟨rfl, B10.out⟩
  · have HR := Lib.hid hrow
    clear hrow
    go_wp2
    go_loopw [12] (fun i wr => ∃ j : Nat, j ≤ m1 ∧ i = .int .i64 j ∧ Hid (RowAt wr g m1) ∧ Hid (Below w1.heap.size w1 wr)) (fun i _ => m1 - (intOf i).toNat)
    case atStart => exact ⟨0, Nat.zero_le _, rfl, HR, D8⟩
    case round =>
      clear HR D8 Q8
      obtain ⟨j, hj, rfl, HR, D8⟩ := hrel
      by_cases hlt : j < m1
      · obtain ⟨y, hy⟩ := HR.out.cell (j := j * 2) (by omega)
        have hf := HR.out.frozen (j * 2)
        have HR2 := Lib.hid (HR.out.set (j * 2) (.int .i64 (-1)))
        have D2 := Lib.hid (D8.out.setCell (p := ⟨g, j * 2, none⟩) hg (.int .i64 (-1)))
        go_wp2
        go_roundw
        case rel => exact ⟨j + 1, by omega, by go_num, HR2, D2⟩
        case measure => simp [intOf]; omega
      · have hje : j = m1 := by omega
        go_wp2_with fail
        refine (cSame _ _ L L _ (S1.out.below D8.out) (HS.out.below (below_then B1.out D8.out))).mono ?_
        rintro e w9 ⟨rfl, hb⟩
        rw [decide_eq_true rfl]
        have B9 := Lib.hid (below_then (below_then B1.out D8.out) hb)
        clear hb
        go_wp2_with fail
        refine (works _).mono ?_
        rintro e w10 ⟨rfl, hb⟩
        have B10 := Lib.hid (below_then B9.out hb)
        clear hb
        go_wp2
        go_ret
        exact ⟨rfl, B10.out⟩
end Go.Proofs.Ytimaigeicidngaa
