/-
  SegsTwice: Ready twice answers what Ready with the greater number does.
-/
import Derived.Test.YtimaigeicidngaaCutL
set_option linter.unusedVariables false
set_option linter.unusedSimpArgs false
namespace Go.Proofs.Ytimaigeicidngaa
open Go Go.RowKit

set_option maxHeartbeats 4000000 in
set_option maxRecDepth 100000 in
theorem walkTwice (u : Value) (l : List Wt) (a b : Int) (W : World) (hs : ShowW W u l) :
    Calls Try.prog 6 #[u, .int .i64 a, .int .i64 b] W fun e W' => e = .returned (.bool true) ∧ Below W.heap.size W W' := by
  obtain ⟨ao, cap, rfl, hcap, hat⟩ := hs.form
  obtain ⟨c, hc⟩ : ∃ c, chkF l = c := ⟨_, rfl⟩
  have HC := Lib.hid hc
  have HS := Lib.hid hs
  obtain ⟨lo, hlo⟩ : ∃ lo, (if b < a then b else a) = lo := ⟨_, rfl⟩
  obtain ⟨hi, hhi⟩ : ∃ hi, (if a < b then b else a) = hi := ⟨_, rfl⟩
  have HLE : Hid (lo ≤ hi) := Lib.hid (by rw [← hlo, ← hhi]; split <;> split <;> omega)
  clear hs hc hat
  go_enter Try.func6, Try.ntmps6
  go_wp2_with fail
  refine (cReady _ l lo _ HS.out).mono ?_
  rintro e w1 ⟨i1, n1, c1, r1, m1, k1, hn1, hm1, rfl, hoi, hor, hb⟩
  rw [HC.out]
  have I1 := Lib.hid hoi
  have LT1 := Lib.hid (own_lt hoi)
  have R1 := Lib.hid hor.shows
  have B1 := Lib.hid hb
  have N1 := Lib.hid (And.intro hn1 hm1)
  clear hoi hor hb hn1 hm1
  go_wp2_with fail
  refine (cReady _ _ hi _ R1.out).mono ?_
  rintro e w2 ⟨i2, n2, c2, r2, m2, k2, hn2, hm2, rfl, hoi, hor, hb⟩
  have I1' := Lib.hid (I1.out.below hb)
  have I2 := Lib.hid hoi.shows
  have R2 := Lib.hid hor
  have B2 := Lib.hid (below_then B1.out hb)
  have B12 := Lib.hid hb
  have N2 := Lib.hid (And.intro hn2 hm2)
  obtain ⟨cc, hcc⟩ : ∃ cc, chkF (rdyR l lo) = cc := ⟨_, rfl⟩
  rw [hcc]
  have HCC := Lib.hid hcc
  clear hoi hor hb hn2 hm2 hcc I1 R1
  go_wp2_with fail
  refine (cReady _ l hi _ (HS.out.below B2.out)).mono ?_
  rintro e w3 ⟨i3, n3, c3, r3, m3, k3, hn3, hm3, rfl, hoi, hor, hb⟩
  rw [HC.out]
  have J1 := Lib.hid (I1'.out.below hb)
  have J2 := Lib.hid (I2.out.below hb)
  have S2 := Lib.hid (R2.out.below hb)
  have LT2 : Hid (w1.heap.size ≤ w2.heap.size) := Lib.hid B12.out.size
  have I3 := Lib.hid (hoi.le LT2.out)
  have R3 := Lib.hid (hor.le LT2.out)
  have B3 := Lib.hid (below_then B2.out hb)
  have N3 := Lib.hid (And.intro hn3 hm3)
  clear hoi hor hb hn3 hm3 I1' I2 R2
  by_cases hc0 : c = 0
  rotate_left
  · have hq : (c != 0) = true := by simpa using hc0
    go_wp2_with fail
    refine (works _).mono ?_
    rintro e w4 ⟨rfl, hb⟩
    have B4 := Lib.hid (below_then B3.out hb)
    clear hb
    go_wp2
    go_ret
    exact ⟨rfl, B4.out⟩
  subst hc0
  have hlen := chk_len HC.out
  have G1 := Lib.hid (rdy_ok (d := lo) HC.out)
  have G3 := Lib.hid (rdy_ok (d := hi) HC.out)
  have hcc0 : cc = 0 := by rw [← HCC.out, G1.out.2]; exact chk_drop HC.out _
  subst hcc0
  have G2 := Lib.hid (rdy_ok (d := hi) HCC.out)
  have E1 : Hid (rdyI l hi = rdyI l lo ++ rdyI (rdyR l lo) hi ∧ rdyR (rdyR l lo) hi = rdyR l hi) := Lib.hid (by
    rw [G2.out.1, G2.out.2, G1.out.1, G1.out.2, G3.out.1, G3.out.2]
    exact ⟨ids_twice HLE.out, rest_twice HLE.out⟩)
  have hl1 : (rdyI l lo).length ≤ 256 := by rw [G1.out.1, ids_length, List.length_take]; omega
  have hl2 : (rdyI (rdyR l lo) hi).length ≤ 256 := by rw [G2.out.1, ids_length, List.length_take, G1.out.2, List.length_drop]; omega
  obtain ⟨R, hR⟩ : ∃ R, rdyR l hi = R := ⟨_, rfl⟩
  rw [hR] at R3 N3 E1
  rw [E1.out.2] at S2 N2
  obtain rfl : m2 = R.length := N2.out.2
  obtain rfl : m3 = R.length := N3.out.2
  obtain ⟨A, hA⟩ : ∃ A, rdyI l lo = A := ⟨_, rfl⟩
  obtain ⟨D, hD⟩ : ∃ D, rdyI (rdyR l lo) hi = D := ⟨_, rfl⟩
  rw [hA] at J1 E1 hl1
  rw [hD] at J2 E1 hl2
  obtain ⟨n, hn⟩ : ∃ n, (A ++ D).length = n := ⟨_, rfl⟩
  have HN := Lib.hid hn
  have E2 := Lib.hid E1.out.1
  have hRl : R.length ≤ 256 := by rw [← hR, G3.out.2, List.length_drop]; omega
  clear hR hA hD hn E1 N1 N2 N3 G1 G2 G3
  have hbz := B1.out.size
  have hbz3 := B3.out.size
  have H3 := Lib.hid hbz3
  clear hbz hbz3
  rw [E2.out] at I3
  go_wp2_with (at_builtin; refine wpList_appendI2 (by rfl) _ _ (by rfl) W.heap.size _ _ A D n (by rfl) (by rfl) J1.out J2.out (by omega) H3.out HN.out ?_)
  intro a4 c4 w4 hown hb hgr
  have B4 := Lib.hid (B3.out.trans hb)
  have S4 := Lib.hid (show OwnW w1.heap.size w4 _ R from other_stays S2.out hgr LT1.out)
  have R4 := Lib.hid (show OwnW w1.heap.size w4 _ R from other_stays R3.out hgr LT1.out)
  have I4 := Lib.hid (show OwnI w1.heap.size w4 _ (A ++ D) from other_stays I3.out hgr LT1.out)
  have F4 := Lib.hid (show OwnI W.heap.size w4 _ (A ++ D) from by rw [← HN.out] at hown; exact hown)
  rw [HN.out] at F4
  clear hown hb hgr S2 R3 I3
  go_wp2_with fail
  refine (cEqInts _ _ (A ++ D) (A ++ D) _ F4.out.shows I4.out.shows).mono ?_
  rintro e w5 ⟨rfl, hb⟩
  rw [decide_eq_true rfl]
  have B5 := Lib.hid (below_then B4.out hb)
  have S5 := Lib.hid ((S4.out.below hb).shows)
  have R5 := Lib.hid ((R4.out.below hb).shows)
  clear hb S4 R4 I4 F4
  obtain ⟨N, hN⟩ : ∃ N, R.length = N := ⟨_, rfl⟩
  rw [hN] at S5 R5 ⊢
  have hNl : N ≤ 256 := by omega
  clear hN
  go_wp2
  go_loopw [16] (fun x wr => ∃ i : Nat, i ≤ N ∧ x = .int .i64 i ∧ Below w5.heap.size w5 wr) (fun x _ => N - (intOf x).toNat)
  case atStart => exact ⟨0, Nat.zero_le _, rfl, Below.refl _ _⟩
  case round =>
    obtain ⟨i, hi, rfl, hb⟩ := hrel
    by_cases hlt : i < N
    · obtain ⟨b2, o2, rfl, y1, y2⟩ := S5.out.cell hlt
      obtain ⟨b3, o3, rfl, y3, y4⟩ := R5.out.cell hlt
      have e1 := cell_keep hb y1
      have e2 := cell_keep hb y2
      have e3 := cell_keep hb y3
      have e4 := cell_keep hb y4
      have heq : ∀ w', (Op.equalIn 10000 24 (.agg #[.int .i64 (wt R i).who, .int .i64 (wt R i).due]) (.agg #[.int .i64 (wt R i).who, .int .i64 (wt R i).due])).run Try.prog w' = .ok true w' := fun w' => eqinIs (decide_eq_true rfl)
      have hgd := guardW
      generalize (wt R i).who = x at e1 e3 heq
      generalize (wt R i).due = y at e2 e4 heq
      clear y1 y2 y3 y4
      go_wp2
      go_quiet (fail)
      go_wp2
      go_roundw
      case rel => exact ⟨i + 1, by omega, by go_num, below_drewN hb _⟩
      case measure => simp [intOf]; omega
    · have hie : i = N := by omega
      have B6 := Lib.hid (below_then B5.out hb)
      go_wp2_with fail
      refine (works _).mono ?_
      rintro e w7 ⟨rfl, hb⟩
      have B7 := Lib.hid (below_then B6.out hb)
      clear hb
      go_wp2
      go_ret
      exact ⟨rfl, B7.out⟩
end Go.Proofs.Ytimaigeicidngaa
