/-
  SegsAdds: records that are added are the row; Next is the least that is waited for.
-/
import Derived.Test.YtimaigeicidngaaTwice
set_option linter.unusedVariables false
set_option linter.unusedSimpArgs false
namespace Go.Proofs.Ytimaigeicidngaa
open Go Go.RowKit

theorem key1 {W0 w : World} {p : Addr} {u : Value} (h : W0.cell? p = some u) (hb : Below W0.heap.size W0 w) : w.cell? p = some u ∧ Below W0.heap.size W0 w := ⟨cell_keep hb h, hb⟩
theorem next_at {L : List Wt} {y : Int} (h : chkF L = 0) (h1 : 0 < L.length) (hy : (wt L 0).due = y) : nextF L = y := by rw [next_yes h h1, hy]
set_option maxHeartbeats 1000000 in
theorem cCheckNil (ao : Option Addr) (cap : Nat) (w : World) : Calls Try.prog 12 #[.slice ao 0 cap] w fun e w' => e = .returned (.int .i64 0) ∧ w' = w := by
  go_enter Try.func12, Try.ntmps12
  go_wp2
  go_loopw [11] (fun i wr => i = .int .i64 0 ∧ wr = w) (fun _ _ => 0)
  case atStart => exact ⟨rfl, rfl⟩
  case round =>
    obtain ⟨rfl, rfl⟩ := hrel
    go_wp2
    go_ret
    exact ⟨rfl, rfl⟩
set_option maxHeartbeats 1000000 in
theorem cNextNil (ao : Option Addr) (cap : Nat) (w : World) : Calls Try.prog 14 #[.slice ao 0 cap] w fun e w' => e = .returned (.int .i64 0) ∧ w' = w := by
  go_enter Try.func14, Try.ntmps14
  go_wp2
  go_ret
  exact ⟨rfl, rfl⟩
set_option maxHeartbeats 4000000 in
set_option maxRecDepth 100000 in
theorem walkAdds (u : Value) (l : List Wt) (W : World) (hs : ShowW W u l) :
    Calls Try.prog 7 #[u] W fun e W' => e = .returned (.bool true) ∧ Below W.heap.size W W' := by
  obtain ⟨ao, cap, rfl, hcap, hat⟩ := hs.form
  clear hs
  go_enter Try.func7, Try.ntmps7
  go_wp2
  go_loopw [3, 4] (fun v x wr => ∃ (i : Nat) (L : List Wt), i ≤ l.length ∧ i ≤ 100 ∧ L.length ≤ i ∧ x = .int .i64 i ∧ Hid (chkF L = 0) ∧ Hid (OwnW W.heap.size wr v L) ∧ Hid (Below W.heap.size W wr)) (fun _ x _ => l.length - (intOf x).toNat)
  case atStart => exact ⟨0, [], by omega, by omega, Nat.le_refl _, rfl, Lib.hid rfl, Lib.hid (OwnW.nil _ _), Lib.hid (Below.refl _ _)⟩
  case round =>
    obtain ⟨i, L, hil, hi, hLi, rfl, HK, HO, HB⟩ := hrel
    obtain ⟨va, vc, rfl, hv1, hv2⟩ := own_shape HO.out
    obtain ⟨N, hN⟩ : ∃ N, L.length = N := ⟨_, rfl⟩
    rw [hN] at hLi hv1 ⊢
    have HNN := Lib.hid hN
    have HO' : Hid (OwnW W.heap.size wr (.slice va N vc) L) := Lib.hid (by have := HO.out; rwa [hN] at this)
    clear hN HO
    by_cases hlt : i < l.length ∧ i < 100
    · obtain ⟨hlt, hl100⟩ := hlt
      obtain ⟨b1, o1, rfl, y1, y2⟩ := hat i hlt
      have e1 := cell_keep HB.out y1
      have e2 := cell_keep HB.out y2
      generalize wt l i = x at e1 e2
      obtain ⟨a, d⟩ := x
      dsimp only at e1 e2
      have hli : (i : Int) < 100 := by omega
      clear y1 y2
      go_wp2_with fail
      refine (cAdd _ L a d _ HO'.out.shows).mono ?_
      rintro e w2 ⟨a2, n2, c2, hn2, rfl, hown, hb⟩
      have HB2 := Lib.hid (below_then HB.out hb)
      by_cases hc0 : chkF (L ++ [Wt.mk a d]) = 0
      · obtain ⟨h2, h3⟩ := add_yes (x := ⟨a, d⟩) HK.out hc0
        rw [h2]
        rw [h3] at hown hn2
        have HO2 := Lib.hid (hown.le HB.out.size)
        have HK2 := Lib.hid hc0
        have hn3 : n2 = N + 1 := by rw [hn2, List.length_append, HNN.out]; rfl
        have HN2 : Hid ((L ++ [Wt.mk a d]).length = n2) := Lib.hid hn2.symm
        have hn4 : 0 < n2 := by omega
        have hn5 : n2 ≤ i + 1 := by omega
        clear hown hb e1 e2 hc0 h2 h3 HO' hn2 hn3 HK HNN
        obtain ⟨b2, o2, rfl, _, z2⟩ := HO2.out.shows.cell (i := 0) (by omega)
        rw [Nat.zero_mul, Nat.add_zero] at z2
        obtain ⟨y, hy⟩ : ∃ y, (wt (L ++ [Wt.mk a d]) 0).due = y := ⟨_, rfl⟩
        rw [hy] at z2
        have HX : Hid (nextF (L ++ [Wt.mk a d]) = y) := Lib.hid (next_at HK2.out (by have := HN2.out; omega) hy)
        have HZ := Lib.hid z2
        have q1 : decide ((n2 : Int) = 0) = false := decide_eq_false (by omega)
        have q2 : ((n2 : Int) == 0) = false := by simp; omega
        have q3 : (0 : Int) < (n2 : Int) := by omega
        have q4 : 0 < n2 := by omega
        have HS2 := Lib.hid HO2.out.shows
        clear hy z2
        go_wp2
        first | (go_region_held (fun Z => Z.cell? ⟨b2, o2 + 1, none⟩ = some (.int .i64 y) ∧ Below w2.heap.size w2 Z)
          (first | exact key1 HZ.out (by assumption) | exact key1 HZ.out (Below.drew (Below.refl _ _)) | assumption)
          (first
            | (go_at_call 12; refine (cCheck _ (L ++ [Wt.mk a d]) 0 HK2.out _ (HS2.out.below (show _ ∧ Below w2.heap.size w2 _ from by assumption).2)).mono ?_; rintro e w4 ⟨rfl, h4⟩; have hb4 : Below w2.heap.size w2 w4 := below_then (show _ ∧ Below w2.heap.size w2 _ from by assumption).2 h4)
            | (go_at_call 14; refine (cNext _ (L ++ [Wt.mk a d]) y HX.out _ (HS2.out.below (show _ ∧ Below w2.heap.size w2 _ from by assumption).2)).mono ?_; rintro e w5 ⟨rfl, h5⟩; have hb5 : Below w2.heap.size w2 w5 := below_then (show _ ∧ Below w2.heap.size w2 _ from by assumption).2 h5))) | fail
        all_goals
          have hbf := (show _ ∧ Below w2.heap.size w2 _ from by assumption).2
          have HBF := Lib.hid (below_then HB2.out hbf)
          have HOF := Lib.hid (HO2.out.below hbf)
          clear hbf
          go_wp2
          go_roundw
          case rel => exact ⟨i + 1, (L ++ [Wt.mk a d]), by omega, by omega, by have := HN2.out; omega, by go_num, HK2, HOF, HBF⟩
          case measure => simp [intOf]; omega
      · have hc2 : addF L ⟨a, d⟩ = 2 ∧ addL L ⟨a, d⟩ = [] := by
          obtain ⟨h2, h3⟩ := add_no HK.out hc0
          exact ⟨by rw [h2]; exact snoc_two HK.out (by have := HNN.out; omega) hc0, h3⟩
        rw [hc2.1]
        rw [hc2.2] at hn2
        obtain rfl : n2 = 0 := hn2
        have HO2 := Lib.hid (HO'.out.below hb)
        clear hown hb e1 e2 hc0 hc2 HO'
        by_cases hN0 : N = 0
        · subst hN0
          go_wp2
          go_quiet (first
            | (go_at_call 12; exact Calls.quiet_of_same (cCheckNil _ _ _))
            | (go_at_call 14; exact Calls.quiet_of_same (cNextNil _ _ _)))
          have HOF : Hid (OwnW W.heap.size (w2.drewN nq) (.slice va 0 vc) L) := Lib.hid (HO2.out.below (below_drewN (Below.refl _ _) _))
          have HBF := Lib.hid (below_drewN HB2.out nq)
          go_wp2
          go_roundw
          case rel => exact ⟨i + 1, L, by omega, by omega, by have := HNN.out; omega, by go_num, HK, HOF, HBF⟩
          case measure => simp [intOf]; omega
        · skip
          obtain ⟨b2, o2, rfl, _, z2⟩ := HO2.out.shows.cell (i := 0) (by omega)
          rw [Nat.zero_mul, Nat.add_zero] at z2
          obtain ⟨y, hy⟩ : ∃ y, (wt L 0).due = y := ⟨_, rfl⟩
          rw [hy] at z2
          have HX : Hid (nextF L = y) := Lib.hid (next_at HK.out (by have := HNN.out; omega) hy)
          have HZ := Lib.hid z2
          have q1 : decide ((N : Int) = 0) = false := decide_eq_false (by omega)
          have q2 : ((N : Int) == 0) = false := by simp; omega
          have q3 : (0 : Int) < (N : Int) := by omega
          have q4 : 0 < N := by omega
          have HS2 := Lib.hid HO2.out.shows
          clear hy z2
          go_wp2
          first | (go_region_held (fun Z => Z.cell? ⟨b2, o2 + 1, none⟩ = some (.int .i64 y) ∧ Below w2.heap.size w2 Z)
            (first | exact key1 HZ.out (by assumption) | exact key1 HZ.out (Below.drew (Below.refl _ _)) | assumption)
            (first
              | (go_at_call 12; refine (cCheck _ L 0 HK.out _ (HS2.out.below (show _ ∧ Below w2.heap.size w2 _ from by assumption).2)).mono ?_; rintro e w4 ⟨rfl, h4⟩; have hb4 : Below w2.heap.size w2 w4 := below_then (show _ ∧ Below w2.heap.size w2 _ from by assumption).2 h4)
              | (go_at_call 14; refine (cNext _ L y HX.out _ (HS2.out.below (show _ ∧ Below w2.heap.size w2 _ from by assumption).2)).mono ?_; rintro e w5 ⟨rfl, h5⟩; have hb5 : Below w2.heap.size w2 w5 := below_then (show _ ∧ Below w2.heap.size w2 _ from by assumption).2 h5))) | fail
          all_goals
            have hbf := (show _ ∧ Below w2.heap.size w2 _ from by assumption).2
            have HBF := Lib.hid (below_then HB2.out hbf)
            have HOF := Lib.hid (HO2.out.below hbf)
            clear hbf
            go_wp2
            go_roundw
            case rel => exact ⟨i + 1, L, by omega, by omega, by have := HNN.out; omega, by go_num, HK, HOF, HBF⟩
            case measure => simp [intOf]; omega
    · have hor : i = l.length ∨ (i < l.length ∧ i = 100) := by omega
      rcases hor with he | ⟨he, hh⟩
      · go_wp2_with fail
        refine (works _).mono ?_
        rintro e w7 ⟨rfl, hb⟩
        have HB7 := Lib.hid (below_then HB.out hb)
        clear hb
        go_wp2
        go_ret
        exact ⟨rfl, HB7.out⟩
      · subst hh
        go_wp2_with fail
        refine (works _).mono ?_
        rintro e w7 ⟨rfl, hb⟩
        have HB7 := Lib.hid (below_then HB.out hb)
        clear hb
        go_wp2
        go_ret
        exact ⟨rfl, HB7.out⟩
end Go.Proofs.Ytimaigeicidngaa
