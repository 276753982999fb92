/-
  BuddyPlays: what buddies answer, call by call, is the document's.
-/
import Derived.Test.YtpohfecbogppkaaStep6
set_option linter.unusedVariables false
set_option linter.unusedSimpArgs false
namespace Go.Proofs.Ytpohfecbogppkaa
open Go Go.RowKit

theorem cBringLit (x : Int) (n : Nat) (ni : Int) (hni : (n : Int) = ni) (r : Nat) (hr : bring x n = r) (w : World) (h1 : 1 ≤ n) (h2 : n ≤ 1099511627776) :
    Calls Try.prog 10 #[.int .i64 x, .int .i64 ni] w fun e w' => e = .returned (.int .i64 r) ∧ w' = w := by
  subst hni hr
  exact cBring x n w h1 h2
abbrev doBox (k a b : Int) : Obj := .cells #[.int .i64 k, .int .i64 a, .int .i64 b] 31
theorem st_new {W w w1 w2 : World} {B g cap B2 g2 cap2 n : Nat} (h1 : 1 ≤ n) (h2 : n ≤ 1024) (ha : BudAt w1 56 B g cap (ini n)) (hge : W.heap.size ≤ B ∧ W.heap.size ≤ g) (hb1 : Below W.heap.size W w1)
    (hr : BudAt w2 39 B2 g2 cap2 (ini n)) (hge2 : w1.heap.size ≤ B2 ∧ w1.heap.size ≤ g2) (hb2 : Below w1.heap.size w1 w2) : St W w2 B g cap B2 g2 cap2 (ini n) (ini n) := by
  have hl := ha.lt
  have := hb1.size
  exact ⟨ha.below hb2, hr, ini_std h1 h2, ini_std h1 h2, below_then hb1 hb2, by omega, by omega⟩
set_option maxHeartbeats 16000000 in
set_option maxRecDepth 100000 in
theorem walkPlays (pages : Int) (u : Value) (l : List Pg) (W : World) (hs : ShowP W u l) :
    Calls Try.prog 3 #[.int .i64 pages, u] W fun e w' => e = .returned (.bool true) ∧ Below W.heap.size W w' := by
  obtain ⟨ao, cap0, rfl, hcap, hat⟩ := hs.form
  clear hs
  by_cases hbad : pages < 1 ∨ 1024 < pages
  · clear hat
    have HBD := Lib.hid hbad
    clear hbad
    go_enter Try.func3, Try.ntmps3
    go_wp2_with fail
    refine (cNewBad pages HBD.out _).mono ?_
    rintro e w1 ⟨rfl, rfl⟩
    go_wp2_with fail
    refine (rNewBad pages HBD.out _).mono ?_
    rintro e w2 ⟨rfl, rfl⟩
    go_wp2
    go_loopw [9] (fun y wr => y = .int .i64 0 ∧ Hid (Below w2.heap.size w2 wr)) (fun y _ => 0)
    case atStart => exact ⟨rfl, Lib.hid (Below.refl _ _)⟩
    case round =>
      obtain ⟨rfl, HB⟩ := hrel
      by_cases h0 : 0 < l.length
      · go_wp2_with fail
        refine (works _).mono ?_
        rintro e w3 ⟨rfl, hb3⟩
        have HB3 := Lib.hid (below_then HB.out hb3)
        clear hb3
        go_wp2
        go_ret
        exact ⟨rfl, HB3.out⟩
      · go_wp2_with fail
        refine (works _).mono ?_
        rintro e w3 ⟨rfl, hb3⟩
        have HB3 := Lib.hid (below_then HB.out hb3)
        clear hb3
        go_wp2
        go_ret
        exact ⟨rfl, HB3.out⟩
  obtain ⟨n, rfl⟩ : ∃ n : Nat, pages = n := ⟨pages.toNat, by omega⟩
  have hn1 : 1 ≤ n := by omega
  have hn2 : n ≤ 1024 := by omega
  clear hbad
  go_enter Try.func3, Try.ntmps3
  go_wp2_with fail
  refine (cNew n hn1 hn2 _).mono ?_
  rintro e w1 ⟨B, g, rfl, ha, hge, hb1⟩
  have HA := Lib.hid ha
  have HB1 := Lib.hid hb1
  have HGE := Lib.hid hge
  clear ha hb1 hge
  go_wp2_with fail
  refine (rNew n hn1 hn2 _).mono ?_
  rintro e w2 ⟨B2, g2, cap2, rfl, hr, hge2, hb2⟩
  have HST0 := Lib.hid (st_new (w := w2) hn1 hn2 HA.out HGE.out HB1.out hr hge2 hb2)
  clear hr hge2 hb2 HA HB1 HGE
  go_wp2
  go_loopw [9] (fun y wr => ∃ j : Nat, j ≤ l.length ∧ j ≤ 40 ∧ y = .int .i64 j ∧ Hid (∃ L, St W wr B g n B2 g2 cap2 L L)) (fun y _ => l.length - (intOf y).toNat)
  case atStart => exact ⟨0, by omega, by omega, rfl, Lib.hid ⟨_, HST0.out⟩⟩
  case round =>
    obtain ⟨j, hj, hj40, rfl, HS⟩ := hrel
    obtain ⟨L, hst⟩ := HS.out
    have HST := Lib.hid hst
    clear HS hst
    by_cases hlt : j < l.length ∧ j < 40
    · obtain ⟨hlt, h40⟩ := hlt
      obtain ⟨b1, o1, rfl, c0, c1, c2⟩ := hat j hlt
      obtain ⟨k, hk⟩ : ∃ k, (pg l j).kind = k := ⟨_, rfl⟩
      obtain ⟨a, ha⟩ : ∃ a, (pg l j).order = a := ⟨_, rfl⟩
      obtain ⟨b, hb⟩ : ∃ b, (pg l j).cache = b := ⟨_, rfl⟩
      rw [hk] at c0
      rw [ha] at c1
      rw [hb] at c2
      clear hk ha hb
      have d0 := cell_keep HST.out.low c0
      have d1 := cell_keep HST.out.low c1
      have d2 := cell_keep HST.out.low c2
      have HBX := Lib.hid (heap_new wr (doBox k a b))
      have HST1 := Lib.hid (HST.out.below (below_one (Below.refl _ wr) (doBox k a b)))
      have hDl := HST.out.a.lt
      have hDr := HST.out.r.lt
      obtain ⟨D, hD⟩ : ∃ D, wr.heap.size = D := ⟨_, rfl⟩
      rw [hD] at HBX hDl hDr
      obtain ⟨R, hR⟩ : ∃ R, bring k 3 = R := ⟨_, rfl⟩
      have HR := Lib.hid hR
      clear c0 c1 c2 hat hR HST
      go_wp2_with fail
      obtain ⟨w3, hw3⟩ : ∃ w3, wr.alloc (doBox k a b) = w3 := ⟨_, rfl⟩
      rw [hw3] at HBX HST1 ⊢
      clear hw3 hD d0 d1 d2
      obtain ⟨e0, e1, e2⟩ := self3 HBX.out
      by_cases hR0 : R = 0
      · subst hR0
        refine (cBringLit k 3 _ rfl 0 HR.out _ (by decide) (by decide)).mono ?_
        rintro e w' ⟨rfl, rfl⟩
        obtain ⟨p, er, m, hal⟩ := alloc_is L a b
        have HAL := Lib.hid hal
        clear hal
        go_wp2_with fail
        refine (cAlloc HST1.out.a HST1.out.sa HAL.out).mono ?_
        rintro en w4 ⟨rfl, ha4, hk4⟩
        have HBX4 := Lib.hid ((hk4.block D (lt_of_block HBX.out) (by omega)).trans HBX.out)
        have HST4 := Lib.hid (HST1.out.left ha4 (HAL.out.std HST1.out.sa).1 hk4)
        clear ha4 hk4 e0 e1 e2 HST1 HBX
        obtain ⟨e0, e1, e2⟩ := self3 HBX4.out
        go_wp2_with fail
        refine (rAlloc HST4.out.r HST4.out.sr HAL.out).mono ?_
        rintro en w5 ⟨rfl, hr5, hk5⟩
        have HST5 := Lib.hid (HST4.out.right hr5 (HAL.out.std HST4.out.sr).1 hk5)
        clear hr5 hk5 e0 e1 e2 HST4 HBX4
        go_wp2
        go_roundw
        case rel => exact ⟨j + 1, by omega, by omega, by go_num, Lib.hid ⟨m, HST5.out⟩⟩
        case measure => simp [intOf]; omega
      · have hR1 : ((R : Int) == 0) = false := by rw [beq_eq_false_iff_ne]; omega
        refine (cBringLit k 3 _ rfl R HR.out _ (by decide) (by decide)).mono ?_
        rintro e w' ⟨rfl, rfl⟩
        have hself := HST1.out.r.self
        have hLn := HST1.out.r.n2
        go_wp2_with fail
        refine (cOuts _ L hLn _ HST1.out.r.shows).mono ?_
        rintro en w4 ⟨v, rfl, hv, hb4⟩
        have HBX2 := Lib.hid (keep_block HBX.out hb4)
        have HST2 := Lib.hid (HST1.out.below hb4)
        have HV := Lib.hid hv
        clear hv hb4 e0 e1 e2 HST1 HBX hself
        obtain ⟨e0, e1, e2⟩ := self3 HBX2.out
        obtain ⟨vo, vc, rfl, hvc, hvat⟩ := HV.out.form
        have hvl := ids_le (outq L) L.length
        obtain ⟨Q, hQ⟩ : ∃ Q, (outI L).length = Q := ⟨_, rfl⟩
        have HQQ := Lib.hid hQ
        rw [hQ] at hvc hvat hvl ⊢
        clear hQ
        by_cases hR2 : R = 2
        · subst hR2
          by_cases hQ0 : 0 < Q
          · obtain ⟨r2, hr2⟩ : ∃ r2, bring a Q = r2 := ⟨_, rfl⟩
            have hr2l : r2 < Q := by rw [← hr2]; exact bring_lt a Q (by omega)
            obtain ⟨bo, oo, rfl, hcell⟩ := hvat r2 hr2l
            obtain ⟨PG, hPG⟩ : ∃ PG, pk (outI L) r2 = PG := ⟨_, rfl⟩
            rw [hPG] at hcell
            have HR2 := Lib.hid hr2
            clear hr2 hPG hvat
            go_wp2_with fail
            refine (cBringLit k 3 _ rfl 2 HR.out _ (by decide) (by decide)).mono ?_
            rintro e w' ⟨rfl, rfl⟩
            go_wp2_with fail
            refine (cBringLit a Q _ rfl r2 HR2.out _ (by omega) (by omega)).mono ?_
            rintro e w' ⟨rfl, rfl⟩
            obtain ⟨er, m, hfr⟩ := free_is L PG
            have HFR := Lib.hid hfr
            clear hfr
            go_wp2_with fail
            refine (cFreeB HST2.out.a HST2.out.sa HFR.out).mono ?_
            rintro en w6 ⟨rfl, ha6, hk6⟩
            have HST6 := Lib.hid (HST2.out.left ha6 (HFR.out.std HST2.out.sa).1 hk6)
            clear ha6 hk6 HST2
            go_wp2_with fail
            refine (rFreeB HST6.out.r HST6.out.sr HFR.out).mono ?_
            rintro en w7 ⟨rfl, hr7, hk7⟩
            have HST7 := Lib.hid (HST6.out.right hr7 (HFR.out.std HST6.out.sr).1 hk7)
            clear hr7 hk7 HST6
            go_wp2
            go_roundw
            case rel => exact ⟨j + 1, by omega, by omega, by go_num, Lib.hid ⟨m, HST7.out⟩⟩
            case measure => simp [intOf]; omega
          · obtain rfl : Q = 0 := by omega
            obtain ⟨PG, hPG⟩ : ∃ PG, a = PG := ⟨_, rfl⟩
            rw [hPG] at e1 HBX2 ⊢
            clear hPG hvat
            go_wp2_with fail
            refine (cBringLit k 3 _ rfl 2 HR.out _ (by decide) (by decide)).mono ?_
            rintro e w' ⟨rfl, rfl⟩
            obtain ⟨er, m, hfr⟩ := free_is L PG
            have HFR := Lib.hid hfr
            clear hfr
            go_wp2_with fail
            refine (cFreeB HST2.out.a HST2.out.sa HFR.out).mono ?_
            rintro en w6 ⟨rfl, ha6, hk6⟩
            have HST6 := Lib.hid (HST2.out.left ha6 (HFR.out.std HST2.out.sa).1 hk6)
            clear ha6 hk6 HST2
            go_wp2_with fail
            refine (rFreeB HST6.out.r HST6.out.sr HFR.out).mono ?_
            rintro en w7 ⟨rfl, hr7, hk7⟩
            have HST7 := Lib.hid (HST6.out.right hr7 (HFR.out.std HST6.out.sr).1 hk7)
            clear hr7 hk7 HST6
            go_wp2
            go_roundw
            case rel => exact ⟨j + 1, by omega, by omega, by go_num, Lib.hid ⟨m, HST7.out⟩⟩
            case measure => simp [intOf]; omega
        · have hR3 : ((R : Int) == 2) = false := by rw [beq_eq_false_iff_ne]; omega
          obtain ⟨PG, hPG⟩ : ∃ PG, a = PG := ⟨_, rfl⟩
          rw [hPG] at e1 HBX2 ⊢
          clear hPG hvat
          go_wp2_with fail
          refine (cBringLit k 3 _ rfl R HR.out _ (by decide) (by decide)).mono ?_
          rintro e w' ⟨rfl, rfl⟩
          obtain ⟨er, m, hfr⟩ := free_is L PG
          have HFR := Lib.hid hfr
          clear hfr
          go_wp2_with fail
          refine (cFreeB HST2.out.a HST2.out.sa HFR.out).mono ?_
          rintro en w6 ⟨rfl, ha6, hk6⟩
          have HST6 := Lib.hid (HST2.out.left ha6 (HFR.out.std HST2.out.sa).1 hk6)
          clear ha6 hk6 HST2
          go_wp2_with fail
          refine (rFreeB HST6.out.r HST6.out.sr HFR.out).mono ?_
          rintro en w7 ⟨rfl, hr7, hk7⟩
          have HST7 := Lib.hid (HST6.out.right hr7 (HFR.out.std HST6.out.sr).1 hk7)
          clear hr7 hk7 HST6
          go_wp2
          go_roundw
          case rel => exact ⟨j + 1, by omega, by omega, by go_num, Lib.hid ⟨m, HST7.out⟩⟩
          case measure => simp [intOf]; omega
    · clear hat
      by_cases hjl : j = l.length
      · subst hjl
        have HL := Lib.hid HST.out
        go_wp2_with fail
        refine (cSame6 HST.out.a HST.out.r).mono ?_
        rintro e w3 ⟨rfl, hb3⟩
        have HB3 := Lib.hid (below_then HST.out.low hb3)
        clear hb3
        go_wp2_with fail
        refine (works _).mono ?_
        rintro e w4 ⟨rfl, hb4⟩
        have HB4 := Lib.hid (below_then HB3.out hb4)
        clear hb4
        go_wp2
        go_ret
        exact ⟨rfl, HB4.out⟩
      · obtain rfl : j = 40 := by omega
        have hl40 : 40 < l.length := by omega
        have HL := Lib.hid HST.out
        go_wp2_with fail
        refine (cSame6 HST.out.a HST.out.r).mono ?_
        rintro e w3 ⟨rfl, hb3⟩
        have HB3 := Lib.hid (below_then HST.out.low hb3)
        clear hb3
        go_wp2_with fail
        refine (works _).mono ?_
        rintro e w4 ⟨rfl, hb4⟩
        have HB4 := Lib.hid (below_then HB3.out hb4)
        clear hb4
        go_wp2
        go_ret
        exact ⟨rfl, HB4.out⟩
end Go.Proofs.Ytpohfecbogppkaa
