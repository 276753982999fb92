/-
  The law ChargePlays, walked: lists of calls at which both ask alike.
-/
import Derived.Test.YtahkfagfobfliaaTwo
set_option linter.unusedVariables false
set_option linter.unusedSimpArgs false
namespace Go.Proofs.Ytahkfagfobfliaa
open Go Go.RowKit

theorem askP_askR (l : List Int) (n : Int) : askP l n = askR l n := by
  have e : decide (bad0 l n) = (decide (l.length < 1 ∨ 8 < l.length) || !decide (isN n)) := by
    by_cases a1 : l.length < 1 ∨ 8 < l.length
    · rw [decide_eq_true a1, decide_eq_true (show bad0 l n by unfold bad0; omega)]; rfl
    · rw [decide_eq_false a1, Bool.false_or]
      by_cases a2 : isN n
      · rw [decide_eq_true a2, decide_eq_false (show ¬ bad0 l n by unfold bad0; unfold isN at a2; omega)]; rfl
      · rw [decide_eq_false a2, decide_eq_true (show bad0 l n by unfold bad0; unfold isN at a2; omega)]; rfl
  unfold askP askR pathE offB
  rw [e]
  generalize decide (l.length < 1 ∨ 8 < l.length) = A
  generalize dupTo l l.length = D
  generalize outB l = O
  by_cases hn : isN n <;> cases A <;> cases D <;> cases O <;> simp [hn]
/-- a call that both ask alike, and whose list is none too long to be copied -/
def Alike (d : Dq) : Prop := d.path.length ≤ 17592186044416 ∧ askP d.path d.n = askR d.path d.n
theorem zNew {W w : World} {B g : Nat} (h : C1 W w B g noC) : Calls Try.prog 9 #[] w fun e w' => ∃ R, e = .returned (.pointer (some ⟨R, 0, none⟩)) ∧ Z2 W w' B g R noC noC := by
  refine (rNew w).mono ?_
  rintro e w' ⟨R, rfl, h1, h2, h3⟩
  exact ⟨R, rfl, h.below h2, h1, CI.new, Nat.le_trans h.low.size h3⟩
set_option maxHeartbeats 8000000 in
set_option maxRecDepth 100000 in
theorem walkPlaysA (u : Value) (l : List Dq) (W : World) (hs : ShowD W u l) (hA : ∀ i, i < l.length → Alike (dq l i)) : Calls Try.prog 3 #[u] W fun e W' => e = .returned (.bool true) ∧ Below W.heap.size W W' := by
  obtain ⟨ao, cap, rfl, hcap, hat⟩ := hs
  have HAL := Lib.hid hA
  clear hA
  go_enter Try.func3, Try.ntmps3
  go_wp2_with fail
  refine (oNew _).mono ?_
  rintro e w1 ⟨B, g, rfl, h1⟩
  have H1 := Lib.hid h1
  clear h1
  go_wp2_with fail
  refine (zNew H1.out).mono ?_
  rintro e w2 ⟨R, rfl, h2⟩
  have H2 := Lib.hid h2
  clear h2 H1
  go_wp2
  go_loopw [5] (fun i wr => ∃ k : Nat, k ≤ l.length ∧ k ≤ 100 ∧ i = .int .i64 k ∧ Hid (∃ t, Z2 W wr B g R t t)) (fun i _ => l.length - (intOf i).toNat)
  case atStart => exact ⟨0, by omega, by omega, rfl, Lib.hid ⟨_, H2.out⟩⟩
  case round =>
    clear H2
    obtain ⟨k, hk, hk100, rfl, HS⟩ := hrel
    obtain ⟨t, ht⟩ := HS.out
    have HT := Lib.hid ht
    clear ht HS
    by_cases hlt : k < l.length
    · by_cases hlt2 : k < 100
      · obtain ⟨b1, o1, p, rfl, hcall⟩ := hat k hlt
        have d0 := cell_keep HT.out.o.low hcall.k
        have d1 := cell_keep HT.out.o.low hcall.a
        have d2 := cell_keep HT.out.o.low hcall.n
        have d3 := cell_keep HT.out.o.low hcall.q
        have HP := Lib.hid hcall.l
        have HAK := Lib.hid (HAL.out k hlt)
        unfold Alike at HAK
        clear hcall
        generalize (dq l k).kind = kd at d0
        generalize (dq l k).a = x at d1
        generalize (dq l k).n = n at d2 HAK
        generalize (dq l k).path = pl at HP HAK
        obtain ⟨pa, pcap, rfl, _⟩ := HP.out.form
        have hpl := HAK.out.1
        obtain ⟨plen, hplen⟩ : ∃ m, pl.length = m := ⟨_, rfl⟩
        rw [hplen] at d3 HP
        clear hplen hpl
        go_wp2_with fail
        refine (cStep HT.out HP.out HAK.out.1 HAK.out.2).mono ?_
        rintro e w3 ⟨rfl, t', h3⟩
        have H3 := Lib.hid h3
        clear h3 d0 d1 d2 d3
        go_wp2
        try simp only [show decide ((k : Int) < 100) = true from decide_eq_true (by omega)]
        go_loopw [6] (fun i wr => ∃ j : Nat, j ≤ 20 ∧ i = .int .i64 ((j : Int) - 1) ∧ Hid (Z2 W wr B g R t' t')) (fun i _ => 20 - (intOf i + 1).toNat)
        case atStart => exact ⟨0, by omega, by first | rfl | go_num, H3⟩
        case round =>
          clear H3
          obtain ⟨j, hj, rfl, HZ⟩ := hrel
          obtain ⟨y, hy⟩ : ∃ y, (j : Int) - 1 = y := ⟨_, rfl⟩
          rw [hy]
          obtain ⟨U, hU⟩ : ∃ U, usedF t' y = U := ⟨_, rfl⟩
          have HUU := Lib.hid hU
          obtain ⟨M, hM⟩ : ∃ M, mostF t' y = M := ⟨_, rfl⟩
          have HMM := Lib.hid hM
          have hne1 : (U != U) = false := by simp
          have hne2 : (M != M) = false := by simp
          clear hU hM
          by_cases hj20 : j < 20
          · have hy19 : y < 19 := by omega
            go_wp2_with (first
              | (go_at_call 11; refine (cUsed HZ.out.o.cv _ _ HUU.out).mono ?_; rintro e wa ⟨rfl, rfl⟩)
              | (go_at_call 12; refine (rUsed HZ.out.r _ _ HUU.out).mono ?_; rintro e wa ⟨rfl, rfl⟩)
              | (go_at_call 13; refine (cMost HZ.out.o.cv _ _ HMM.out).mono ?_; rintro e wa ⟨rfl, rfl⟩)
              | (go_at_call 14; refine (rMost HZ.out.r _ _ HMM.out).mono ?_; rintro e wa ⟨rfl, rfl⟩))
            go_roundw
            case rel => exact ⟨j + 1, by omega, by rw [← hy]; go_num, HZ⟩
            case measure => simp [intOf]; omega
          · have hy19 : y = 19 := by omega
            subst hy19
            go_wp2
            go_roundw
            case rel => exact ⟨k + 1, by omega, by omega, by go_num, Lib.hid ⟨_, HZ.out⟩⟩
            case measure => simp [intOf]; omega
      · obtain rfl : k = 100 := by omega
        rw [show ((100 : Nat) : Int) = 100 from rfl]
        go_wp2_with fail
        refine (works _).mono ?_
        rintro e w4 ⟨rfl, hb⟩
        have HB4 := Lib.hid (below_then HT.out.o.low hb)
        clear hb
        go_wp2
        go_ret
        exact ⟨rfl, HB4.out⟩
    · obtain rfl : k = l.length := by omega
      go_wp2_with fail
      refine (works _).mono ?_
      rintro e w4 ⟨rfl, hb⟩
      have HB4 := Lib.hid (below_then HT.out.o.low hb)
      clear hb
      go_wp2
      go_ret
      exact ⟨rfl, HB4.out⟩
end Go.Proofs.Ytahkfagfobfliaa
