/-
  The law StockPlays, walked.
-/
import Derived.Test.YthjonjkeaiobdaaTwo
set_option linter.unusedVariables false
set_option linter.unusedSimpArgs false
namespace Go.Proofs.Ythjonjkeaiobdaa
open Go Go.RowKit

theorem zNew {W w : World} {B r c : Nat} (h1 : 1 ≤ c) (h2 : c ≤ 8) (h : S1 W w B r c noS) : Calls Try.prog 8 #[.int .i64 c] w fun e w' => ∃ R q, e = .returned (.tuple #[.pointer (some ⟨R, 0, none⟩), .int .i64 0]) ∧ Z2 W w' B r R q c noS noS := by
  refine (rNew c h1 h2 w).mono ?_
  rintro e w' ⟨R, q, rfl, h3, h4, h5, h6⟩
  exact ⟨R, q, rfl, h.below h4, h3, SI.new c, Nat.le_trans h.low.size h5, Nat.le_trans h.low.size h6⟩
set_option maxHeartbeats 8000000 in
set_option maxRecDepth 100000 in
theorem walkPlays (x : Int) (u : Value) (l : List Qd) (W : World) (hs : ShowD W u l) : Calls Try.prog 3 #[.int .i64 x, u] W fun e W' => e = .returned (.bool true) ∧ Below W.heap.size W W' := by
  obtain ⟨ao, cap, rfl, hcap, hat⟩ := hs.form
  clear hs
  by_cases hx : 1 ≤ x ∧ x ≤ 8
  · obtain ⟨c, rfl⟩ : ∃ c : Nat, x = (c : Int) := ⟨x.toNat, by omega⟩
    have hc1 : 1 ≤ c := by omega
    have hc2 : c ≤ 8 := by omega
    clear hx
    go_enter Try.func3, Try.ntmps3
    go_wp2_with fail
    refine (oNew c hc1 hc2 _).mono ?_
    rintro e w1 ⟨B, r, rfl, h1⟩
    have H1 := Lib.hid h1
    clear h1
    go_wp2_with fail
    refine (zNew hc1 hc2 H1.out).mono ?_
    rintro e w2 ⟨R, q, rfl, h2⟩
    have H2 := Lib.hid h2
    clear h2 H1
    go_wp2
    go_loopw [9] (fun i wr => ∃ k : Nat, k ≤ l.length ∧ k ≤ 100 ∧ i = .int .i64 k ∧ Hid (∃ t, Z2 W wr B r R q c t t)) (fun i _ => l.length - (intOf i).toNat)
    case atStart => exact ⟨0, by omega, by omega, rfl, Lib.hid ⟨_, H2.out⟩⟩
    case round =>
      clear H2
      obtain ⟨k, hk, hk100, rfl, HS⟩ := hrel
      obtain ⟨t, ht⟩ := HS.out
      have HT := Lib.hid ht
      clear ht HS
      by_cases hlt : k < l.length
      · by_cases hlt2 : k < 100
        · obtain ⟨b1, o1, rfl, d0, d1, d2, d3⟩ := hat k hlt
          replace d0 := cell_keep HT.out.o.low d0
          replace d1 := cell_keep HT.out.o.low d1
          replace d2 := cell_keep HT.out.o.low d2
          replace d3 := cell_keep HT.out.o.low d3
          generalize (qd l k).kind = kd at d0
          generalize (qd l k).cpu = xx at d1
          generalize (qd l k).a = g at d2
          generalize (qd l k).b = n at d3
          go_wp2_with fail
          refine (cStep HT.out).mono ?_
          rintro e w3 ⟨rfl, t', h3⟩
          have H3 := Lib.hid h3
          clear h3 d0 d1 d2 d3 HT
          go_wp2
          try simp only [show decide ((k : Int) < 100) = true from decide_eq_true (by omega)]
          go_loopw [10] (fun i wr => ∃ j : Nat, j ≤ 19 ∧ i = .int .i64 ((j : Int) - 1) ∧ Hid (Z2 W wr B r R q c t' t')) (fun i _ => 20 - (intOf i + 1).toNat)
          case atStart => exact ⟨0, by omega, by first | rfl | go_num, H3⟩
          case round =>
            clear H3
            obtain ⟨j, hj, rfl, HZ⟩ := hrel
            obtain ⟨y, hy⟩ : ∃ y, (j : Int) - 1 = y := ⟨_, rfl⟩
            rw [hy]
            obtain ⟨G, hG⟩ : ∃ G, hasG c t' y = G := ⟨_, rfl⟩
            have HGG := Lib.hid hG
            obtain ⟨N, hN⟩ : ∃ N, hasN c t' y = N := ⟨_, rfl⟩
            have HNN := Lib.hid hN
            obtain ⟨H, hH⟩ : ∃ H, held t' y c = H := ⟨_, rfl⟩
            have HHH := Lib.hid hH
            have hne1 : (G != G) = false := by simp
            have hne2 : (N != N) = false := by simp
            have hne3 : (H != H) = false := by simp
            clear hG hN hH
            by_cases hj19 : j < 19
            · have hy18 : y < 18 := by omega
              go_wp2_with fail
              refine (cHas HZ.out.o.sv _ _ _ HGG.out HNN.out).mono ?_
              rintro e w4 ⟨rfl, b4⟩
              have HZ4 := Lib.hid (HZ.out.below b4)
              clear b4 HZ
              go_wp2_with fail
              refine (rHas HZ4.out.v _ _ _ HGG.out HNN.out).mono ?_
              rintro e w5 ⟨rfl, b5⟩
              have HZ5 := Lib.hid (HZ4.out.below b5)
              clear b5 HZ4
              go_wp2_with fail
              refine (cHeld HZ5.out.o.sv HZ5.out.o.si _ _ HHH.out).mono ?_
              rintro e w6 ⟨rfl, b6⟩
              have HZ6 := Lib.hid (HZ5.out.below b6)
              clear b6 HZ5
              go_wp2_with fail
              refine (rHeld HZ6.out.v HZ6.out.si _ _ HHH.out).mono ?_
              rintro e w7 ⟨rfl, b7⟩
              have HZ7 := Lib.hid (HZ6.out.below b7)
              clear b7 HZ6
              go_wp2
              go_roundw
              case rel => exact ⟨j + 1, by omega, by rw [← hy]; go_num, HZ7⟩
              case measure => simp [intOf]; omega
            · have hy18 : y = 18 := by omega
              subst hy18
              go_wp2
              go_roundw
              case rel => exact ⟨k + 1, by omega, by omega, by go_num, Lib.hid ⟨_, HZ.out⟩⟩
              case measure => simp [intOf]; omega
        · obtain rfl : k = 100 := by omega
          rw [show ((100 : Nat) : Int) = 100 from rfl]
          go_wp2_with fail
          refine (works _).mono ?_
          rintro e w4 ⟨rfl, hb⟩
          have HB4 := Lib.hid (below_then HT.out.o.low hb)
          clear hb
          go_wp2
          go_ret
          exact ⟨rfl, HB4.out⟩
      · obtain rfl : k = l.length := by omega
        go_wp2_with fail
        refine (works _).mono ?_
        rintro e w4 ⟨rfl, hb⟩
        have HB4 := Lib.hid (below_then HT.out.o.low hb)
        clear hb
        go_wp2
        go_ret
        exact ⟨rfl, HB4.out⟩
  · have HX := Lib.hid hx
    clear hx
    go_enter Try.func3, Try.ntmps3
    go_wp2_with fail
    refine (cNewNo x HX.out _).mono ?_
    rintro e w1 ⟨rfl, rfl⟩
    go_wp2_with fail
    refine (rNewNo x HX.out _).mono ?_
    rintro e w2 ⟨rfl, rfl⟩
    by_cases hl : l.length = 0
    · have hl0 : ((0 : Int) < (l.length : Int)) = False := by simp [hl]
      obtain ⟨L, hL⟩ : ∃ L, l.length = L := ⟨_, rfl⟩
      rw [hL] at hl hl0 hcap ⊢
      subst hl
      clear hat hL
      go_wp2
      go_loopw [9] (fun i wr => i = .int .i64 0 ∧ wr = w2) (fun i _ => 0)
      case atStart => exact ⟨rfl, rfl⟩
      case round =>
        obtain ⟨rfl, rfl⟩ := hrel
        go_wp2_with fail
        refine (works _).mono ?_
        rintro e w4 ⟨rfl, hb⟩
        have HB4 := Lib.hid hb
        clear hb
        go_wp2
        go_ret
        exact ⟨rfl, HB4.out⟩
    · have hl0 : (0 : Int) < (l.length : Int) := by omega
      clear hat
      go_wp2
      go_loopw [9] (fun i wr => i = .int .i64 0 ∧ wr = w2) (fun i _ => 0)
      case atStart => exact ⟨rfl, rfl⟩
      case round =>
        obtain ⟨rfl, rfl⟩ := hrel
        go_wp2_with fail
        refine (works _).mono ?_
        rintro e w4 ⟨rfl, hb⟩
        have HB4 := Lib.hid hb
        clear hb
        go_wp2
        go_ret
        exact ⟨rfl, HB4.out⟩
end Go.Proofs.Ythjonjkeaiobdaa
