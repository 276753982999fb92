/-
  The law StockSums, walked.
-/
import Derived.Test.YthjonjkeaiobdaaArr
set_option linter.unusedVariables false
set_option linter.unusedSimpArgs false
namespace Go.Proofs.Ythjonjkeaiobdaa
open Go Go.RowKit

/-- the array tells what is held -/
def Tells (t : Sk) (own : Nat → Int) : Prop := ∀ j : Nat, j < 17 → own j = held t j 3
theorem Tells.new : Tells noS (fun _ => 0) := fun j _ => by
  have h : ∀ m, held noS j m = 0 := by
    intro m
    induction m with
    | zero => rfl
    | succ m ih => rw [held_step, ih]; split <;> rfl
  exact (h 3).symm
theorem Tells.take {t t' : Sk} {own : Nat → Int} {z : Nat} {n : Int} (h : Tells t own) (hb : ∀ y, held t' y 3 = held t y 3 - (if (z : Int) = y then n else 0)) : Tells t' (updI own z (own z - n)) := fun j hj => by
  rw [hb, ← h j hj]
  unfold updI
  by_cases e : j = z
  · subst e; rw [if_pos rfl, if_pos rfl]
  · rw [if_neg e, if_neg (by omega)]; omega
theorem Tells.put {t t' : Sk} {own : Nat → Int} {z a : Nat} {n b : Int} (h : Tells t own) (hb : ∀ y, held t' y 3 = held t y 3 + (if (z : Int) = y then n else 0) - (if (a : Int) = y then b else 0)) : Tells t' (updI (updI own z (own z + n)) a (updI own z (own z + n) a - b)) := fun j hj => by
  rw [hb, ← h j hj]
  unfold updI
  by_cases e : j = a
  · subst e
    by_cases e2 : j = z
    · subst e2; rw [if_pos rfl, if_pos rfl, if_pos rfl]; simp
    · rw [if_pos rfl, if_neg e2, if_neg (by omega), if_pos rfl]; omega
  · by_cases e2 : j = z
    · subst e2; rw [if_neg e, if_pos rfl, if_pos rfl, if_neg (by omega)]; omega
    · rw [if_neg e, if_neg e2, if_neg (by omega), if_neg (by omega)]; omega
theorem Tells.b {W w : World} {B r U : Nat} {t : Sk} {fu : Nat → Value} {own : Nat → Int} (h : Tells t own) (hu : UK W w B r 3 t U fu) {j : Nat} (hj : j < 17) : 0 ≤ own j ∧ own j ≤ 3072 := by
  rw [h j hj]
  have := held_bounds hu.o.si j (Nat.le_refl 3)
  omega
set_option maxHeartbeats 16000000 in
set_option maxRecDepth 100000 in
theorem walkSums (u : Value) (l : List Qd) (W : World) (hs : ShowD W u l) : Calls Try.prog 4 #[u] W fun e W' => e = .returned (.bool true) ∧ Below W.heap.size W W' := by
  obtain ⟨ao, cap, rfl, hcap, hat⟩ := hs.form
  obtain ⟨ZN, hzeroN, hZN⟩ := makeN
  have HZN := Lib.hid hZN
  clear hZN hs
  go_enter Try.func4, Try.ntmps4
  go_wp2_with fail
  refine (works _).mono ?_
  rintro e w0 ⟨rfl, hb0⟩
  have HB0 := Lib.hid hb0
  clear hb0
  go_wp2_with fail
  refine (oNew 3 (by decide) (by decide) _).mono ?_
  rintro e w1 ⟨B, r, rfl, h1⟩
  have h1 := h1.lower HB0.out
  have HU0 : Hid (UK W (w1.alloc (.cells ZN 38)) B r 3 noS w1.heap.size (ownF fun _ => 0)) := Lib.hid ⟨h1.alloc _, HZN.out w1, h1.low.size⟩
  clear h1 HB0
  go_wp2
  obtain ⟨U, hU⟩ : ∃ U, w1.heap.size = U := ⟨_, rfl⟩
  obtain ⟨w2, hw2⟩ : ∃ w2, w1.alloc (.cells ZN 38) = w2 := ⟨_, rfl⟩
  rw [hw2, hU] at HU0
  simp only [hw2, hU]
  clear hw2 hU
  go_loopw [6] (fun i wr => ∃ k : Nat, k ≤ l.length ∧ k ≤ 150 ∧ i = .int .i64 k ∧ Hid (∃ t own, UK W wr B r 3 t U (ownF own) ∧ Tells t own)) (fun i _ => l.length - (intOf i).toNat)
  case atStart => exact ⟨0, by omega, by omega, rfl, Lib.hid ⟨_, _, HU0.out, Tells.new⟩⟩
  case round =>
    clear HU0
    obtain ⟨k, hk, hk150, rfl, HS⟩ := hrel
    obtain ⟨t, own, ht, hsum⟩ := HS.out
    have HT := Lib.hid ht
    have HI := Lib.hid hsum
    clear ht hsum HS
    by_cases hgo : k < l.length ∧ k < 150
    · obtain ⟨hlt, hlt2⟩ := hgo
      obtain ⟨b1, o1, rfl, d0, d1, d2, d3⟩ := hat k hlt
      replace d0 := cell_keep HT.out.o.low d0
      replace d1 := cell_keep HT.out.o.low d1
      replace d2 := cell_keep HT.out.o.low d2
      replace d3 := cell_keep HT.out.o.low d3
      generalize (qd l k).kind = kd at d0
      generalize (qd l k).cpu = x at d1
      generalize (qd l k).a = g at d2
      generalize (qd l k).b = n at d3
      obtain ⟨q, hq⟩ : ∃ q, bring kd 3 = q := ⟨_, rfl⟩
      have HQ := Lib.hid hq
      have hq3 : q < 3 := by rw [← hq]; exact bring_lt kd 3 (by decide)
      obtain ⟨y, hy⟩ : ∃ y, bring x 3 = y := ⟨_, rfl⟩
      have HY := Lib.hid hy
      have hy3 : y < 3 := by rw [← hy]; exact bring_lt x 3 (by decide)
      obtain ⟨z0, hz0⟩ : ∃ z, bring g 16 = z := ⟨_, rfl⟩
      have HZ := Lib.hid hz0
      have hz16 : z0 < 16 := by rw [← hz0]; exact bring_lt g 16 (by decide)
      obtain ⟨m, hm⟩ : ∃ m, bring n 3000 = m := ⟨_, rfl⟩
      have HM := Lib.hid hm
      have hm3 : m < 3000 := by rw [← hm]; exact bring_lt n 3000 (by decide)
      have HTA := Lib.hid (HT.out.below (below_one (Below.refl _ wr) (.cells #[.int .i64 kd, .int .i64 x, .int .i64 g, .int .i64 n] 32)))
      clear hq hy hz0 hm HT
      go_wp2_with fail
      refine (cBringN x 3 3 rfl (by decide) _).mono ?_
      rintro e wy ⟨rfl, rfl⟩
      rw [HY.out]
      go_wp2_with fail
      refine (cBringN g 16 16 rfl (by decide) _).mono ?_
      rintro e wy2 ⟨rfl, rfl⟩
      rw [HZ.out]
      obtain ⟨z, hz⟩ : ∃ z, z0 + 1 = z := ⟨_, rfl⟩
      have hz1 : 1 ≤ z ∧ z < 17 := by omega
      have hw1 : (1 + (z0 : Int)) = (z : Int) := by omega
      clear hz
      go_wp2_with fail
      refine (cBringN n 3000 3000 rfl (by decide) _).mono ?_
      rintro e wy3 ⟨rfl, rfl⟩
      rw [HM.out]
      go_wp2_with fail
      refine (cBringN kd 3 3 rfl (by decide) _).mono ?_
      rintro e wy4 ⟨rfl, rfl⟩
      rw [HQ.out]
      clear HQ HM HY HZ d0 d1 d2 d3 hw1
      generalize hWA : World.alloc _ _ = wA at HTA ⊢
      clear hWA
      rcases (by omega : q = 0 ∨ q = 1 ∨ q = 2) with rfl | rfl | rfl
      · obtain ⟨qq, t', hr⟩ := TakeIs.ex 3 t (y : Int) (z : Int) (m : Int)
        have HR := Lib.hid hr
        have HR2 := Lib.hid hr.bal
        clear hr
        go_wp2_with fail
        refine (oTake HTA.out.o HR.out).mono ?_
        rintro e w6 ⟨rfl, h6, k6⟩
        have H6 := Lib.hid (HTA.out.kt h6 k6)
        have HOLD := Lib.hid (fun (j : Nat) (hj : j < 17) => HI.out.b HTA.out hj)
        clear h6 k6 HTA HR
        rcases HR2.out with ⟨rfl, rfl⟩ | ⟨rfl, hbal⟩
        · clear HR2
          have H7 := H6
          have HI7 := HI
          obtain ⟨own', hown⟩ : ∃ o, own = o := ⟨_, rfl⟩
          rw [hown] at H7 HI7
          clear hown H6 HI
          go_wp2
          go_loopw [16, 17] (fun s i wr => ∃ (j : Nat) (S : Int), 1 ≤ j ∧ j ≤ 17 ∧ i = .int .i64 j ∧ s = .int .i64 S ∧ Hid (S = sumB t' 3 j) ∧ Hid (UK W wr B r 3 t' U (ownF own'))) (fun _ i _ => 17 - (intOf i).toNat)
          case atStart => exact ⟨1, 0, by omega, by omega, rfl, rfl, Lib.hid rfl, H7⟩
          case round =>
            clear H7
            obtain ⟨j, S, hj1, hj2, rfl, rfl, HSS, HU⟩ := hrel
            by_cases hj : j < 17
            · have cu := HU.out.cu hj
              unfold ownF at cu
              obtain ⟨Hh, hH⟩ : ∃ Hh, own' j = Hh := ⟨_, rfl⟩
              rw [hH] at cu
              have HHE : Hid (held t' j 3 = Hh) := Lib.hid (by rw [← HI7.out j hj]; exact hH)
              have hne : (Hh != Hh) = false := by simp
              have hb1 := held_bounds HU.out.o.si j (Nat.le_refl 3)
              rw [HHE.out] at hb1
              have hb2 := sumB_bounds HU.out.o.si j
              rw [← HSS.out] at hb2
              have hw : IntKind.i64.wrap (S + Hh) = S + Hh := IntWalk.i64_in _ (by omega)
              have HS2 : Hid (S + Hh = sumB t' 3 (j + 1)) := Lib.hid (by rw [sumB_step t' 3 hj1, HHE.out, HSS.out])
              clear hH HSS hb1 hb2
              go_wp2
              go_region_held3 (fun W' => W'.cell? ⟨U, j, none⟩ = some (.int .i64 Hh))
                (first | exact cell_keep (Below.drew (Below.refl _ _)) cu | exact cell_keep (show Below wr.heap.size wr _ from by assumption) cu)
                (first | (go_at_call 12; refine (oHeld HU.out.drew.o _ _ HHE.out).mono ?_; rintro e w8 ⟨rfl, h8, b8⟩; have hb9 : Below wr.heap.size wr w8 := below_then (Below.drew (Below.refl _ _)) b8))
              all_goals
                have H9 := Lib.hid (HU.out.below (show Below wr.heap.size wr _ from by assumption))
                replace cu := cell_keep (show Below wr.heap.size wr _ from by assumption) cu
                clear h8 b8 hb9
                go_wp2
                go_roundw
                case rel => exact ⟨j + 1, S + Hh, by omega, by omega, by go_num, rfl, HS2, H9⟩
                case measure => simp [intOf]; omega
            · obtain rfl : j = 17 := by omega
              rw [show ((17 : Nat) : Int) = 17 from rfl]
              have HST : Hid (S = tot t' 3 - tot t' 0) := Lib.hid (by rw [HSS.out, sumB_tot HU.out.o.si (Nat.le_refl 3)]; simp [tot])
              have HU1 := Lib.hid HU.out
              clear HSS HU
              go_wp2
              go_loopw [16, 18] (fun s i wr => ∃ (j : Nat) (S : Int), j ≤ 3 ∧ i = .int .i64 j ∧ s = .int .i64 S ∧ Hid (S = tot t' 3 - tot t' j) ∧ Hid (UK W wr B r 3 t' U (ownF own'))) (fun _ i _ => 3 - (intOf i).toNat)
              case atStart => exact ⟨0, S, by omega, rfl, rfl, HST, HU1⟩
              case round =>
                clear HU1 HST
                obtain ⟨j, S, hj3, rfl, rfl, HSS, HU⟩ := hrel
                by_cases hj : j < 3
                · have hok := HU.out.o.si j hj
                  have HGG := Lib.hid (hasG_at t' hj)
                  have HNN := Lib.hid (hasN_at t' hj)
                  have hb2 := tot_bounds HU.out.o.si (Nat.le_refl 3)
                  have hb3 := tot_bounds HU.out.o.si (show j ≤ 3 by omega)
                  have hts := tot_step t' j
                  have hSS := HSS.out
                  generalize t'.g j = G at HGG hok
                  generalize t'.n j = N at HNN hok hts
                  have hbN := okS.b hok
                  have hw : IntKind.i64.wrap (S - N) = S - N := IntWalk.i64_in _ (by omega)
                  have HS2 : Hid (S - N = tot t' 3 - tot t' (j + 1)) := Lib.hid (by omega)
                  have hn1 : ¬ N < 0 := by omega
                  have hn2 : ¬ 1024 < N := by omega
                  clear hb2 hb3 hts hSS HSS hbN
                  go_wp2_with fail
                  refine (oHas HU.out.o j G N HGG.out HNN.out).mono ?_
                  rintro e w8 ⟨rfl, h8, b8⟩
                  have H9 := Lib.hid (HU.out.below b8)
                  clear h8 b8 HU HGG HNN
                  by_cases hN : N = 0
                  · have hG : G = 0 := by unfold okS at hok; omega
                    have hq1 : (N == 0) = true := by simp [hN]
                    have hq2 : (G == 0) = true := by simp [hG]
                    clear hok hN hG
                    go_wp2
                    go_roundw
                    case rel => exact ⟨j + 1, S - N, by omega, by go_num, rfl, HS2, H9⟩
                    case measure => simp [intOf]; omega
                  · have hG : ¬ G = 0 := by unfold okS isG at hok; omega
                    have hq1 : (N == 0) = false := by simp [hN]
                    have hq2 : (G == 0) = false := by simp [hG]
                    clear hok hN hG
                    go_wp2
                    go_roundw
                    case rel => exact ⟨j + 1, S - N, by omega, by go_num, rfl, HS2, H9⟩
                    case measure => simp [intOf]; omega
                · obtain rfl : j = 3 := by omega
                  obtain rfl : S = 0 := by rw [HSS.out]; omega
                  have cu := HU.out.cu (show 0 < 17 by decide)
                  unfold ownF at cu
                  rw [HI7.out 0 (by decide), show ((0 : Nat) : Int) = 0 from rfl, held_zero HU.out.o.si (Nat.le_refl 3)] at cu
                  rw [show ((3 : Nat) : Int) = 3 from rfl]
                  go_wp2
                  go_roundw
                  case rel => exact ⟨k + 1, by omega, by omega, by go_num, Lib.hid ⟨_, _, HU.out, HI7.out⟩⟩
                  case measure => simp [intOf]; omega
        · clear HR2
          have cu := H6.out.cu hz1.2
          unfold ownF at cu
          have fu := H6.out.u.frozen z
          have hb := HOLD.out _ hz1.2
          have hwr : IntKind.i64.wrap (own z - (m : Int)) = own z - (m : Int) := IntWalk.i64_in _ (by omega)
          have H7 := Lib.hid (H6.out.setU z _ (ownF_upd own z (own z - (m : Int))))
          have HI7 := Lib.hid (HI.out.take hbal)
          generalize own z = O at cu hwr H7 HI7 hb
          generalize updI own z (O - (m : Int)) = own' at H7 HI7
          clear hb hbal H6 HI
          go_wp2
          go_loopw [16, 17] (fun s i wr => ∃ (j : Nat) (S : Int), 1 ≤ j ∧ j ≤ 17 ∧ i = .int .i64 j ∧ s = .int .i64 S ∧ Hid (S = sumB t' 3 j) ∧ Hid (UK W wr B r 3 t' U (ownF own'))) (fun _ i _ => 17 - (intOf i).toNat)
          case atStart => exact ⟨1, 0, by omega, by omega, rfl, rfl, Lib.hid rfl, H7⟩
          case round =>
            clear H7
            obtain ⟨j, S, hj1, hj2, rfl, rfl, HSS, HU⟩ := hrel
            by_cases hj : j < 17
            · have cu := HU.out.cu hj
              unfold ownF at cu
              obtain ⟨Hh, hH⟩ : ∃ Hh, own' j = Hh := ⟨_, rfl⟩
              rw [hH] at cu
              have HHE : Hid (held t' j 3 = Hh) := Lib.hid (by rw [← HI7.out j hj]; exact hH)
              have hne : (Hh != Hh) = false := by simp
              have hb1 := held_bounds HU.out.o.si j (Nat.le_refl 3)
              rw [HHE.out] at hb1
              have hb2 := sumB_bounds HU.out.o.si j
              rw [← HSS.out] at hb2
              have hw : IntKind.i64.wrap (S + Hh) = S + Hh := IntWalk.i64_in _ (by omega)
              have HS2 : Hid (S + Hh = sumB t' 3 (j + 1)) := Lib.hid (by rw [sumB_step t' 3 hj1, HHE.out, HSS.out])
              clear hH HSS hb1 hb2
              go_wp2
              go_region_held3 (fun W' => W'.cell? ⟨U, j, none⟩ = some (.int .i64 Hh))
                (first | exact cell_keep (Below.drew (Below.refl _ _)) cu | exact cell_keep (show Below wr.heap.size wr _ from by assumption) cu)
                (first | (go_at_call 12; refine (oHeld HU.out.drew.o _ _ HHE.out).mono ?_; rintro e w8 ⟨rfl, h8, b8⟩; have hb9 : Below wr.heap.size wr w8 := below_then (Below.drew (Below.refl _ _)) b8))
              all_goals
                have H9 := Lib.hid (HU.out.below (show Below wr.heap.size wr _ from by assumption))
                replace cu := cell_keep (show Below wr.heap.size wr _ from by assumption) cu
                clear h8 b8 hb9
                go_wp2
                go_roundw
                case rel => exact ⟨j + 1, S + Hh, by omega, by omega, by go_num, rfl, HS2, H9⟩
                case measure => simp [intOf]; omega
            · obtain rfl : j = 17 := by omega
              rw [show ((17 : Nat) : Int) = 17 from rfl]
              have HST : Hid (S = tot t' 3 - tot t' 0) := Lib.hid (by rw [HSS.out, sumB_tot HU.out.o.si (Nat.le_refl 3)]; simp [tot])
              have HU1 := Lib.hid HU.out
              clear HSS HU
              go_wp2
              go_loopw [16, 18] (fun s i wr => ∃ (j : Nat) (S : Int), j ≤ 3 ∧ i = .int .i64 j ∧ s = .int .i64 S ∧ Hid (S = tot t' 3 - tot t' j) ∧ Hid (UK W wr B r 3 t' U (ownF own'))) (fun _ i _ => 3 - (intOf i).toNat)
              case atStart => exact ⟨0, S, by omega, rfl, rfl, HST, HU1⟩
              case round =>
                clear HU1 HST
                obtain ⟨j, S, hj3, rfl, rfl, HSS, HU⟩ := hrel
                by_cases hj : j < 3
                · have hok := HU.out.o.si j hj
                  have HGG := Lib.hid (hasG_at t' hj)
                  have HNN := Lib.hid (hasN_at t' hj)
                  have hb2 := tot_bounds HU.out.o.si (Nat.le_refl 3)
                  have hb3 := tot_bounds HU.out.o.si (show j ≤ 3 by omega)
                  have hts := tot_step t' j
                  have hSS := HSS.out
                  generalize t'.g j = G at HGG hok
                  generalize t'.n j = N at HNN hok hts
                  have hbN := okS.b hok
                  have hw : IntKind.i64.wrap (S - N) = S - N := IntWalk.i64_in _ (by omega)
                  have HS2 : Hid (S - N = tot t' 3 - tot t' (j + 1)) := Lib.hid (by omega)
                  have hn1 : ¬ N < 0 := by omega
                  have hn2 : ¬ 1024 < N := by omega
                  clear hb2 hb3 hts hSS HSS hbN
                  go_wp2_with fail
                  refine (oHas HU.out.o j G N HGG.out HNN.out).mono ?_
                  rintro e w8 ⟨rfl, h8, b8⟩
                  have H9 := Lib.hid (HU.out.below b8)
                  clear h8 b8 HU HGG HNN
                  by_cases hN : N = 0
                  · have hG : G = 0 := by unfold okS at hok; omega
                    have hq1 : (N == 0) = true := by simp [hN]
                    have hq2 : (G == 0) = true := by simp [hG]
                    clear hok hN hG
                    go_wp2
                    go_roundw
                    case rel => exact ⟨j + 1, S - N, by omega, by go_num, rfl, HS2, H9⟩
                    case measure => simp [intOf]; omega
                  · have hG : ¬ G = 0 := by unfold okS isG at hok; omega
                    have hq1 : (N == 0) = false := by simp [hN]
                    have hq2 : (G == 0) = false := by simp [hG]
                    clear hok hN hG
                    go_wp2
                    go_roundw
                    case rel => exact ⟨j + 1, S - N, by omega, by go_num, rfl, HS2, H9⟩
                    case measure => simp [intOf]; omega
                · obtain rfl : j = 3 := by omega
                  obtain rfl : S = 0 := by rw [HSS.out]; omega
                  have cu := HU.out.cu (show 0 < 17 by decide)
                  unfold ownF at cu
                  rw [HI7.out 0 (by decide), show ((0 : Nat) : Int) = 0 from rfl, held_zero HU.out.o.si (Nat.le_refl 3)] at cu
                  rw [show ((3 : Nat) : Int) = 3 from rfl]
                  go_wp2
                  go_roundw
                  case rel => exact ⟨k + 1, by omega, by omega, by go_num, Lib.hid ⟨_, _, HU.out, HI7.out⟩⟩
                  case measure => simp [intOf]; omega
      · obtain ⟨ra, rb, er, t', hr⟩ := PutIs.ex HTA.out.o.si (y : Int) (z : Int) (m : Int)
        have HR := Lib.hid hr
        have HR2 := Lib.hid (hr.bal HTA.out.o.si)
        clear hr
        go_wp2_with fail
        refine (oPut HTA.out.o HR.out).mono ?_
        rintro e w6 ⟨rfl, h6, k6⟩
        have H6 := Lib.hid (HTA.out.kt h6 k6)
        have HOLD := Lib.hid (fun (j : Nat) (hj : j < 17) => HI.out.b HTA.out hj)
        clear h6 k6 HTA HR
        rcases HR2.out with ⟨hne0, rfl⟩ | ⟨rfl, ⟨za, rfl, hza⟩, hrb, hbal⟩
        · clear HR2
          have hqe : (er == 0) = false := by simp [hne0]
          have H7 := H6
          have HI7 := HI
          obtain ⟨own', hown⟩ : ∃ o, own = o := ⟨_, rfl⟩
          rw [hown] at H7 HI7
          clear hown H6 HI hne0
          go_wp2
          go_loopw [16, 17] (fun s i wr => ∃ (j : Nat) (S : Int), 1 ≤ j ∧ j ≤ 17 ∧ i = .int .i64 j ∧ s = .int .i64 S ∧ Hid (S = sumB t' 3 j) ∧ Hid (UK W wr B r 3 t' U (ownF own'))) (fun _ i _ => 17 - (intOf i).toNat)
          case atStart => exact ⟨1, 0, by omega, by omega, rfl, rfl, Lib.hid rfl, H7⟩
          case round =>
            clear H7
            obtain ⟨j, S, hj1, hj2, rfl, rfl, HSS, HU⟩ := hrel
            by_cases hj : j < 17
            · have cu := HU.out.cu hj
              unfold ownF at cu
              obtain ⟨Hh, hH⟩ : ∃ Hh, own' j = Hh := ⟨_, rfl⟩
              rw [hH] at cu
              have HHE : Hid (held t' j 3 = Hh) := Lib.hid (by rw [← HI7.out j hj]; exact hH)
              have hne : (Hh != Hh) = false := by simp
              have hb1 := held_bounds HU.out.o.si j (Nat.le_refl 3)
              rw [HHE.out] at hb1
              have hb2 := sumB_bounds HU.out.o.si j
              rw [← HSS.out] at hb2
              have hw : IntKind.i64.wrap (S + Hh) = S + Hh := IntWalk.i64_in _ (by omega)
              have HS2 : Hid (S + Hh = sumB t' 3 (j + 1)) := Lib.hid (by rw [sumB_step t' 3 hj1, HHE.out, HSS.out])
              clear hH HSS hb1 hb2
              go_wp2
              go_region_held3 (fun W' => W'.cell? ⟨U, j, none⟩ = some (.int .i64 Hh))
                (first | exact cell_keep (Below.drew (Below.refl _ _)) cu | exact cell_keep (show Below wr.heap.size wr _ from by assumption) cu)
                (first | (go_at_call 12; refine (oHeld HU.out.drew.o _ _ HHE.out).mono ?_; rintro e w8 ⟨rfl, h8, b8⟩; have hb9 : Below wr.heap.size wr w8 := below_then (Below.drew (Below.refl _ _)) b8))
              all_goals
                have H9 := Lib.hid (HU.out.below (show Below wr.heap.size wr _ from by assumption))
                replace cu := cell_keep (show Below wr.heap.size wr _ from by assumption) cu
                clear h8 b8 hb9
                go_wp2
                go_roundw
                case rel => exact ⟨j + 1, S + Hh, by omega, by omega, by go_num, rfl, HS2, H9⟩
                case measure => simp [intOf]; omega
            · obtain rfl : j = 17 := by omega
              rw [show ((17 : Nat) : Int) = 17 from rfl]
              have HST : Hid (S = tot t' 3 - tot t' 0) := Lib.hid (by rw [HSS.out, sumB_tot HU.out.o.si (Nat.le_refl 3)]; simp [tot])
              have HU1 := Lib.hid HU.out
              clear HSS HU
              go_wp2
              go_loopw [16, 18] (fun s i wr => ∃ (j : Nat) (S : Int), j ≤ 3 ∧ i = .int .i64 j ∧ s = .int .i64 S ∧ Hid (S = tot t' 3 - tot t' j) ∧ Hid (UK W wr B r 3 t' U (ownF own'))) (fun _ i _ => 3 - (intOf i).toNat)
              case atStart => exact ⟨0, S, by omega, rfl, rfl, HST, HU1⟩
              case round =>
                clear HU1 HST
                obtain ⟨j, S, hj3, rfl, rfl, HSS, HU⟩ := hrel
                by_cases hj : j < 3
                · have hok := HU.out.o.si j hj
                  have HGG := Lib.hid (hasG_at t' hj)
                  have HNN := Lib.hid (hasN_at t' hj)
                  have hb2 := tot_bounds HU.out.o.si (Nat.le_refl 3)
                  have hb3 := tot_bounds HU.out.o.si (show j ≤ 3 by omega)
                  have hts := tot_step t' j
                  have hSS := HSS.out
                  generalize t'.g j = G at HGG hok
                  generalize t'.n j = N at HNN hok hts
                  have hbN := okS.b hok
                  have hw : IntKind.i64.wrap (S - N) = S - N := IntWalk.i64_in _ (by omega)
                  have HS2 : Hid (S - N = tot t' 3 - tot t' (j + 1)) := Lib.hid (by omega)
                  have hn1 : ¬ N < 0 := by omega
                  have hn2 : ¬ 1024 < N := by omega
                  clear hb2 hb3 hts hSS HSS hbN
                  go_wp2_with fail
                  refine (oHas HU.out.o j G N HGG.out HNN.out).mono ?_
                  rintro e w8 ⟨rfl, h8, b8⟩
                  have H9 := Lib.hid (HU.out.below b8)
                  clear h8 b8 HU HGG HNN
                  by_cases hN : N = 0
                  · have hG : G = 0 := by unfold okS at hok; omega
                    have hq1 : (N == 0) = true := by simp [hN]
                    have hq2 : (G == 0) = true := by simp [hG]
                    clear hok hN hG
                    go_wp2
                    go_roundw
                    case rel => exact ⟨j + 1, S - N, by omega, by go_num, rfl, HS2, H9⟩
                    case measure => simp [intOf]; omega
                  · have hG : ¬ G = 0 := by unfold okS isG at hok; omega
                    have hq1 : (N == 0) = false := by simp [hN]
                    have hq2 : (G == 0) = false := by simp [hG]
                    clear hok hN hG
                    go_wp2
                    go_roundw
                    case rel => exact ⟨j + 1, S - N, by omega, by go_num, rfl, HS2, H9⟩
                    case measure => simp [intOf]; omega
                · obtain rfl : j = 3 := by omega
                  obtain rfl : S = 0 := by rw [HSS.out]; omega
                  have cu := HU.out.cu (show 0 < 17 by decide)
                  unfold ownF at cu
                  rw [HI7.out 0 (by decide), show ((0 : Nat) : Int) = 0 from rfl, held_zero HU.out.o.si (Nat.le_refl 3)] at cu
                  rw [show ((3 : Nat) : Int) = 3 from rfl]
                  go_wp2
                  go_roundw
                  case rel => exact ⟨k + 1, by omega, by omega, by go_num, Lib.hid ⟨_, _, HU.out, HI7.out⟩⟩
                  case measure => simp [intOf]; omega
        · clear HR2
          have cu := H6.out.cu hz1.2
          unfold ownF at cu
          have fu := H6.out.u.frozen z
          have hb := HOLD.out _ hz1.2
          have hwr : IntKind.i64.wrap (own z + (m : Int)) = own z + (m : Int) := IntWalk.i64_in _ (by omega)
          have H7 := Lib.hid (H6.out.setU z _ (ownF_upd own z (own z + (m : Int))))
          have HI7 := Lib.hid (HI.out.put hbal)
          have hb2 : -10000 ≤ updI own z (own z + (m : Int)) za ∧ updI own z (own z + (m : Int)) za ≤ 10000 := by
            have h1 := HOLD.out _ hza
            unfold updI
            split <;> omega
          generalize own z = O at cu hwr H7 HI7 hb hb2
          generalize updI own z (O + (m : Int)) = own1 at H7 HI7 hb2
          clear hb hbal H6 HI HOLD
          go_wp2_with fail
          have cu1 := H7.out.cu hza
          unfold ownF at cu1
          have fu1 := H7.out.u.frozen za
          have hwr1 : IntKind.i64.wrap (own1 za - rb) = own1 za - rb := IntWalk.i64_in _ (by omega)
          have H8 := Lib.hid (H7.out.setU za _ (ownF_upd own1 za (own1 za - rb)))
          generalize own1 za = O1 at cu1 hwr1 H8 HI7 hb2
          generalize updI own1 za (O1 - rb) = own' at H8 HI7
          clear hb2 cu fu hwr
          generalize World.setCell w6 _ _ = w7 at cu1 fu1 H7 H8 ⊢
          clear H7
          have hbr := bring_small hza
          have HBR := Lib.hid hbr
          clear hbr
          refine (cBringN (za : Int) 17 17 rfl (by decide) _).mono ?_
          rintro e wz ⟨rfl, rfl⟩
          rw [HBR.out]
          go_wp2_with fail
          refine (cBringN (za : Int) 17 17 rfl (by decide) _).mono ?_
          rintro e wz2 ⟨rfl, rfl⟩
          rw [HBR.out]
          have H7 := H8
          clear H8 HBR
          go_wp2
          go_loopw [16, 17] (fun s i wr => ∃ (j : Nat) (S : Int), 1 ≤ j ∧ j ≤ 17 ∧ i = .int .i64 j ∧ s = .int .i64 S ∧ Hid (S = sumB t' 3 j) ∧ Hid (UK W wr B r 3 t' U (ownF own'))) (fun _ i _ => 17 - (intOf i).toNat)
          case atStart => exact ⟨1, 0, by omega, by omega, rfl, rfl, Lib.hid rfl, H7⟩
          case round =>
            clear H7
            obtain ⟨j, S, hj1, hj2, rfl, rfl, HSS, HU⟩ := hrel
            by_cases hj : j < 17
            · have cu := HU.out.cu hj
              unfold ownF at cu
              obtain ⟨Hh, hH⟩ : ∃ Hh, own' j = Hh := ⟨_, rfl⟩
              rw [hH] at cu
              have HHE : Hid (held t' j 3 = Hh) := Lib.hid (by rw [← HI7.out j hj]; exact hH)
              have hne : (Hh != Hh) = false := by simp
              have hb1 := held_bounds HU.out.o.si j (Nat.le_refl 3)
              rw [HHE.out] at hb1
              have hb2 := sumB_bounds HU.out.o.si j
              rw [← HSS.out] at hb2
              have hw : IntKind.i64.wrap (S + Hh) = S + Hh := IntWalk.i64_in _ (by omega)
              have HS2 : Hid (S + Hh = sumB t' 3 (j + 1)) := Lib.hid (by rw [sumB_step t' 3 hj1, HHE.out, HSS.out])
              clear hH HSS hb1 hb2
              go_wp2
              go_region_held3 (fun W' => W'.cell? ⟨U, j, none⟩ = some (.int .i64 Hh))
                (first | exact cell_keep (Below.drew (Below.refl _ _)) cu | exact cell_keep (show Below wr.heap.size wr _ from by assumption) cu)
                (first | (go_at_call 12; refine (oHeld HU.out.drew.o _ _ HHE.out).mono ?_; rintro e w8 ⟨rfl, h8, b8⟩; have hb9 : Below wr.heap.size wr w8 := below_then (Below.drew (Below.refl _ _)) b8))
              all_goals
                have H9 := Lib.hid (HU.out.below (show Below wr.heap.size wr _ from by assumption))
                replace cu := cell_keep (show Below wr.heap.size wr _ from by assumption) cu
                clear h8 b8 hb9
                go_wp2
                go_roundw
                case rel => exact ⟨j + 1, S + Hh, by omega, by omega, by go_num, rfl, HS2, H9⟩
                case measure => simp [intOf]; omega
            · obtain rfl : j = 17 := by omega
              rw [show ((17 : Nat) : Int) = 17 from rfl]
              have HST : Hid (S = tot t' 3 - tot t' 0) := Lib.hid (by rw [HSS.out, sumB_tot HU.out.o.si (Nat.le_refl 3)]; simp [tot])
              have HU1 := Lib.hid HU.out
              clear HSS HU
              go_wp2
              go_loopw [16, 18] (fun s i wr => ∃ (j : Nat) (S : Int), j ≤ 3 ∧ i = .int .i64 j ∧ s = .int .i64 S ∧ Hid (S = tot t' 3 - tot t' j) ∧ Hid (UK W wr B r 3 t' U (ownF own'))) (fun _ i _ => 3 - (intOf i).toNat)
              case atStart => exact ⟨0, S, by omega, rfl, rfl, HST, HU1⟩
              case round =>
                clear HU1 HST
                obtain ⟨j, S, hj3, rfl, rfl, HSS, HU⟩ := hrel
                by_cases hj : j < 3
                · have hok := HU.out.o.si j hj
                  have HGG := Lib.hid (hasG_at t' hj)
                  have HNN := Lib.hid (hasN_at t' hj)
                  have hb2 := tot_bounds HU.out.o.si (Nat.le_refl 3)
                  have hb3 := tot_bounds HU.out.o.si (show j ≤ 3 by omega)
                  have hts := tot_step t' j
                  have hSS := HSS.out
                  generalize t'.g j = G at HGG hok
                  generalize t'.n j = N at HNN hok hts
                  have hbN := okS.b hok
                  have hw : IntKind.i64.wrap (S - N) = S - N := IntWalk.i64_in _ (by omega)
                  have HS2 : Hid (S - N = tot t' 3 - tot t' (j + 1)) := Lib.hid (by omega)
                  have hn1 : ¬ N < 0 := by omega
                  have hn2 : ¬ 1024 < N := by omega
                  clear hb2 hb3 hts hSS HSS hbN
                  go_wp2_with fail
                  refine (oHas HU.out.o j G N HGG.out HNN.out).mono ?_
                  rintro e w8 ⟨rfl, h8, b8⟩
                  have H9 := Lib.hid (HU.out.below b8)
                  clear h8 b8 HU HGG HNN
                  by_cases hN : N = 0
                  · have hG : G = 0 := by unfold okS at hok; omega
                    have hq1 : (N == 0) = true := by simp [hN]
                    have hq2 : (G == 0) = true := by simp [hG]
                    clear hok hN hG
                    go_wp2
                    go_roundw
                    case rel => exact ⟨j + 1, S - N, by omega, by go_num, rfl, HS2, H9⟩
                    case measure => simp [intOf]; omega
                  · have hG : ¬ G = 0 := by unfold okS isG at hok; omega
                    have hq1 : (N == 0) = false := by simp [hN]
                    have hq2 : (G == 0) = false := by simp [hG]
                    clear hok hN hG
                    go_wp2
                    go_roundw
                    case rel => exact ⟨j + 1, S - N, by omega, by go_num, rfl, HS2, H9⟩
                    case measure => simp [intOf]; omega
                · obtain rfl : j = 3 := by omega
                  obtain rfl : S = 0 := by rw [HSS.out]; omega
                  have cu := HU.out.cu (show 0 < 17 by decide)
                  unfold ownF at cu
                  rw [HI7.out 0 (by decide), show ((0 : Nat) : Int) = 0 from rfl, held_zero HU.out.o.si (Nat.le_refl 3)] at cu
                  rw [show ((3 : Nat) : Int) = 3 from rfl]
                  go_wp2
                  go_roundw
                  case rel => exact ⟨k + 1, by omega, by omega, by go_num, Lib.hid ⟨_, _, HU.out, HI7.out⟩⟩
                  case measure => simp [intOf]; omega
      · obtain ⟨ra, rb, t', hr⟩ := DrainIs.ex 3 t (y : Int)
        have HR := Lib.hid hr
        have HR2 := Lib.hid (hr.bal HTA.out.o.si)
        clear hr
        go_wp2_with fail
        refine (oDrain HTA.out.o HR.out).mono ?_
        rintro e w6 ⟨rfl, h6, k6⟩
        have H6 := Lib.hid (HTA.out.kt h6 k6)
        have HOLD := Lib.hid (fun (j : Nat) (hj : j < 17) => HI.out.b HTA.out hj)
        clear h6 k6 HTA HR
        obtain ⟨⟨za, rfl, hza⟩, hrb, hbal⟩ := HR2.out
        have cu1 := H6.out.cu hza
        unfold ownF at cu1
        have fu1 := H6.out.u.frozen za
        have hb := HOLD.out _ hza
        have hwr1 : IntKind.i64.wrap (own za - rb) = own za - rb := IntWalk.i64_in _ (by omega)
        have H7 := Lib.hid (H6.out.setU za _ (ownF_upd own za (own za - rb)))
        have HI7 := Lib.hid (HI.out.take hbal)
        generalize own za = O1 at cu1 hwr1 H7 HI7 hb
        generalize updI own za (O1 - rb) = own' at H7 HI7
        clear hb hbal H6 HI HOLD HR2
        have hbr := bring_small hza
        have HBR := Lib.hid hbr
        clear hbr
        go_wp2_with fail
        refine (cBringN (za : Int) 17 17 rfl (by decide) _).mono ?_
        rintro e wz ⟨rfl, rfl⟩
        rw [HBR.out]
        go_wp2_with fail
        refine (cBringN (za : Int) 17 17 rfl (by decide) _).mono ?_
        rintro e wz2 ⟨rfl, rfl⟩
        rw [HBR.out]
        clear HBR
        go_wp2
        go_loopw [16, 17] (fun s i wr => ∃ (j : Nat) (S : Int), 1 ≤ j ∧ j ≤ 17 ∧ i = .int .i64 j ∧ s = .int .i64 S ∧ Hid (S = sumB t' 3 j) ∧ Hid (UK W wr B r 3 t' U (ownF own'))) (fun _ i _ => 17 - (intOf i).toNat)
        case atStart => exact ⟨1, 0, by omega, by omega, rfl, rfl, Lib.hid rfl, H7⟩
        case round =>
          clear H7
          obtain ⟨j, S, hj1, hj2, rfl, rfl, HSS, HU⟩ := hrel
          by_cases hj : j < 17
          · have cu := HU.out.cu hj
            unfold ownF at cu
            obtain ⟨Hh, hH⟩ : ∃ Hh, own' j = Hh := ⟨_, rfl⟩
            rw [hH] at cu
            have HHE : Hid (held t' j 3 = Hh) := Lib.hid (by rw [← HI7.out j hj]; exact hH)
            have hne : (Hh != Hh) = false := by simp
            have hb1 := held_bounds HU.out.o.si j (Nat.le_refl 3)
            rw [HHE.out] at hb1
            have hb2 := sumB_bounds HU.out.o.si j
            rw [← HSS.out] at hb2
            have hw : IntKind.i64.wrap (S + Hh) = S + Hh := IntWalk.i64_in _ (by omega)
            have HS2 : Hid (S + Hh = sumB t' 3 (j + 1)) := Lib.hid (by rw [sumB_step t' 3 hj1, HHE.out, HSS.out])
            clear hH HSS hb1 hb2
            go_wp2
            go_region_held3 (fun W' => W'.cell? ⟨U, j, none⟩ = some (.int .i64 Hh))
              (first | exact cell_keep (Below.drew (Below.refl _ _)) cu | exact cell_keep (show Below wr.heap.size wr _ from by assumption) cu)
              (first | (go_at_call 12; refine (oHeld HU.out.drew.o _ _ HHE.out).mono ?_; rintro e w8 ⟨rfl, h8, b8⟩; have hb9 : Below wr.heap.size wr w8 := below_then (Below.drew (Below.refl _ _)) b8))
            all_goals
              have H9 := Lib.hid (HU.out.below (show Below wr.heap.size wr _ from by assumption))
              replace cu := cell_keep (show Below wr.heap.size wr _ from by assumption) cu
              clear h8 b8 hb9
              go_wp2
              go_roundw
              case rel => exact ⟨j + 1, S + Hh, by omega, by omega, by go_num, rfl, HS2, H9⟩
              case measure => simp [intOf]; omega
          · obtain rfl : j = 17 := by omega
            rw [show ((17 : Nat) : Int) = 17 from rfl]
            have HST : Hid (S = tot t' 3 - tot t' 0) := Lib.hid (by rw [HSS.out, sumB_tot HU.out.o.si (Nat.le_refl 3)]; simp [tot])
            have HU1 := Lib.hid HU.out
            clear HSS HU
            go_wp2
            go_loopw [16, 18] (fun s i wr => ∃ (j : Nat) (S : Int), j ≤ 3 ∧ i = .int .i64 j ∧ s = .int .i64 S ∧ Hid (S = tot t' 3 - tot t' j) ∧ Hid (UK W wr B r 3 t' U (ownF own'))) (fun _ i _ => 3 - (intOf i).toNat)
            case atStart => exact ⟨0, S, by omega, rfl, rfl, HST, HU1⟩
            case round =>
              clear HU1 HST
              obtain ⟨j, S, hj3, rfl, rfl, HSS, HU⟩ := hrel
              by_cases hj : j < 3
              · have hok := HU.out.o.si j hj
                have HGG := Lib.hid (hasG_at t' hj)
                have HNN := Lib.hid (hasN_at t' hj)
                have hb2 := tot_bounds HU.out.o.si (Nat.le_refl 3)
                have hb3 := tot_bounds HU.out.o.si (show j ≤ 3 by omega)
                have hts := tot_step t' j
                have hSS := HSS.out
                generalize t'.g j = G at HGG hok
                generalize t'.n j = N at HNN hok hts
                have hbN := okS.b hok
                have hw : IntKind.i64.wrap (S - N) = S - N := IntWalk.i64_in _ (by omega)
                have HS2 : Hid (S - N = tot t' 3 - tot t' (j + 1)) := Lib.hid (by omega)
                have hn1 : ¬ N < 0 := by omega
                have hn2 : ¬ 1024 < N := by omega
                clear hb2 hb3 hts hSS HSS hbN
                go_wp2_with fail
                refine (oHas HU.out.o j G N HGG.out HNN.out).mono ?_
                rintro e w8 ⟨rfl, h8, b8⟩
                have H9 := Lib.hid (HU.out.below b8)
                clear h8 b8 HU HGG HNN
                by_cases hN : N = 0
                · have hG : G = 0 := by unfold okS at hok; omega
                  have hq1 : (N == 0) = true := by simp [hN]
                  have hq2 : (G == 0) = true := by simp [hG]
                  clear hok hN hG
                  go_wp2
                  go_roundw
                  case rel => exact ⟨j + 1, S - N, by omega, by go_num, rfl, HS2, H9⟩
                  case measure => simp [intOf]; omega
                · have hG : ¬ G = 0 := by unfold okS isG at hok; omega
                  have hq1 : (N == 0) = false := by simp [hN]
                  have hq2 : (G == 0) = false := by simp [hG]
                  clear hok hN hG
                  go_wp2
                  go_roundw
                  case rel => exact ⟨j + 1, S - N, by omega, by go_num, rfl, HS2, H9⟩
                  case measure => simp [intOf]; omega
              · obtain rfl : j = 3 := by omega
                obtain rfl : S = 0 := by rw [HSS.out]; omega
                have cu := HU.out.cu (show 0 < 17 by decide)
                unfold ownF at cu
                rw [HI7.out 0 (by decide), show ((0 : Nat) : Int) = 0 from rfl, held_zero HU.out.o.si (Nat.le_refl 3)] at cu
                rw [show ((3 : Nat) : Int) = 3 from rfl]
                go_wp2
                go_roundw
                case rel => exact ⟨k + 1, by omega, by omega, by go_num, Lib.hid ⟨_, _, HU.out, HI7.out⟩⟩
                case measure => simp [intOf]; omega
    · have HB := Lib.hid HT.out.o.low
      by_cases hlt : k < l.length
      · obtain rfl : k = 150 := by omega
        rw [show ((150 : Nat) : Int) = 150 from rfl]
        go_wp2
        go_ret
        exact ⟨rfl, HB.out⟩
      · obtain rfl : k = l.length := by omega
        go_wp2
        go_ret
        exact ⟨rfl, HB.out⟩
end Go.Proofs.Ythjonjkeaiobdaa
