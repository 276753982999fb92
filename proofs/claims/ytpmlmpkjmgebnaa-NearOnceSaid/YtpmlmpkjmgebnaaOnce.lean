/-
  The law NearOnce, walked.
-/
import Derived.Test.YtpmlmpkjmgebnaaArr
set_option linter.unusedVariables false
set_option linter.unusedSimpArgs false
namespace Go.Proofs.Ytpmlmpkjmgebnaa
open Go Go.RowKit

set_option maxHeartbeats 16000000 in
set_option maxRecDepth 100000 in
theorem walkOnce (x0 x1 : Int) (u : Value) (l : List Pg) (W : World) (hs : ShowP W u l) : Calls Try.prog 4 #[.int .i64 x0, .int .i64 x1, u] W fun e W' => e = .returned (.bool true) ∧ Below W.heap.size W W' := by
  obtain ⟨ao, cap, rfl, hcap, hat⟩ := hs.form
  clear hs
  obtain ⟨Z, hO, hr⟩ := makeArr
  have HR := Lib.hid hr
  clear hr
  obtain ⟨m, hm⟩ : ∃ m, bring x0 8 = m := ⟨_, rfl⟩
  have hm8 : m < 8 := by have := bring_lt x0 8 (by decide); omega
  have HM := Lib.hid hm
  obtain ⟨lim, hlim⟩ : ∃ lim, bring x1 65 = lim := ⟨_, rfl⟩
  have hl64 : lim ≤ 64 := by have := bring_lt x1 65 (by decide); omega
  have HL := Lib.hid hlim
  obtain ⟨n, hn⟩ : ∃ n, 1 + m = n := ⟨_, rfl⟩
  have hnm : (1 : Int) + (m : Int) = (n : Int) := by omega
  have hn18 : 1 ≤ n ∧ n ≤ 8 := by omega
  clear hm hlim hn
  go_enter Try.func4, Try.ntmps4
  go_wp2_with fail
  refine (cWorks _).mono ?_
  rintro e w1 ⟨rfl, hb⟩
  have H1 := Lib.hid hb
  clear hb
  go_wp2_with fail
  refine (cBring x0 8 _ (by decide) (by decide)).mono ?_
  rintro e w2 ⟨rfl, rfl⟩
  rw [HM.out]
  go_wp2_with fail
  refine (cBring x1 65 _ (by decide) (by decide)).mono ?_
  rintro e w3 ⟨rfl, rfl⟩
  rw [HL.out]
  go_wp2_with fail
  refine (oNew (W := W) _ _ n lim w3 rfl rfl hn18 hl64 H1.out).mono ?_
  rintro e w4 ⟨B, g, rfl, h4⟩
  have H4 := Lib.hid (Ps.start h4 HR.out)
  clear h4 H1 HL HM HR
  go_wp2
  go_loopw [10] (fun i wr => ∃ (k : Nat) (vs : Nat → Value) (f : F) (P : Nat → Bool), k ≤ l.length ∧ k ≤ 150 ∧ i = .int .i64 k ∧ Hid (Ps W wr B g vs n lim f w4.heap.size P ∧ Inv n f [] P)) (fun i _ => l.length - (intOf i).toNat)
  case atStart => exact ⟨0, _, _, _, by omega, by omega, rfl, Lib.hid ⟨H4.out, Inv.start n⟩⟩
  case round =>
    obtain ⟨k, vs, f, P, hk, hk150, rfl, HS⟩ := hrel
    clear H4 hO
    generalize w4.heap.size = D at *
    by_cases hlt : k < l.length
    · by_cases hlt2 : k < 150
      · obtain ⟨b1, o1, rfl, c0, c1, c2⟩ := hat k hlt
        have d0 := cell_keep HS.out.1.o.low c0
        have d1 := cell_keep HS.out.1.o.low c1
        have d2 := cell_keep HS.out.1.o.low c2
        clear c0 c1 c2
        generalize pg l k = d at d0 d1 d2
        obtain ⟨kd, cpu, page⟩ := d
        dsimp only at d0 d1 d2
        obtain ⟨c, hc⟩ : ∃ c, bring cpu n = c := ⟨_, rfl⟩
        have hcn : c < n := by have := bring_lt cpu n hn18.1; omega
        have HCc := Lib.hid hc
        obtain ⟨p, hp⟩ : ∃ p, bring page 1024 = p := ⟨_, rfl⟩
        have hp2 : p < 1024 := by have := bring_lt page 1024 (by decide); omega
        have HPp := Lib.hid hp
        obtain ⟨q, hq⟩ : ∃ q, bring kd 3 = q := ⟨_, rfl⟩
        have hq3 : q < 3 := by have := bring_lt kd 3 (by decide); omega
        have HQq := Lib.hid hq
        clear hc hp hq
        go_wp2_with fail
        refine (cBring cpu n _ (by omega) (by omega)).mono ?_
        rintro e w5 ⟨rfl, rfl⟩
        rw [HCc.out]
        go_wp2_with fail
        refine (cBringN page 1024 1024 rfl (by decide) _).mono ?_
        rintro e w5 ⟨rfl, rfl⟩
        rw [HPp.out]
        go_wp2_with fail
        refine (cBringN kd 3 3 rfl (by decide) _).mono ?_
        rintro e w5 ⟨rfl, rfl⟩
        rw [HQq.out]
        obtain ⟨wq, hwq⟩ : ∃ wq, wr.alloc (.cells #[.int .i64 kd, .int .i64 cpu, .int .i64 page] 32) = wq := ⟨_, rfl⟩
        have HP0 : Hid (Ps W wq B g vs n lim f D P) := Lib.hid (by rw [← hwq]; exact HS.out.1.below (below_one (Below.refl _ _) _))
        have HI0 := Lib.hid HS.out.2
        rw [hwq]
        clear hwq d0 d1 d2 HCc HPp HQq HS
        have hqc : q = 0 ∨ q = 1 ∨ q = 2 := by omega
        clear hq3
        rcases hqc with rfl | rfl | rfl
        · obtain ⟨out, er, f2, hr⟩ := put_is n lim f c p
          have hcase : (er = 0 ∧ P p = false ∧ Inv n f2 out (setP P p true)) ∨ (er = 60 ∧ P p = true ∧ out = [] ∧ f2 = f) := by
            by_cases h0 : er = 0
            · subst h0
              obtain ⟨h1, h2⟩ := HI0.out.put hcn hp2 hr
              exact .inl ⟨rfl, h1, h2⟩
            · have hr' := hr
              generalize hcc : (c : Int) = cc at hr'
              generalize hpp : (p : Int) = pp at hr'
              cases hr' with
              | range _ _ h => omega
              | block c' _ q1 q2 q3 q4 => exact .inr ⟨rfl, HI0.out.marked (by rw [hpp]; exact q4), rfl, rfl⟩
              | ok _ _ _ _ _ _ _ => exact absurd rfl h0
              | cut _ _ _ _ _ _ _ _ _ => exact absurd rfl h0
          have HR := Lib.hid hr
          clear hr
          rcases hcase with ⟨rfl, hpf, hI2⟩ | ⟨rfl, hpt, rfl, rfl⟩
          · have HI2 := Lib.hid hI2
            have HPF := Lib.hid hpf
            clear hI2 hpf HI0
            go_wp2_with fail
            refine (pPut HP0.out HR.out).mono ?_
            rintro e w6 ⟨v6, vs2, rfl, h6, hres⟩
            obtain ⟨a5, cp5, rfl, hcp5, _⟩ := hres.shows.form
            have H6 := Lib.hid (And.intro h6 hres)
            obtain ⟨m0, m1⟩ := h6.at hp2
            rw [HPF.out] at m0
            rw [show ((one false : Nat) : Int) = 0 from rfl] at m0
            have HT : Hid (Ps W (w6.setCell ⟨D, p, none⟩ (.int .i64 1)) B g vs2 n lim f2 D (setP P p true) ∧ Inv n f2 (out.drop 0) (setP P p true) ∧ Res (w6.setCell ⟨D, p, none⟩ (.int .i64 1)) (.slice a5 out.length cp5) out (fun k => k ≠ D)) := Lib.hid ⟨H6.out.1.set p true 1 rfl, by rw [List.drop_zero]; exact HI2.out, res_set H6.out.2 p _⟩
            clear h6 hres HP0 HR HI2 HPF
            go_wp2
            go_loopw [19] (fun i wx => ∃ (j : Nat) (P3 : Nat → Bool), j ≤ out.length ∧ i = .int .i64 j ∧ Hid (Ps W wx B g vs2 n lim f2 D P3 ∧ Inv n f2 ((out : List Int).drop j) P3 ∧ Res wx (.slice a5 out.length cp5) out (fun k => k ≠ D))) (fun i _ => out.length - (intOf i).toNat)
            case atStart => exact ⟨0, _, Nat.zero_le _, rfl, HT⟩
            case round =>
              obtain ⟨j, P3, hj, rfl, HX⟩ := hrel
              clear HT
              by_cases hjl : j < out.length
              · obtain ⟨aX, cpX, eX, _, hatX⟩ := (Res.shows HX.out.2.2).form
                cases eX
                obtain ⟨b3, o3, e3, k3⟩ := hatX j hjl
                subst e3
                have hI := HX.out.2.1
                rw [drop_pk _ j hjl] at hI
                obtain ⟨hr, hp, hI3⟩ := hI.step
                obtain ⟨z, hz⟩ : ∃ z : Nat, pk out j = z := ⟨(pk out j).toNat, by omega⟩
                rw [hz] at k3 hr hp hI3
                rw [Int.toNat_natCast] at hp hI3
                have hz2 : z < 1024 := by omega
                have HB3 : Hid (bring (z : Int) 1024 = z) := Lib.hid (by rw [bring_in hr, Int.toNat_natCast])
                obtain ⟨k4, k5⟩ := HX.out.1.at hz2
                rw [hp] at k4
                rw [show ((one true : Nat) : Int) = 1 from rfl] at k4
                have HI3 := Lib.hid hI3
                clear hI hI3 hz hp hr hatX
                go_wp2_with fail
                refine (cBringN _ 1024 1024 rfl (by decide) _).mono ?_
                rintro e w8 ⟨rfl, rfl⟩
                rw [HB3.out]
                go_wp2
                go_roundw
                case rel => exact ⟨j + 1, _, by omega, by go_num, Lib.hid ⟨HX.out.1.set z false 0 rfl, HI3.out, res_set HX.out.2.2 z _⟩⟩
                case measure => simp [intOf]; omega
              · obtain rfl : j = out.length := by omega
                have HN := Lib.hid (And.intro HX.out.1 (show Inv n f2 [] P3 by have := HX.out.2.1; rwa [List.drop_length] at this))
                clear HX
                go_wp2
                go_loopw [21, 22] (fun cc i wy => ∃ (kk C : Nat), kk ≤ n ∧ cc = .int .i64 C ∧ i = .int .i64 kk ∧ C ≤ kk * 65 ∧ Hid (lens f2 kk = C) ∧ Hid (Ps W wy B g vs2 n lim f2 D P3)) (fun _ i _ => n - (intOf i).toNat)
                case atStart => exact ⟨0, 0, by omega, rfl, rfl, by omega, Lib.hid rfl, Lib.hid HN.out.1⟩
                case round =>
                  obtain ⟨kk, C, hkk, rfl, rfl, hC, HC, HY⟩ := hrel
                  by_cases hkn : kk < n
                  · go_wp2_with fail
                    refine (pList HY.out hkn).mono ?_
                    rintro e w9 ⟨v9, rfl, h9, hs9⟩
                    obtain ⟨a9, cp9, rfl, hcp9, hat9⟩ := hs9.form
                    have H9 := Lib.hid (And.intro h9 hs9)
                    have hLl := HY.out.o.fine kk hkn
                    have HM9 : Hid (∀ y ∈ f2 kk, (0 ≤ y ∧ y < 1024) ∧ P3 y.toNat = true ∧ hasB f2 n y = true) := Lib.hid (fun y hy => HN.out.2.mark hkn hy)
                    have HC9 : Hid (lens f2 (kk + 1) = C + (f2 kk).length) := Lib.hid (by show lens f2 kk + (f2 kk).length = _; rw [HC.out])
                    generalize f2 kk = lk at *
                    obtain ⟨L9, hL9⟩ : ∃ L9, lk.length = L9 := ⟨_, rfl⟩
                    rw [hL9] at hLl HC9 hcp9 ⊢
                    have HL9 := Lib.hid hL9
                    have hC600 : C ≤ 600 := by omega
                    have hLl2 : ¬ lim < L9 := by omega
                    clear h9 hs9 hat9 hL9 HC HY
                    go_wp2
                    go_loopw [24] (fun i wz => ∃ j9 : Nat, j9 ≤ L9 ∧ i = .int .i64 j9 ∧ Hid (Ps W wz B g vs2 n lim f2 D P3 ∧ ShowI wz (.slice a9 L9 cp9) lk)) (fun i _ => L9 - (intOf i).toNat)
                    case atStart => exact ⟨0, by omega, rfl, Lib.hid ⟨H9.out.1, by have := H9.out.2; rwa [HL9.out] at this⟩⟩
                    case round =>
                      obtain ⟨j9, hj9, rfl, HZ⟩ := hrel
                      by_cases hjL : j9 < L9
                      · have hjl9 : j9 < lk.length := by rw [HL9.out]; exact hjL
                        obtain ⟨aZ, cZ, eZ, _, hatZ⟩ := HZ.out.2.form
                        rw [HL9.out] at eZ
                        cases eZ
                        obtain ⟨b5, o5, rfl, k6⟩ := hatZ j9 hjl9
                        obtain ⟨hr5, hp5, hh5⟩ := HM9.out _ (pk_mem hjl9)
                        obtain ⟨z5, hz5⟩ : ∃ z5 : Nat, pk lk j9 = z5 := ⟨(pk lk j9).toNat, by omega⟩
                        rw [hz5] at k6 hr5 hp5 hh5
                        rw [Int.toNat_natCast] at hp5
                        have hz51 : z5 < 1024 := by omega
                        have HB5 : Hid (bring (z5 : Int) 1024 = z5) := Lib.hid (by rw [bring_in hr5, Int.toNat_natCast])
                        obtain ⟨k7, k8⟩ := HZ.out.1.at hz51
                        rw [hp5] at k7
                        rw [show ((one true : Nat) : Int) = 1 from rfl] at k7
                        have HH5 := Lib.hid hh5
                        clear hatZ hr5 hp5 hh5 hz5 hjl9 H9
                        go_wp2_with fail
                        refine (cBringN _ 1024 1024 rfl (by decide) _).mono ?_
                        rintro e w10 ⟨rfl, rfl⟩
                        rw [HB5.out]
                        go_wp2_with fail
                        refine (pHas HZ.out.1 HH5.out).mono ?_
                        rintro e w11 ⟨rfl, h11, hb11⟩
                        have H11 := Lib.hid (And.intro h11 (HZ.out.2.below hb11))
                        clear h11 hb11 HZ k6 k7 k8
                        go_wp2
                        go_roundw
                        case rel => exact ⟨j9 + 1, by omega, by go_num, H11⟩
                        case measure => simp [intOf]; omega
                      · obtain rfl : j9 = L9 := by omega
                        have HZ1 := Lib.hid HZ.out.1
                        clear HZ H9
                        go_wp2
                        go_roundw
                        case rel => exact ⟨kk + 1, C + j9, by omega, by go_num, by go_num, by omega, HC9, HZ1⟩
                        case measure => simp [intOf]; omega
                  · obtain rfl : n = kk := by omega
                    have HC1 : Hid (sumN (fun x => one (P3 x)) 1024 = C) := Lib.hid (by rw [← HN.out.2.total]; exact HC.out)
                    have HI1 := Lib.hid HN.out.2
                    clear HC HN
                    go_wp2
                    go_loopw [25, 26] (fun s i wz => ∃ (x S : Nat), x ≤ 1024 ∧ s = .int .i64 S ∧ i = .int .i64 x ∧ S ≤ x ∧ Hid (sumN (fun x => one (P3 x)) x = S) ∧ Hid (Ps W wz B g vs2 n lim f2 D P3)) (fun _ i _ => 1024 - (intOf i).toNat)
                    case atStart => exact ⟨0, 0, by omega, rfl, rfl, by omega, Lib.hid rfl, HY⟩
                    case round =>
                      obtain ⟨x, S, hx, rfl, rfl, hS, HSx, HW⟩ := hrel
                      clear HY
                      by_cases hx1 : x < 1024
                      · obtain ⟨k9, _⟩ := HW.out.at hx1
                        have HS1 : Hid (sumN (fun x => one (P3 x)) (x + 1) = S + one (P3 x)) := Lib.hid (by show sumN (fun x => one (P3 x)) x + one (P3 x) = _; rw [HSx.out])
                        obtain ⟨y, hy⟩ : ∃ y, one (P3 x) = y := ⟨_, rfl⟩
                        have hy1 : y ≤ 1 := by rw [← hy]; unfold one; split <;> omega
                        rw [hy] at k9 HS1
                        clear hy HSx
                        go_wp2
                        go_roundw
                        case rel => exact ⟨x + 1, S + y, by omega, by go_num, by go_num, by omega, HS1, HW⟩
                        case measure => simp [intOf]; omega
                      · obtain rfl : x = 1024 := by omega
                        obtain rfl : S = C := HSx.out.symm.trans HC1.out
                        rw [show ((1024 : Nat) : Int) = 1024 from rfl]
                        clear HSx HC1
                        go_wp2
                        go_roundw
                        case rel => exact ⟨k + 1, _, _, _, by omega, by omega, by go_num, Lib.hid ⟨HW.out, HI1.out⟩⟩
                        case measure => simp [intOf]; omega
          · have HPT := Lib.hid hpt
            clear hpt
            go_wp2_with fail
            refine (pPut HP0.out HR.out).mono ?_
            rintro e w6 ⟨v6, vs2, rfl, h6, hres⟩
            obtain ⟨a5, cp5, rfl, hcp5, _⟩ := hres.shows.form
            have H6 := Lib.hid (And.intro h6 hres)
            obtain ⟨m0, m1⟩ := h6.at hp2
            rw [HPT.out] at m0
            rw [show ((one true : Nat) : Int) = 1 from rfl] at m0
            obtain ⟨out, hout⟩ : ∃ out : List Int, [] = out := ⟨_, rfl⟩
            rw [hout] at H6 hcp5 ⊢
            have HT : Hid (Ps W w6 B g vs2 n lim f2 D P ∧ Inv n f2 (out.drop 0) P ∧ Res w6 (.slice a5 out.length cp5) out (fun k => k ≠ D)) := Lib.hid ⟨H6.out.1, by rw [List.drop_zero, ← hout]; exact HI0.out, H6.out.2⟩
            clear h6 hres HP0 HR HI0 HPT hout
            go_wp2
            go_loopw [19] (fun i wx => ∃ (j : Nat) (P3 : Nat → Bool), j ≤ out.length ∧ i = .int .i64 j ∧ Hid (Ps W wx B g vs2 n lim f2 D P3 ∧ Inv n f2 ((out : List Int).drop j) P3 ∧ Res wx (.slice a5 out.length cp5) out (fun k => k ≠ D))) (fun i _ => out.length - (intOf i).toNat)
            case atStart => exact ⟨0, _, Nat.zero_le _, rfl, HT⟩
            case round =>
              obtain ⟨j, P3, hj, rfl, HX⟩ := hrel
              clear HT
              by_cases hjl : j < out.length
              · obtain ⟨aX, cpX, eX, _, hatX⟩ := (Res.shows HX.out.2.2).form
                cases eX
                obtain ⟨b3, o3, e3, k3⟩ := hatX j hjl
                subst e3
                have hI := HX.out.2.1
                rw [drop_pk _ j hjl] at hI
                obtain ⟨hr, hp, hI3⟩ := hI.step
                obtain ⟨z, hz⟩ : ∃ z : Nat, pk out j = z := ⟨(pk out j).toNat, by omega⟩
                rw [hz] at k3 hr hp hI3
                rw [Int.toNat_natCast] at hp hI3
                have hz2 : z < 1024 := by omega
                have HB3 : Hid (bring (z : Int) 1024 = z) := Lib.hid (by rw [bring_in hr, Int.toNat_natCast])
                obtain ⟨k4, k5⟩ := HX.out.1.at hz2
                rw [hp] at k4
                rw [show ((one true : Nat) : Int) = 1 from rfl] at k4
                have HI3 := Lib.hid hI3
                clear hI hI3 hz hp hr hatX
                go_wp2_with fail
                refine (cBringN _ 1024 1024 rfl (by decide) _).mono ?_
                rintro e w8 ⟨rfl, rfl⟩
                rw [HB3.out]
                go_wp2
                go_roundw
                case rel => exact ⟨j + 1, _, by omega, by go_num, Lib.hid ⟨HX.out.1.set z false 0 rfl, HI3.out, res_set HX.out.2.2 z _⟩⟩
                case measure => simp [intOf]; omega
              · obtain rfl : j = out.length := by omega
                have HN := Lib.hid (And.intro HX.out.1 (show Inv n f2 [] P3 by have := HX.out.2.1; rwa [List.drop_length] at this))
                clear HX
                go_wp2
                go_loopw [21, 22] (fun cc i wy => ∃ (kk C : Nat), kk ≤ n ∧ cc = .int .i64 C ∧ i = .int .i64 kk ∧ C ≤ kk * 65 ∧ Hid (lens f2 kk = C) ∧ Hid (Ps W wy B g vs2 n lim f2 D P3)) (fun _ i _ => n - (intOf i).toNat)
                case atStart => exact ⟨0, 0, by omega, rfl, rfl, by omega, Lib.hid rfl, Lib.hid HN.out.1⟩
                case round =>
                  obtain ⟨kk, C, hkk, rfl, rfl, hC, HC, HY⟩ := hrel
                  by_cases hkn : kk < n
                  · go_wp2_with fail
                    refine (pList HY.out hkn).mono ?_
                    rintro e w9 ⟨v9, rfl, h9, hs9⟩
                    obtain ⟨a9, cp9, rfl, hcp9, hat9⟩ := hs9.form
                    have H9 := Lib.hid (And.intro h9 hs9)
                    have hLl := HY.out.o.fine kk hkn
                    have HM9 : Hid (∀ y ∈ f2 kk, (0 ≤ y ∧ y < 1024) ∧ P3 y.toNat = true ∧ hasB f2 n y = true) := Lib.hid (fun y hy => HN.out.2.mark hkn hy)
                    have HC9 : Hid (lens f2 (kk + 1) = C + (f2 kk).length) := Lib.hid (by show lens f2 kk + (f2 kk).length = _; rw [HC.out])
                    generalize f2 kk = lk at *
                    obtain ⟨L9, hL9⟩ : ∃ L9, lk.length = L9 := ⟨_, rfl⟩
                    rw [hL9] at hLl HC9 hcp9 ⊢
                    have HL9 := Lib.hid hL9
                    have hC600 : C ≤ 600 := by omega
                    have hLl2 : ¬ lim < L9 := by omega
                    clear h9 hs9 hat9 hL9 HC HY
                    go_wp2
                    go_loopw [24] (fun i wz => ∃ j9 : Nat, j9 ≤ L9 ∧ i = .int .i64 j9 ∧ Hid (Ps W wz B g vs2 n lim f2 D P3 ∧ ShowI wz (.slice a9 L9 cp9) lk)) (fun i _ => L9 - (intOf i).toNat)
                    case atStart => exact ⟨0, by omega, rfl, Lib.hid ⟨H9.out.1, by have := H9.out.2; rwa [HL9.out] at this⟩⟩
                    case round =>
                      obtain ⟨j9, hj9, rfl, HZ⟩ := hrel
                      by_cases hjL : j9 < L9
                      · have hjl9 : j9 < lk.length := by rw [HL9.out]; exact hjL
                        obtain ⟨aZ, cZ, eZ, _, hatZ⟩ := HZ.out.2.form
                        rw [HL9.out] at eZ
                        cases eZ
                        obtain ⟨b5, o5, rfl, k6⟩ := hatZ j9 hjl9
                        obtain ⟨hr5, hp5, hh5⟩ := HM9.out _ (pk_mem hjl9)
                        obtain ⟨z5, hz5⟩ : ∃ z5 : Nat, pk lk j9 = z5 := ⟨(pk lk j9).toNat, by omega⟩
                        rw [hz5] at k6 hr5 hp5 hh5
                        rw [Int.toNat_natCast] at hp5
                        have hz51 : z5 < 1024 := by omega
                        have HB5 : Hid (bring (z5 : Int) 1024 = z5) := Lib.hid (by rw [bring_in hr5, Int.toNat_natCast])
                        obtain ⟨k7, k8⟩ := HZ.out.1.at hz51
                        rw [hp5] at k7
                        rw [show ((one true : Nat) : Int) = 1 from rfl] at k7
                        have HH5 := Lib.hid hh5
                        clear hatZ hr5 hp5 hh5 hz5 hjl9 H9
                        go_wp2_with fail
                        refine (cBringN _ 1024 1024 rfl (by decide) _).mono ?_
                        rintro e w10 ⟨rfl, rfl⟩
                        rw [HB5.out]
                        go_wp2_with fail
                        refine (pHas HZ.out.1 HH5.out).mono ?_
                        rintro e w11 ⟨rfl, h11, hb11⟩
                        have H11 := Lib.hid (And.intro h11 (HZ.out.2.below hb11))
                        clear h11 hb11 HZ k6 k7 k8
                        go_wp2
                        go_roundw
                        case rel => exact ⟨j9 + 1, by omega, by go_num, H11⟩
                        case measure => simp [intOf]; omega
                      · obtain rfl : j9 = L9 := by omega
                        have HZ1 := Lib.hid HZ.out.1
                        clear HZ H9
                        go_wp2
                        go_roundw
                        case rel => exact ⟨kk + 1, C + j9, by omega, by go_num, by go_num, by omega, HC9, HZ1⟩
                        case measure => simp [intOf]; omega
                  · obtain rfl : n = kk := by omega
                    have HC1 : Hid (sumN (fun x => one (P3 x)) 1024 = C) := Lib.hid (by rw [← HN.out.2.total]; exact HC.out)
                    have HI1 := Lib.hid HN.out.2
                    clear HC HN
                    go_wp2
                    go_loopw [25, 26] (fun s i wz => ∃ (x S : Nat), x ≤ 1024 ∧ s = .int .i64 S ∧ i = .int .i64 x ∧ S ≤ x ∧ Hid (sumN (fun x => one (P3 x)) x = S) ∧ Hid (Ps W wz B g vs2 n lim f2 D P3)) (fun _ i _ => 1024 - (intOf i).toNat)
                    case atStart => exact ⟨0, 0, by omega, rfl, rfl, by omega, Lib.hid rfl, HY⟩
                    case round =>
                      obtain ⟨x, S, hx, rfl, rfl, hS, HSx, HW⟩ := hrel
                      clear HY
                      by_cases hx1 : x < 1024
                      · obtain ⟨k9, _⟩ := HW.out.at hx1
                        have HS1 : Hid (sumN (fun x => one (P3 x)) (x + 1) = S + one (P3 x)) := Lib.hid (by show sumN (fun x => one (P3 x)) x + one (P3 x) = _; rw [HSx.out])
                        obtain ⟨y, hy⟩ : ∃ y, one (P3 x) = y := ⟨_, rfl⟩
                        have hy1 : y ≤ 1 := by rw [← hy]; unfold one; split <;> omega
                        rw [hy] at k9 HS1
                        clear hy HSx
                        go_wp2
                        go_roundw
                        case rel => exact ⟨x + 1, S + y, by omega, by go_num, by go_num, by omega, HS1, HW⟩
                        case measure => simp [intOf]; omega
                      · obtain rfl : x = 1024 := by omega
                        obtain rfl : S = C := HSx.out.symm.trans HC1.out
                        rw [show ((1024 : Nat) : Int) = 1024 from rfl]
                        clear HSx HC1
                        go_wp2
                        go_roundw
                        case rel => exact ⟨k + 1, _, _, _, by omega, by omega, by go_num, Lib.hid ⟨HW.out, HI1.out⟩⟩
                        case measure => simp [intOf]; omega
        · obtain ⟨x, qq, f2, hr⟩ := take_is n f c
          have hcase : (qq = false ∧ f2 = f) ∨ (qq = true ∧ Inv n f2 [x] P) := by
            have hr' := hr
            generalize hcc : (c : Int) = cc at hr'
            cases hr' with
            | no _ _ => exact .inl ⟨rfl, rfl⟩
            | none _ _ _ => exact .inl ⟨rfl, rfl⟩
            | yes c' l' _ h1 h2 => exact .inr ⟨rfl, HI0.out.take h1 h2⟩
          have HR := Lib.hid hr
          clear hr
          rcases hcase with ⟨rfl, rfl⟩ | ⟨rfl, hI2⟩
          · go_wp2_with fail
            refine (pTake HP0.out HR.out).mono ?_
            rintro e w6 ⟨vs2, rfl, h6⟩
            have HT : Hid (Ps W w6 B g vs2 n lim f2 D P ∧ Inv n f2 (([] : List Int).drop 0) P ∧ Res w6 (.slice none 0 0) [] (fun k => k ≠ D)) := Lib.hid ⟨h6, HI0.out, Res.nil _ _⟩
            clear h6 HP0 HR HI0
            go_wp2
            go_loopw [19] (fun i wx => ∃ (j : Nat) (P3 : Nat → Bool), j ≤ 0 ∧ i = .int .i64 j ∧ Hid (Ps W wx B g vs2 n lim f2 D P3 ∧ Inv n f2 (([] : List Int).drop j) P3 ∧ Res wx (.slice none 0 0) [] (fun k => k ≠ D))) (fun i _ => 0 - (intOf i).toNat)
            case atStart => exact ⟨0, _, Nat.zero_le _, rfl, HT⟩
            case round =>
              obtain ⟨j, P3, hj, rfl, HX⟩ := hrel
              clear HT
              by_cases hjl : j < 0
              · exact absurd hjl (Nat.not_lt_zero _)
              · obtain rfl : j = 0 := by omega
                have HN := Lib.hid (And.intro HX.out.1 (show Inv n f2 [] P3 by have := HX.out.2.1; rwa [List.drop_nil] at this))
                clear HX
                rw [show ((0 : Nat) : Int) = 0 from rfl]
                go_wp2
                go_loopw [21, 22] (fun cc i wy => ∃ (kk C : Nat), kk ≤ n ∧ cc = .int .i64 C ∧ i = .int .i64 kk ∧ C ≤ kk * 65 ∧ Hid (lens f2 kk = C) ∧ Hid (Ps W wy B g vs2 n lim f2 D P3)) (fun _ i _ => n - (intOf i).toNat)
                case atStart => exact ⟨0, 0, by omega, rfl, rfl, by omega, Lib.hid rfl, Lib.hid HN.out.1⟩
                case round =>
                  obtain ⟨kk, C, hkk, rfl, rfl, hC, HC, HY⟩ := hrel
                  by_cases hkn : kk < n
                  · go_wp2_with fail
                    refine (pList HY.out hkn).mono ?_
                    rintro e w9 ⟨v9, rfl, h9, hs9⟩
                    obtain ⟨a9, cp9, rfl, hcp9, hat9⟩ := hs9.form
                    have H9 := Lib.hid (And.intro h9 hs9)
                    have hLl := HY.out.o.fine kk hkn
                    have HM9 : Hid (∀ y ∈ f2 kk, (0 ≤ y ∧ y < 1024) ∧ P3 y.toNat = true ∧ hasB f2 n y = true) := Lib.hid (fun y hy => HN.out.2.mark hkn hy)
                    have HC9 : Hid (lens f2 (kk + 1) = C + (f2 kk).length) := Lib.hid (by show lens f2 kk + (f2 kk).length = _; rw [HC.out])
                    generalize f2 kk = lk at *
                    obtain ⟨L9, hL9⟩ : ∃ L9, lk.length = L9 := ⟨_, rfl⟩
                    rw [hL9] at hLl HC9 hcp9 ⊢
                    have HL9 := Lib.hid hL9
                    have hC600 : C ≤ 600 := by omega
                    have hLl2 : ¬ lim < L9 := by omega
                    clear h9 hs9 hat9 hL9 HC HY
                    go_wp2
                    go_loopw [24] (fun i wz => ∃ j9 : Nat, j9 ≤ L9 ∧ i = .int .i64 j9 ∧ Hid (Ps W wz B g vs2 n lim f2 D P3 ∧ ShowI wz (.slice a9 L9 cp9) lk)) (fun i _ => L9 - (intOf i).toNat)
                    case atStart => exact ⟨0, by omega, rfl, Lib.hid ⟨H9.out.1, by have := H9.out.2; rwa [HL9.out] at this⟩⟩
                    case round =>
                      obtain ⟨j9, hj9, rfl, HZ⟩ := hrel
                      by_cases hjL : j9 < L9
                      · have hjl9 : j9 < lk.length := by rw [HL9.out]; exact hjL
                        obtain ⟨aZ, cZ, eZ, _, hatZ⟩ := HZ.out.2.form
                        rw [HL9.out] at eZ
                        cases eZ
                        obtain ⟨b5, o5, rfl, k6⟩ := hatZ j9 hjl9
                        obtain ⟨hr5, hp5, hh5⟩ := HM9.out _ (pk_mem hjl9)
                        obtain ⟨z5, hz5⟩ : ∃ z5 : Nat, pk lk j9 = z5 := ⟨(pk lk j9).toNat, by omega⟩
                        rw [hz5] at k6 hr5 hp5 hh5
                        rw [Int.toNat_natCast] at hp5
                        have hz51 : z5 < 1024 := by omega
                        have HB5 : Hid (bring (z5 : Int) 1024 = z5) := Lib.hid (by rw [bring_in hr5, Int.toNat_natCast])
                        obtain ⟨k7, k8⟩ := HZ.out.1.at hz51
                        rw [hp5] at k7
                        rw [show ((one true : Nat) : Int) = 1 from rfl] at k7
                        have HH5 := Lib.hid hh5
                        clear hatZ hr5 hp5 hh5 hz5 hjl9 H9
                        go_wp2_with fail
                        refine (cBringN _ 1024 1024 rfl (by decide) _).mono ?_
                        rintro e w10 ⟨rfl, rfl⟩
                        rw [HB5.out]
                        go_wp2_with fail
                        refine (pHas HZ.out.1 HH5.out).mono ?_
                        rintro e w11 ⟨rfl, h11, hb11⟩
                        have H11 := Lib.hid (And.intro h11 (HZ.out.2.below hb11))
                        clear h11 hb11 HZ k6 k7 k8
                        go_wp2
                        go_roundw
                        case rel => exact ⟨j9 + 1, by omega, by go_num, H11⟩
                        case measure => simp [intOf]; omega
                      · obtain rfl : j9 = L9 := by omega
                        have HZ1 := Lib.hid HZ.out.1
                        clear HZ H9
                        go_wp2
                        go_roundw
                        case rel => exact ⟨kk + 1, C + j9, by omega, by go_num, by go_num, by omega, HC9, HZ1⟩
                        case measure => simp [intOf]; omega
                  · obtain rfl : n = kk := by omega
                    have HC1 : Hid (sumN (fun x => one (P3 x)) 1024 = C) := Lib.hid (by rw [← HN.out.2.total]; exact HC.out)
                    have HI1 := Lib.hid HN.out.2
                    clear HC HN
                    go_wp2
                    go_loopw [25, 26] (fun s i wz => ∃ (x S : Nat), x ≤ 1024 ∧ s = .int .i64 S ∧ i = .int .i64 x ∧ S ≤ x ∧ Hid (sumN (fun x => one (P3 x)) x = S) ∧ Hid (Ps W wz B g vs2 n lim f2 D P3)) (fun _ i _ => 1024 - (intOf i).toNat)
                    case atStart => exact ⟨0, 0, by omega, rfl, rfl, by omega, Lib.hid rfl, HY⟩
                    case round =>
                      obtain ⟨x, S, hx, rfl, rfl, hS, HSx, HW⟩ := hrel
                      clear HY
                      by_cases hx1 : x < 1024
                      · obtain ⟨k9, _⟩ := HW.out.at hx1
                        have HS1 : Hid (sumN (fun x => one (P3 x)) (x + 1) = S + one (P3 x)) := Lib.hid (by show sumN (fun x => one (P3 x)) x + one (P3 x) = _; rw [HSx.out])
                        obtain ⟨y, hy⟩ : ∃ y, one (P3 x) = y := ⟨_, rfl⟩
                        have hy1 : y ≤ 1 := by rw [← hy]; unfold one; split <;> omega
                        rw [hy] at k9 HS1
                        clear hy HSx
                        go_wp2
                        go_roundw
                        case rel => exact ⟨x + 1, S + y, by omega, by go_num, by go_num, by omega, HS1, HW⟩
                        case measure => simp [intOf]; omega
                      · obtain rfl : x = 1024 := by omega
                        obtain rfl : S = C := HSx.out.symm.trans HC1.out
                        rw [show ((1024 : Nat) : Int) = 1024 from rfl]
                        clear HSx HC1
                        go_wp2
                        go_roundw
                        case rel => exact ⟨k + 1, _, _, _, by omega, by omega, by go_num, Lib.hid ⟨HW.out, HI1.out⟩⟩
                        case measure => simp [intOf]; omega
          · obtain ⟨i0, hi, hz0, hz1, hz2'⟩ := info_parts infoI
            have HI2 := Lib.hid hI2
            clear hI2 HI0
            go_wp2_with fail
            refine (pTake HP0.out HR.out).mono ?_
            rintro e w6 ⟨vs2, rfl, h6⟩
            have H6 := Lib.hid h6
            have hDlt := h6.arr.lt
            clear h6
            go_wp2_with (at_builtin; refine wpList_append_own_at _ (by rfl) _ _ 33 (by rfl) w6.heap.size 3 i0 (.int .i64 0) 1 8 Try.underlying33 hi hz0 hz1 hz2' (by rfl) (by decide) _ 0 [] (by rfl) (World.ownsRow_nil _ _ _ _) ⟨w6.heap.size, 0, none⟩ 1 1 [.int .i64 x] (by rfl) (by rfl) (cell_one_new _ _ _) (by intro u hu; simp at hu; subst hu; rfl) (by unfold maxLen; omega) (by omega) (by rw [size_alloc]; omega) ?_)
            intro v7 w7 hown7 hg7 _ _
            have hb7 : Below w6.heap.size w6 w7 := (below_one (Below.refl _ w6) _).grown hg7 (by rw [size_alloc]; omega) (fun k hk => by simp [Value.ownBlock] at hk)
            obtain ⟨out, hout⟩ : ∃ out : List Int, [x] = out := ⟨_, rfl⟩
            have hown8 : w7.ownsRow w6.heap.size 3 1 v7 out.length (nms out) := by rw [← hout]; exact hown7
            have hres : Res w7 v7 out (fun k => k ≠ D) := (Res.ofOwn hown8).mono fun k e ek => by have := own_ge hown8 k e; omega
            obtain ⟨a5, cp5, rfl, hcp5, _⟩ := hres.shows.form
            have HT : Hid (Ps W w7 B g vs2 n lim f2 D P ∧ Inv n f2 (out.drop 0) P ∧ Res w7 (.slice a5 out.length cp5) out (fun k => k ≠ D)) := Lib.hid ⟨H6.out.below hb7, by rw [List.drop_zero, ← hout]; exact HI2.out, hres⟩
            clear H6 HP0 HR HI2 hres hown7 hown8 hg7 hb7 hout hi hz0 hz1 hz2' hDlt
            go_wp2
            go_loopw [19] (fun i wx => ∃ (j : Nat) (P3 : Nat → Bool), j ≤ out.length ∧ i = .int .i64 j ∧ Hid (Ps W wx B g vs2 n lim f2 D P3 ∧ Inv n f2 ((out : List Int).drop j) P3 ∧ Res wx (.slice a5 out.length cp5) out (fun k => k ≠ D))) (fun i _ => out.length - (intOf i).toNat)
            case atStart => exact ⟨0, _, Nat.zero_le _, rfl, HT⟩
            case round =>
              obtain ⟨j, P3, hj, rfl, HX⟩ := hrel
              clear HT
              by_cases hjl : j < out.length
              · obtain ⟨aX, cpX, eX, _, hatX⟩ := (Res.shows HX.out.2.2).form
                cases eX
                obtain ⟨b3, o3, e3, k3⟩ := hatX j hjl
                subst e3
                have hI := HX.out.2.1
                rw [drop_pk _ j hjl] at hI
                obtain ⟨hr, hp, hI3⟩ := hI.step
                obtain ⟨z, hz⟩ : ∃ z : Nat, pk out j = z := ⟨(pk out j).toNat, by omega⟩
                rw [hz] at k3 hr hp hI3
                rw [Int.toNat_natCast] at hp hI3
                have hz2 : z < 1024 := by omega
                have HB3 : Hid (bring (z : Int) 1024 = z) := Lib.hid (by rw [bring_in hr, Int.toNat_natCast])
                obtain ⟨k4, k5⟩ := HX.out.1.at hz2
                rw [hp] at k4
                rw [show ((one true : Nat) : Int) = 1 from rfl] at k4
                have HI3 := Lib.hid hI3
                clear hI hI3 hz hp hr hatX
                go_wp2_with fail
                refine (cBringN _ 1024 1024 rfl (by decide) _).mono ?_
                rintro e w8 ⟨rfl, rfl⟩
                rw [HB3.out]
                go_wp2
                go_roundw
                case rel => exact ⟨j + 1, _, by omega, by go_num, Lib.hid ⟨HX.out.1.set z false 0 rfl, HI3.out, res_set HX.out.2.2 z _⟩⟩
                case measure => simp [intOf]; omega
              · obtain rfl : j = out.length := by omega
                have HN := Lib.hid (And.intro HX.out.1 (show Inv n f2 [] P3 by have := HX.out.2.1; rwa [List.drop_length] at this))
                clear HX
                go_wp2
                go_loopw [21, 22] (fun cc i wy => ∃ (kk C : Nat), kk ≤ n ∧ cc = .int .i64 C ∧ i = .int .i64 kk ∧ C ≤ kk * 65 ∧ Hid (lens f2 kk = C) ∧ Hid (Ps W wy B g vs2 n lim f2 D P3)) (fun _ i _ => n - (intOf i).toNat)
                case atStart => exact ⟨0, 0, by omega, rfl, rfl, by omega, Lib.hid rfl, Lib.hid HN.out.1⟩
                case round =>
                  obtain ⟨kk, C, hkk, rfl, rfl, hC, HC, HY⟩ := hrel
                  by_cases hkn : kk < n
                  · go_wp2_with fail
                    refine (pList HY.out hkn).mono ?_
                    rintro e w9 ⟨v9, rfl, h9, hs9⟩
                    obtain ⟨a9, cp9, rfl, hcp9, hat9⟩ := hs9.form
                    have H9 := Lib.hid (And.intro h9 hs9)
                    have hLl := HY.out.o.fine kk hkn
                    have HM9 : Hid (∀ y ∈ f2 kk, (0 ≤ y ∧ y < 1024) ∧ P3 y.toNat = true ∧ hasB f2 n y = true) := Lib.hid (fun y hy => HN.out.2.mark hkn hy)
                    have HC9 : Hid (lens f2 (kk + 1) = C + (f2 kk).length) := Lib.hid (by show lens f2 kk + (f2 kk).length = _; rw [HC.out])
                    generalize f2 kk = lk at *
                    obtain ⟨L9, hL9⟩ : ∃ L9, lk.length = L9 := ⟨_, rfl⟩
                    rw [hL9] at hLl HC9 hcp9 ⊢
                    have HL9 := Lib.hid hL9
                    have hC600 : C ≤ 600 := by omega
                    have hLl2 : ¬ lim < L9 := by omega
                    clear h9 hs9 hat9 hL9 HC HY
                    go_wp2
                    go_loopw [24] (fun i wz => ∃ j9 : Nat, j9 ≤ L9 ∧ i = .int .i64 j9 ∧ Hid (Ps W wz B g vs2 n lim f2 D P3 ∧ ShowI wz (.slice a9 L9 cp9) lk)) (fun i _ => L9 - (intOf i).toNat)
                    case atStart => exact ⟨0, by omega, rfl, Lib.hid ⟨H9.out.1, by have := H9.out.2; rwa [HL9.out] at this⟩⟩
                    case round =>
                      obtain ⟨j9, hj9, rfl, HZ⟩ := hrel
                      by_cases hjL : j9 < L9
                      · have hjl9 : j9 < lk.length := by rw [HL9.out]; exact hjL
                        obtain ⟨aZ, cZ, eZ, _, hatZ⟩ := HZ.out.2.form
                        rw [HL9.out] at eZ
                        cases eZ
                        obtain ⟨b5, o5, rfl, k6⟩ := hatZ j9 hjl9
                        obtain ⟨hr5, hp5, hh5⟩ := HM9.out _ (pk_mem hjl9)
                        obtain ⟨z5, hz5⟩ : ∃ z5 : Nat, pk lk j9 = z5 := ⟨(pk lk j9).toNat, by omega⟩
                        rw [hz5] at k6 hr5 hp5 hh5
                        rw [Int.toNat_natCast] at hp5
                        have hz51 : z5 < 1024 := by omega
                        have HB5 : Hid (bring (z5 : Int) 1024 = z5) := Lib.hid (by rw [bring_in hr5, Int.toNat_natCast])
                        obtain ⟨k7, k8⟩ := HZ.out.1.at hz51
                        rw [hp5] at k7
                        rw [show ((one true : Nat) : Int) = 1 from rfl] at k7
                        have HH5 := Lib.hid hh5
                        clear hatZ hr5 hp5 hh5 hz5 hjl9 H9
                        go_wp2_with fail
                        refine (cBringN _ 1024 1024 rfl (by decide) _).mono ?_
                        rintro e w10 ⟨rfl, rfl⟩
                        rw [HB5.out]
                        go_wp2_with fail
                        refine (pHas HZ.out.1 HH5.out).mono ?_
                        rintro e w11 ⟨rfl, h11, hb11⟩
                        have H11 := Lib.hid (And.intro h11 (HZ.out.2.below hb11))
                        clear h11 hb11 HZ k6 k7 k8
                        go_wp2
                        go_roundw
                        case rel => exact ⟨j9 + 1, by omega, by go_num, H11⟩
                        case measure => simp [intOf]; omega
                      · obtain rfl : j9 = L9 := by omega
                        have HZ1 := Lib.hid HZ.out.1
                        clear HZ H9
                        go_wp2
                        go_roundw
                        case rel => exact ⟨kk + 1, C + j9, by omega, by go_num, by go_num, by omega, HC9, HZ1⟩
                        case measure => simp [intOf]; omega
                  · obtain rfl : n = kk := by omega
                    have HC1 : Hid (sumN (fun x => one (P3 x)) 1024 = C) := Lib.hid (by rw [← HN.out.2.total]; exact HC.out)
                    have HI1 := Lib.hid HN.out.2
                    clear HC HN
                    go_wp2
                    go_loopw [25, 26] (fun s i wz => ∃ (x S : Nat), x ≤ 1024 ∧ s = .int .i64 S ∧ i = .int .i64 x ∧ S ≤ x ∧ Hid (sumN (fun x => one (P3 x)) x = S) ∧ Hid (Ps W wz B g vs2 n lim f2 D P3)) (fun _ i _ => 1024 - (intOf i).toNat)
                    case atStart => exact ⟨0, 0, by omega, rfl, rfl, by omega, Lib.hid rfl, HY⟩
                    case round =>
                      obtain ⟨x, S, hx, rfl, rfl, hS, HSx, HW⟩ := hrel
                      clear HY
                      by_cases hx1 : x < 1024
                      · obtain ⟨k9, _⟩ := HW.out.at hx1
                        have HS1 : Hid (sumN (fun x => one (P3 x)) (x + 1) = S + one (P3 x)) := Lib.hid (by show sumN (fun x => one (P3 x)) x + one (P3 x) = _; rw [HSx.out])
                        obtain ⟨y, hy⟩ : ∃ y, one (P3 x) = y := ⟨_, rfl⟩
                        have hy1 : y ≤ 1 := by rw [← hy]; unfold one; split <;> omega
                        rw [hy] at k9 HS1
                        clear hy HSx
                        go_wp2
                        go_roundw
                        case rel => exact ⟨x + 1, S + y, by omega, by go_num, by go_num, by omega, HS1, HW⟩
                        case measure => simp [intOf]; omega
                      · obtain rfl : x = 1024 := by omega
                        obtain rfl : S = C := HSx.out.symm.trans HC1.out
                        rw [show ((1024 : Nat) : Int) = 1024 from rfl]
                        clear HSx HC1
                        go_wp2
                        go_roundw
                        case rel => exact ⟨k + 1, _, _, _, by omega, by omega, by go_num, Lib.hid ⟨HW.out, HI1.out⟩⟩
                        case measure => simp [intOf]; omega
        · have hr := DrainIs.yes (n := n) (f := f) c hcn
          obtain ⟨f2, hf2⟩ : ∃ f2, upd f c [] = f2 := ⟨_, rfl⟩
          obtain ⟨out, hout⟩ : ∃ out, f c = out := ⟨_, rfl⟩
          have hI2 := HI0.out.drain hcn
          rw [hf2, hout] at hr hI2
          have HR := Lib.hid hr
          have HI2 := Lib.hid hI2
          clear hr hI2 HI0 hf2 hout
          go_wp2_with fail
          refine (pDrain HP0.out HR.out).mono ?_
          rintro e w6 ⟨v6, vs2, rfl, h6, hres⟩
          obtain ⟨a5, cp5, rfl, hcp5, _⟩ := hres.shows.form
          have HT : Hid (Ps W w6 B g vs2 n lim f2 D P ∧ Inv n f2 (out.drop 0) P ∧ Res w6 (.slice a5 out.length cp5) out (fun k => k ≠ D)) := Lib.hid ⟨h6, by rw [List.drop_zero]; exact HI2.out, hres⟩
          clear h6 hres HP0 HR HI2
          go_wp2
          go_loopw [19] (fun i wx => ∃ (j : Nat) (P3 : Nat → Bool), j ≤ out.length ∧ i = .int .i64 j ∧ Hid (Ps W wx B g vs2 n lim f2 D P3 ∧ Inv n f2 ((out : List Int).drop j) P3 ∧ Res wx (.slice a5 out.length cp5) out (fun k => k ≠ D))) (fun i _ => out.length - (intOf i).toNat)
          case atStart => exact ⟨0, _, Nat.zero_le _, rfl, HT⟩
          case round =>
            obtain ⟨j, P3, hj, rfl, HX⟩ := hrel
            clear HT
            by_cases hjl : j < out.length
            · obtain ⟨aX, cpX, eX, _, hatX⟩ := (Res.shows HX.out.2.2).form
              cases eX
              obtain ⟨b3, o3, e3, k3⟩ := hatX j hjl
              subst e3
              have hI := HX.out.2.1
              rw [drop_pk _ j hjl] at hI
              obtain ⟨hr, hp, hI3⟩ := hI.step
              obtain ⟨z, hz⟩ : ∃ z : Nat, pk out j = z := ⟨(pk out j).toNat, by omega⟩
              rw [hz] at k3 hr hp hI3
              rw [Int.toNat_natCast] at hp hI3
              have hz2 : z < 1024 := by omega
              have HB3 : Hid (bring (z : Int) 1024 = z) := Lib.hid (by rw [bring_in hr, Int.toNat_natCast])
              obtain ⟨k4, k5⟩ := HX.out.1.at hz2
              rw [hp] at k4
              rw [show ((one true : Nat) : Int) = 1 from rfl] at k4
              have HI3 := Lib.hid hI3
              clear hI hI3 hz hp hr hatX
              go_wp2_with fail
              refine (cBringN _ 1024 1024 rfl (by decide) _).mono ?_
              rintro e w8 ⟨rfl, rfl⟩
              rw [HB3.out]
              go_wp2
              go_roundw
              case rel => exact ⟨j + 1, _, by omega, by go_num, Lib.hid ⟨HX.out.1.set z false 0 rfl, HI3.out, res_set HX.out.2.2 z _⟩⟩
              case measure => simp [intOf]; omega
            · obtain rfl : j = out.length := by omega
              have HN := Lib.hid (And.intro HX.out.1 (show Inv n f2 [] P3 by have := HX.out.2.1; rwa [List.drop_length] at this))
              clear HX
              go_wp2
              go_loopw [21, 22] (fun cc i wy => ∃ (kk C : Nat), kk ≤ n ∧ cc = .int .i64 C ∧ i = .int .i64 kk ∧ C ≤ kk * 65 ∧ Hid (lens f2 kk = C) ∧ Hid (Ps W wy B g vs2 n lim f2 D P3)) (fun _ i _ => n - (intOf i).toNat)
              case atStart => exact ⟨0, 0, by omega, rfl, rfl, by omega, Lib.hid rfl, Lib.hid HN.out.1⟩
              case round =>
                obtain ⟨kk, C, hkk, rfl, rfl, hC, HC, HY⟩ := hrel
                by_cases hkn : kk < n
                · go_wp2_with fail
                  refine (pList HY.out hkn).mono ?_
                  rintro e w9 ⟨v9, rfl, h9, hs9⟩
                  obtain ⟨a9, cp9, rfl, hcp9, hat9⟩ := hs9.form
                  have H9 := Lib.hid (And.intro h9 hs9)
                  have hLl := HY.out.o.fine kk hkn
                  have HM9 : Hid (∀ y ∈ f2 kk, (0 ≤ y ∧ y < 1024) ∧ P3 y.toNat = true ∧ hasB f2 n y = true) := Lib.hid (fun y hy => HN.out.2.mark hkn hy)
                  have HC9 : Hid (lens f2 (kk + 1) = C + (f2 kk).length) := Lib.hid (by show lens f2 kk + (f2 kk).length = _; rw [HC.out])
                  generalize f2 kk = lk at *
                  obtain ⟨L9, hL9⟩ : ∃ L9, lk.length = L9 := ⟨_, rfl⟩
                  rw [hL9] at hLl HC9 hcp9 ⊢
                  have HL9 := Lib.hid hL9
                  have hC600 : C ≤ 600 := by omega
                  have hLl2 : ¬ lim < L9 := by omega
                  clear h9 hs9 hat9 hL9 HC HY
                  go_wp2
                  go_loopw [24] (fun i wz => ∃ j9 : Nat, j9 ≤ L9 ∧ i = .int .i64 j9 ∧ Hid (Ps W wz B g vs2 n lim f2 D P3 ∧ ShowI wz (.slice a9 L9 cp9) lk)) (fun i _ => L9 - (intOf i).toNat)
                  case atStart => exact ⟨0, by omega, rfl, Lib.hid ⟨H9.out.1, by have := H9.out.2; rwa [HL9.out] at this⟩⟩
                  case round =>
                    obtain ⟨j9, hj9, rfl, HZ⟩ := hrel
                    by_cases hjL : j9 < L9
                    · have hjl9 : j9 < lk.length := by rw [HL9.out]; exact hjL
                      obtain ⟨aZ, cZ, eZ, _, hatZ⟩ := HZ.out.2.form
                      rw [HL9.out] at eZ
                      cases eZ
                      obtain ⟨b5, o5, rfl, k6⟩ := hatZ j9 hjl9
                      obtain ⟨hr5, hp5, hh5⟩ := HM9.out _ (pk_mem hjl9)
                      obtain ⟨z5, hz5⟩ : ∃ z5 : Nat, pk lk j9 = z5 := ⟨(pk lk j9).toNat, by omega⟩
                      rw [hz5] at k6 hr5 hp5 hh5
                      rw [Int.toNat_natCast] at hp5
                      have hz51 : z5 < 1024 := by omega
                      have HB5 : Hid (bring (z5 : Int) 1024 = z5) := Lib.hid (by rw [bring_in hr5, Int.toNat_natCast])
                      obtain ⟨k7, k8⟩ := HZ.out.1.at hz51
                      rw [hp5] at k7
                      rw [show ((one true : Nat) : Int) = 1 from rfl] at k7
                      have HH5 := Lib.hid hh5
                      clear hatZ hr5 hp5 hh5 hz5 hjl9 H9
                      go_wp2_with fail
                      refine (cBringN _ 1024 1024 rfl (by decide) _).mono ?_
                      rintro e w10 ⟨rfl, rfl⟩
                      rw [HB5.out]
                      go_wp2_with fail
                      refine (pHas HZ.out.1 HH5.out).mono ?_
                      rintro e w11 ⟨rfl, h11, hb11⟩
                      have H11 := Lib.hid (And.intro h11 (HZ.out.2.below hb11))
                      clear h11 hb11 HZ k6 k7 k8
                      go_wp2
                      go_roundw
                      case rel => exact ⟨j9 + 1, by omega, by go_num, H11⟩
                      case measure => simp [intOf]; omega
                    · obtain rfl : j9 = L9 := by omega
                      have HZ1 := Lib.hid HZ.out.1
                      clear HZ H9
                      go_wp2
                      go_roundw
                      case rel => exact ⟨kk + 1, C + j9, by omega, by go_num, by go_num, by omega, HC9, HZ1⟩
                      case measure => simp [intOf]; omega
                · obtain rfl : n = kk := by omega
                  have HC1 : Hid (sumN (fun x => one (P3 x)) 1024 = C) := Lib.hid (by rw [← HN.out.2.total]; exact HC.out)
                  have HI1 := Lib.hid HN.out.2
                  clear HC HN
                  go_wp2
                  go_loopw [25, 26] (fun s i wz => ∃ (x S : Nat), x ≤ 1024 ∧ s = .int .i64 S ∧ i = .int .i64 x ∧ S ≤ x ∧ Hid (sumN (fun x => one (P3 x)) x = S) ∧ Hid (Ps W wz B g vs2 n lim f2 D P3)) (fun _ i _ => 1024 - (intOf i).toNat)
                  case atStart => exact ⟨0, 0, by omega, rfl, rfl, by omega, Lib.hid rfl, HY⟩
                  case round =>
                    obtain ⟨x, S, hx, rfl, rfl, hS, HSx, HW⟩ := hrel
                    clear HY
                    by_cases hx1 : x < 1024
                    · obtain ⟨k9, _⟩ := HW.out.at hx1
                      have HS1 : Hid (sumN (fun x => one (P3 x)) (x + 1) = S + one (P3 x)) := Lib.hid (by show sumN (fun x => one (P3 x)) x + one (P3 x) = _; rw [HSx.out])
                      obtain ⟨y, hy⟩ : ∃ y, one (P3 x) = y := ⟨_, rfl⟩
                      have hy1 : y ≤ 1 := by rw [← hy]; unfold one; split <;> omega
                      rw [hy] at k9 HS1
                      clear hy HSx
                      go_wp2
                      go_roundw
                      case rel => exact ⟨x + 1, S + y, by omega, by go_num, by go_num, by omega, HS1, HW⟩
                      case measure => simp [intOf]; omega
                    · obtain rfl : x = 1024 := by omega
                      obtain rfl : S = C := HSx.out.symm.trans HC1.out
                      rw [show ((1024 : Nat) : Int) = 1024 from rfl]
                      clear HSx HC1
                      go_wp2
                      go_roundw
                      case rel => exact ⟨k + 1, _, _, _, by omega, by omega, by go_num, Lib.hid ⟨HW.out, HI1.out⟩⟩
                      case measure => simp [intOf]; omega
      · obtain rfl : k = 150 := by omega
        rw [show ((150 : Nat) : Int) = 150 from rfl]
        have HB := Lib.hid HS.out.1.o.low
        go_wp2
        go_ret
        exact ⟨rfl, HB.out⟩
    · obtain rfl : k = l.length := by omega
      have HB := Lib.hid HS.out.1.o.low
      go_wp2
      go_ret
      exact ⟨rfl, HB.out⟩
end Go.Proofs.Ytpmlmpkjmgebnaa
