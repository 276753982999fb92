/-
  The law OwnerOnce, walked.
-/
import Derived.Test.YtoffakamlpfgoaaArr
set_option linter.unusedVariables false
set_option linter.unusedSimpArgs false
namespace Go.Proofs.Ytoffakamlpfgoaa
open Go Go.RowKit

set_option maxHeartbeats 8000000 in
set_option maxRecDepth 100000 in
theorem walkOnce (u : Value) (l : List Qd) (W : World) (hs : ShowD W u l) : Calls Try.prog 4 #[u] W fun e W' => e = .returned (.bool true) ∧ Below W.heap.size W W' := by
  obtain ⟨ao, cap, rfl, hcap, hat⟩ := hs.form
  obtain ⟨ZU, hzeroU, hZU⟩ := makeU
  have HZU := Lib.hid hZU
  clear hZU hs
  go_enter Try.func4, Try.ntmps4
  go_wp2_with fail
  refine (works _).mono ?_
  rintro e w0 ⟨rfl, hb0⟩
  have HB0 := Lib.hid hb0
  clear hb0
  go_wp2_with fail
  refine (oNew 6 7 (by decide) _).mono ?_
  rintro e w1 ⟨B, b, rfl, h1⟩
  replace h1 := h1.lower HB0.out
  have HU0 : Hid (UA W (w1.alloc (.cells ZU 40)) B b noO w1.heap.size noO) := Lib.hid ⟨h1.alloc _, HZU.out w1, h1.low.size⟩
  clear h1 HB0
  go_wp2
  obtain ⟨U, hU⟩ : ∃ U, w1.heap.size = U := ⟨_, rfl⟩
  obtain ⟨w2, hw2⟩ : ∃ w2, w1.alloc (.cells ZU 40) = w2 := ⟨_, rfl⟩
  rw [hw2, hU] at HU0
  simp only [hw2, hU]
  clear hw2 hU HZU hzeroU
  go_loopw [6] (fun i wr => ∃ k : Nat, k ≤ l.length ∧ k ≤ 150 ∧ i = .int .i64 k ∧ Hid (∃ f, UA W wr B b f U f)) (fun i _ => l.length - (intOf i).toNat)
  case atStart => exact ⟨0, by omega, by omega, rfl, Lib.hid ⟨_, HU0.out⟩⟩
  case round =>
    clear HU0
    obtain ⟨k, hk, hk150, rfl, HS⟩ := hrel
    obtain ⟨f, hf⟩ := HS.out
    have HT := Lib.hid hf
    clear hf HS
    by_cases hgo : k < l.length ∧ k < 150
    · obtain ⟨hlt, hlt2⟩ := hgo
      obtain ⟨b1, o1, rfl, d0, d1, d2, d3, d4⟩ := hat k hlt
      replace d0 := cell_keep HT.out.o.low d0
      replace d1 := cell_keep HT.out.o.low d1
      replace d2 := cell_keep HT.out.o.low d2
      replace d3 := cell_keep HT.out.o.low d3
      replace d4 := cell_keep HT.out.o.low d4
      generalize (qd l k).kind = kd at d0
      generalize (qd l k).slab = s at d1
      generalize (qd l k).i = i at d2
      generalize (qd l k).g = g at d3
      generalize (qd l k).to = t at d4
      obtain ⟨q, hq⟩ : ∃ q, bring kd 3 = q := ⟨_, rfl⟩
      have HQ := Lib.hid hq
      have hq3 : q < 3 := by rw [← hq]; exact bring_lt kd 3 (by decide)
      obtain ⟨x, hx⟩ : ∃ x, bring s 6 = x := ⟨_, rfl⟩
      have hx6 : x < 6 := by rw [← hx]; exact bring_lt s 6 (by decide)
      obtain ⟨y, hy⟩ : ∃ y, bring i 7 = y := ⟨_, rfl⟩
      have hy7 : y < 7 := by rw [← hy]; exact bring_lt i 7 (by decide)
      obtain ⟨z0, hz0⟩ : ∃ z, bring g 16 = z := ⟨_, rfl⟩
      have hz16 : z0 < 16 := by rw [← hz0]; exact bring_lt g 16 (by decide)
      obtain ⟨t0, ht0⟩ : ∃ z, bring t 16 = z := ⟨_, rfl⟩
      have ht16 : t0 < 16 := by rw [← ht0]; exact bring_lt t 16 (by decide)
      obtain ⟨z, hz⟩ : ∃ z, z0 + 1 = z := ⟨_, rfl⟩
      have hz1 : 1 ≤ z ∧ z < 17 := by omega
      obtain ⟨t1, ht⟩ : ∃ z, t0 + 1 = z := ⟨_, rfl⟩
      have ht1 : 1 ≤ t1 ∧ t1 < 17 := by omega
      have hxb : (0 : Int) ≤ (x : Int) ∧ (x : Int) < 6 := by omega
      have hyb : (0 : Int) ≤ (y : Int) ∧ (y : Int) < 7 := by omega
      have HGZ : Hid (grp (z : Int)) := Lib.hid ⟨by omega, by omega⟩
      have HGT : Hid (grp (t1 : Int)) := Lib.hid ⟨by omega, by omega⟩
      have HIN : Hid (inn 6 7 (x : Int) (y : Int)) := Lib.hid ⟨by omega, by omega, by omega, by omega⟩
      have HM1 : Hid (s % 6 = (x : Int)) := Lib.hid (by rw [← hx]; exact (bring_int s 6 (by decide)).symm)
      have HM2 : Hid (i % 7 = (y : Int)) := Lib.hid (by rw [← hy]; exact (bring_int i 7 (by decide)).symm)
      have HM3 : Hid (g % 16 = (z0 : Int)) := Lib.hid (by rw [← hz0]; exact (bring_int g 16 (by decide)).symm)
      have HM4 : Hid (t % 16 = (t0 : Int)) := Lib.hid (by rw [← ht0]; exact (bring_int t 16 (by decide)).symm)
      have HTA := Lib.hid (HT.out.below (below_one (Below.refl _ wr) (.cells #[.int .i64 kd, .int .i64 s, .int .i64 i, .int .i64 g, .int .i64 t] 31)))
      have HX := Lib.hid (heap_new wr (.cells #[.int .i64 kd, .int .i64 s, .int .i64 i, .int .i64 g, .int .i64 t] 31))
      have hw1 : IntKind.i64.wrap (1 + g % 16) = (z : Int) := by rw [HM3.out, IntWalk.i64_in _ (by omega)]; omega
      have hw2 : IntKind.i64.wrap (1 + t % 16) = (t1 : Int) := by rw [HM4.out, IntWalk.i64_in _ (by omega)]; omega
      clear hq hx hy hz0 ht0 hz ht HT
      go_wp2
      obtain ⟨D, hD⟩ : ∃ D, wr.heap.size = D := ⟨_, rfl⟩
      obtain ⟨w3, hw3⟩ : ∃ w3, wr.alloc (.cells #[.int .i64 kd, .int .i64 s, .int .i64 i, .int .i64 g, .int .i64 t] 31) = w3 := ⟨_, rfl⟩
      rw [hw3] at HTA HX
      rw [hD] at HX
      simp only [hw3, hD]
      clear hw3 hD d0 d1 d2 d3 d4
      have d0 := self_cell HX.out 0 _ rfl
      have d1 := self_cell HX.out 1 _ rfl
      have d2 := self_cell HX.out 2 _ rfl
      have d3 := self_cell HX.out 3 _ rfl
      have d4 := self_cell HX.out 4 _ rfl
      go_quiet ((go_at_call 9; exact Calls.quiet_of_same (cBringM _ _ (by decide) _)))
      rw [HM1.out, HM2.out]
      have HT4 := Lib.hid (HTA.out.below (below_drewN (Below.refl _ w3) nq))
      have HX4 := Lib.hid (keep_block HX.out (below_drewN (Below.refl _ w3) nq))
      obtain ⟨w4, hw4⟩ : ∃ w4, w3.drewN nq = w4 := ⟨_, rfl⟩
      rw [hw4] at HT4 HX4 ⊢
      clear hw4 d0 d1 d2 d3 d4 HTA HX HM1 HM2 HM3 HM4 hw1 hw2
      have d0 := self_cell HX4.out 0 _ rfl
      go_wp2_with fail
      refine (cBringN kd 3 3 rfl (by decide) _).mono ?_
      rintro e w5 ⟨rfl, rfl⟩
      rw [HQ.out]
      clear HQ d0 HX4
      obtain ⟨G, hG⟩ : ∃ G, f (x : Int) (y : Int) = G := ⟨_, rfl⟩
      have HG := Lib.hid hG
      have HGP := Lib.hid (HT4.out.o.v.oi.pos (x : Int) (y : Int))
      rw [hG] at HGP
      clear hG
      rcases (by omega : q = 0 ∨ q = 1 ∨ q = 2) with rfl | rfl | rfl
      · have hd := HT4.out.drew
        by_cases hG0 : G = 0
        · have HZ : Hid (f (x : Int) (y : Int) = 0) := Lib.hid (HG.out.trans hG0)
          have HR := Lib.hid (SetIs.ok HIN.out HGZ.out HZ.out)
          clear HG HGP hG0
          go_wp2
          go_region_held3 (fun w' => w'.cell? ⟨U, x * 7 + y, none⟩ = some (.int .i64 0))
            (first | exact ((show UA W _ B b _ U f from by assumption).cu hx6 hy7).trans (by rw [HZ.out]))
            (first
              | (go_at_call 10; refine (oSet (show UA W _ B b _ U f from by assumption).o HR.out).mono ?_; rintro e w6 ⟨rfl, h6, k6⟩; have hm := hd.km h6 k6))
          all_goals
            have HM := Lib.hid (hm.put hx6 hy7 (z : Int))
            have c9 := (hm.cu hx6 hy7).trans (by rw [HZ.out])
            have f9 := hm.fu (x * 7 + y)
            clear hm hd h6 k6
            go_wp2
            go_roundw
            case rel => exact ⟨k + 1, by omega, by omega, by go_num, Lib.hid ⟨_, HM.out⟩⟩
            case measure => simp [intOf]; omega
        · have HR := Lib.hid (SetIs.own (f := f) HIN.out HGZ.out (by rw [HG.out]; exact hG0))
          have hg0 : (G == 0) = false := by simpa using hG0
          clear HGP hG0
          go_wp2
          go_region_held3 (fun w' => w'.cell? ⟨U, x * 7 + y, none⟩ = some (.int .i64 G))
            (first | exact ((show UA W _ B b _ U f from by assumption).cu hx6 hy7).trans (by rw [HG.out]))
            (first
              | (go_at_call 10; refine (oSet (show UA W _ B b _ U f from by assumption).o HR.out).mono ?_; rintro e w6 ⟨rfl, h6, k6⟩; have hm := hd.km h6 k6))
          all_goals
            have HM := Lib.hid hm
            have c9 := (hm.cu hx6 hy7).trans (by rw [HG.out])
            clear hm hd h6 k6
            go_wp2
            go_roundw
            case rel => exact ⟨k + 1, by omega, by omega, by go_num, Lib.hid ⟨_, HM.out⟩⟩
            case measure => simp [intOf]; omega
      · by_cases hG0 : G = 0
        · have HZ : Hid (f (x : Int) (y : Int) = 0) := Lib.hid (HG.out.trans hG0)
          have HR := Lib.hid (ClearIs.none HIN.out HZ.out)
          clear HG HGP hG0
          go_wp2_with fail
          refine (oClear HT4.out.o HR.out).mono ?_
          rintro e w6 ⟨rfl, h6, k6⟩
          have hm := HT4.out.km h6 k6
          have HM := Lib.hid ((hm.put hx6 hy7 0).congr (upd_id HZ.out))
          have c9 := (hm.cu hx6 hy7).trans (by rw [HZ.out])
          have f9 := hm.fu (x * 7 + y)
          clear hm h6 k6 HT4
          go_wp2
          go_roundw
          case rel => exact ⟨k + 1, by omega, by omega, by go_num, Lib.hid ⟨_, HM.out⟩⟩
          case measure => simp [intOf]; omega
        · have HR := Lib.hid (ClearIs.ok (f := f) HIN.out (by rw [HG.out]; exact hG0))
          rw [HG.out] at HR
          have hgp : (0 : Int) < G := by have := HGP.out.1; omega
          have hgg : (G != G) = false := by simp
          clear HGP hG0
          go_wp2_with fail
          refine (oClear HT4.out.o HR.out).mono ?_
          rintro e w6 ⟨rfl, h6, k6⟩
          have hm := HT4.out.km h6 k6
          have HM := Lib.hid (hm.put hx6 hy7 0)
          have c9 := (hm.cu hx6 hy7).trans (by rw [HG.out])
          have f9 := hm.fu (x * 7 + y)
          clear hm h6 k6 HT4
          go_wp2
          go_roundw
          case rel => exact ⟨k + 1, by omega, by omega, by go_num, Lib.hid ⟨_, HM.out⟩⟩
          case measure => simp [intOf]; omega
      · clear HG HGP
        obtain ⟨n, hn⟩ := move_any 6 7 f HGZ.out HGT.out
        have HR := Lib.hid hn
        have HOI := Lib.hid HT4.out.o.v.oi
        clear hn
        go_wp2_with fail
        refine (oMove HT4.out.o HR.out).mono ?_
        rintro e w6 ⟨rfl, h6, k6⟩
        have HM0 : Hid (UA W w6 B b (mov f z t1) U (movP f z t1 0 0)) := Lib.hid ((HT4.out.km h6 k6).congr (movP_start HOI.out _ HGZ.out).symm)
        clear h6 k6 HT4 HR
        go_wp2
        try simp only [show decide ((k : Int) < 150) = true from decide_eq_true (by omega)]
        go_loopw [14, 15] (fun u _ wr => ∃ a : Nat, a ≤ 6 ∧ u = .int .i64 a ∧ Hid (UA W wr B b (mov f z t1) U (movP f z t1 a 0))) (fun u _ _ => 6 - (intOf u).toNat)
        case atStart => exact ⟨0, by omega, rfl, HM0⟩
        case round =>
          clear HM0
          obtain ⟨a, ha, rfl, HM⟩ := hrel
          by_cases ha6 : a < 6
          · go_wp2
            try simp only [show decide ((k : Int) < 150) = true from decide_eq_true (by omega), show decide ((a : Int) < 6) = true from decide_eq_true (by omega)]
            go_loopw [15] (fun u wr => ∃ c : Nat, c ≤ 7 ∧ u = .int .i64 c ∧ Hid (UA W wr B b (mov f z t1) U (movP f z t1 a c))) (fun u _ => 7 - (intOf u).toNat)
            case atStart => exact ⟨0, by omega, rfl, HM⟩
            case round =>
              clear HM
              obtain ⟨c, hc, rfl, HM⟩ := hrel
              by_cases hc7 : c < 7
              · have c9 := HM.out.cu ha6 hc7
                rw [movP_here] at c9
                have f9 := HM.out.fu (a * 7 + c)
                by_cases hfz : f a c = z
                · have hzz : (f a c == (z : Int)) = true := by simp [hfz]
                  have HN := Lib.hid ((HM.out.put ha6 hc7 (t1 : Int)).congr (movP_hit hfz))
                  clear HM hfz
                  generalize f (a : Int) (c : Int) = K at c9 hzz
                  go_wp2
                  go_roundw
                  case rel => exact ⟨c + 1, by omega, by go_num, HN⟩
                  case measure => simp [intOf]; omega
                · have hzz : (f a c == (z : Int)) = false := by simp [hfz]
                  have HN := Lib.hid (HM.out.congr (movP_miss (c := (t1 : Int)) hfz).symm)
                  clear HM hfz
                  generalize f (a : Int) (c : Int) = K at c9 hzz
                  go_wp2
                  go_roundw
                  case rel => exact ⟨c + 1, by omega, by go_num, HN⟩
                  case measure => simp [intOf]; omega
              · have hc1 : c = 7 := by omega
                subst hc1
                have HN := Lib.hid (HM.out.congr (movP_row HOI.out _ HGZ.out a))
                clear HM
                rw [show ((7 : Nat) : Int) = 7 from rfl]
                go_wp2
                go_roundw
                case rel => exact ⟨a + 1, by omega, by go_num, HN⟩
                case measure => simp [intOf]; omega
          · have ha1 : a = 6 := by omega
            subst ha1
            have HN := Lib.hid (HM.out.congr (movP_end HOI.out _ HGZ.out))
            clear HM
            rw [show ((6 : Nat) : Int) = 6 from rfl]
            go_wp2
            go_roundw
            case rel => exact ⟨k + 1, by omega, by omega, by go_num, Lib.hid ⟨_, HN.out⟩⟩
            case measure => simp [intOf]; omega
    · by_cases hlt : k < l.length
      · have hk1 : k = 150 := by omega
        subst hk1
        rw [show ((150 : Nat) : Int) = 150 from rfl]
        clear hat
        go_wp2
        go_loopw [16, 18, 19, 20] (fun u a _ _ wr => ∃ X : Nat, X ≤ 6 ∧ a = .int .i64 X ∧ u = .int .i64 ((cntP (nz f) 7 X 0 : Nat) : Int) ∧ Hid (UA W wr B b f U f)) (fun _ a _ _ _ => 6 - (intOf a).toNat)
        case atStart => exact ⟨0, by omega, rfl, rfl, HT⟩
        case round =>
          clear HT
          obtain ⟨X, hX, rfl, rfl, HM⟩ := hrel
          obtain ⟨C, hC⟩ : ∃ C, cntP (nz f) 7 X 0 = C := ⟨_, rfl⟩
          have hC5 : C ≤ 5000 := by rw [← hC]; exact cntP_le _ (by omega) (by decide) (by decide)
          rw [hC]
          have HC := Lib.hid hC
          clear hC
          by_cases hX6 : X < 6
          · go_wp2
            try simp only [show decide ((X : Int) < 6) = true from decide_eq_true (by omega)]
            go_loopw [16, 19, 20] (fun u v c wr => ∃ (Y : Nat) (bs : Bool), Y ≤ 7 ∧ c = .int .i64 Y ∧ u = .int .i64 ((cntP (nz f) 7 X Y : Nat) : Int) ∧ v = .bool bs ∧ Hid (bs = true ↔ 0 < rowC (nz f) X Y) ∧ Hid (UA W wr B b f U f)) (fun _ _ c _ => 7 - (intOf c).toNat)
            case atStart => exact ⟨0, false, by omega, rfl, by rw [HC.out], rfl, Lib.hid ⟨fun e => (by cases e), fun e => absurd e (Nat.lt_irrefl 0)⟩, HM⟩
            case round =>
              clear HM HC hC5
              obtain ⟨Y, bs, hY, rfl, rfl, rfl, HBS, HM⟩ := hrel
              obtain ⟨C, hC⟩ : ∃ C, cntP (nz f) 7 X Y = C := ⟨_, rfl⟩
              have hC5 : C ≤ 5000 := by rw [← hC]; exact cntP_le _ (by omega) (by decide) (by omega)
              rw [hC]
              have HC := Lib.hid hC
              clear hC
              by_cases hY7 : Y < 7
              · have hXb : (0 : Int) ≤ (X : Int) ∧ (X : Int) < 6 := by omega
                have hYb : (0 : Int) ≤ (Y : Int) ∧ (Y : Int) < 7 := by omega
                have HWX := Lib.hid (wf_small (x := (X : Int)) ⟨by omega, by omega⟩)
                have HWY := Lib.hid (wf_small (x := (Y : Int)) ⟨by omega, by omega⟩)
                have c9 := HM.out.cu hX6 hY7
                have HGP := Lib.hid (HM.out.o.v.oi.pos (X : Int) (Y : Int))
                have HST : Hid (cntP (nz f) 7 X (Y + 1) = C + b1 (nz f X Y) ∧ rowC (nz f) X (Y + 1) = rowC (nz f) X Y + b1 (nz f X Y)) := Lib.hid ⟨by rw [cntP_step, HC.out], rowC_step _ _ _⟩
                have HNZ : Hid (nz f X Y = decide (0 < f X Y)) := Lib.hid rfl
                obtain ⟨G, hG⟩ : ∃ G, f (X : Int) (Y : Int) = G := ⟨_, rfl⟩
                rw [hG] at c9 HGP HNZ
                have HG := Lib.hid hG
                have hgg : (G != G) = false := by simp
                clear hG
                by_cases hG0 : 0 < G
                · have HS1 : Hid (cntP (nz f) 7 X (Y + 1) = C + 1) := Lib.hid (by rw [HST.out.1, HNZ.out, decide_eq_true hG0]; rfl)
                  have HB1 : Hid (0 < rowC (nz f) X (Y + 1)) := Lib.hid (by rw [HST.out.2, HNZ.out, decide_eq_true hG0]; show 0 < rowC (nz f) X Y + 1; omega)
                  clear HGP HST HNZ HBS
                  go_wp2
                  go_quiet ((go_at_call 18; exact Calls.quiet_of_same (oOf (HM.out.o.drewN _) HWX.out HWY.out HG.out)))
                  have HN := Lib.hid (HM.out.below (below_drewN (Below.refl _ wr) nq))
                  obtain ⟨w8, hw8⟩ : ∃ w8, wr.drewN nq = w8 := ⟨_, rfl⟩
                  rw [hw8] at HN ⊢
                  have c8 := (HN.out.cu hX6 hY7).trans (by rw [HG.out])
                  clear hw8 c9 HM HG
                  go_wp2
                  go_roundw
                  case rel => exact ⟨Y + 1, true, by omega, by go_num, by rw [HS1.out]; go_num, rfl, Lib.hid ⟨fun _ => HB1.out, fun _ => rfl⟩, HN⟩
                  case measure => simp [intOf]; omega
                · have HS1 : Hid (cntP (nz f) 7 X (Y + 1) = C) := Lib.hid (by rw [HST.out.1, HNZ.out, decide_eq_false hG0]; rfl)
                  have HB1 : Hid (bs = true ↔ 0 < rowC (nz f) X (Y + 1)) := Lib.hid (by rw [HST.out.2, HNZ.out, decide_eq_false hG0]; exact HBS.out)
                  clear HGP HST HNZ HBS
                  go_wp2
                  go_quiet ((go_at_call 18; exact Calls.quiet_of_same (oOf (HM.out.o.drewN _) HWX.out HWY.out HG.out)))
                  have HN := Lib.hid (HM.out.below (below_drewN (Below.refl _ wr) nq))
                  obtain ⟨w8, hw8⟩ : ∃ w8, wr.drewN nq = w8 := ⟨_, rfl⟩
                  rw [hw8] at HN ⊢
                  have c8 := (HN.out.cu hX6 hY7).trans (by rw [HG.out])
                  clear hw8 c9 HM HG
                  go_wp2
                  go_roundw
                  case rel => exact ⟨Y + 1, bs, by omega, by go_num, by rw [HS1.out], rfl, HB1, HN⟩
                  case measure => simp [intOf]; omega
              · have hY1 : Y = 7 := by omega
                subst hY1
                rw [show ((7 : Nat) : Int) = 7 from rfl]
                have HWX := Lib.hid (wf_small (x := (X : Int)) ⟨by omega, by omega⟩)
                have HQ : Hid ((!bs) = true ↔ Emp 6 7 f X) := Lib.hid (by
                  rw [← rowC_emp HM.out.o.v.oi hX6]
                  have := HBS.out
                  cases bs
                  · simp at this ⊢
                    omega
                  · simp at this ⊢
                    omega)
                have hbb : ((!bs) == bs) = false := by cases bs <;> rfl
                have HR : Hid (cntP (nz f) 7 (X + 1) 0 = C) := Lib.hid (by rw [cntP_row, HC.out])
                clear HBS HC
                go_wp2_with fail
                refine (oEmpty HM.out.o HWX.out (!bs) HQ.out).mono ?_
                rintro e w8 ⟨rfl, _, hb8⟩
                have HN := Lib.hid (HM.out.below hb8)
                clear hb8 HM
                go_wp2
                go_roundw
                case rel => exact ⟨X + 1, by omega, by go_num, by rw [HR.out], HN⟩
                case measure => simp [intOf]; omega
          · have hX1 : X = 6 := by omega
            subst hX1
            rw [show ((6 : Nat) : Int) = 6 from rfl]
            have HE : Hid (sumG 6 7 f 17 = C) := Lib.hid (by rw [sumG_nz HM.out.o.v.oi, ← cntP_end, HC.out])
            have HO := Lib.hid HM.out.o
            clear HC HM
            go_wp2
            go_loopw [17, 21] (fun u a wr => ∃ j : Nat, 1 ≤ j ∧ j ≤ 17 ∧ a = .int .i64 j ∧ u = .int .i64 ((sumG 6 7 f j : Nat) : Int) ∧ Hid (O1 W wr B b 6 7 f)) (fun _ a _ => 17 - (intOf a).toNat)
            case atStart => exact ⟨1, by omega, by omega, rfl, rfl, HO⟩
            case round =>
              clear HO
              obtain ⟨j, hj1, hj17, rfl, rfl, HO⟩ := hrel
              obtain ⟨M, hM⟩ : ∃ M, sumG 6 7 f j = M := ⟨_, rfl⟩
              have hM4 : M ≤ 42 := by rw [← hM]; exact sumG_le f hj17
              rw [hM]
              have HMM := Lib.hid hM
              clear hM
              by_cases hj : j < 17
              · obtain ⟨m, hm⟩ : ∃ m, countF 6 7 f (j : Int) = m := ⟨_, rfl⟩
                have hm4 : m ≤ 4096 := by rw [← hm]; exact countF_le _ _ _ _ (by decide) (by decide)
                have HS : Hid (sumG 6 7 f (j + 1) = M + m) := Lib.hid (by rw [sumG_step _ _ _ hj1, HMM.out, hm])
                have HM := Lib.hid hm
                clear hm HMM
                go_wp2_with fail
                refine (oCount HO.out _ m HM.out).mono ?_
                rintro e w8 ⟨rfl, h8, _⟩
                have HO8 := Lib.hid h8
                clear h8 HO
                go_wp2
                go_roundw
                case rel => exact ⟨j + 1, by omega, by omega, by go_num, by rw [HS.out]; go_num, HO8⟩
                case measure => simp [intOf]; omega
              · have hj2 : j = 17 := by omega
                subst hj2
                rw [show ((17 : Nat) : Int) = 17 from rfl]
                have HCM : Hid (C = M) := Lib.hid (HE.out.symm.trans HMM.out)
                go_wp2
                go_ret
                exact ⟨ret_bool (by rw [HCM.out]; simp), HO.out.low⟩
      · have hk1 : l.length = k := by omega
        rw [hk1] at hcap ⊢
        clear hat
        clear hk1 hlt hgo hk
        go_wp2
        go_loopw [16, 18, 19, 20] (fun u a _ _ wr => ∃ X : Nat, X ≤ 6 ∧ a = .int .i64 X ∧ u = .int .i64 ((cntP (nz f) 7 X 0 : Nat) : Int) ∧ Hid (UA W wr B b f U f)) (fun _ a _ _ _ => 6 - (intOf a).toNat)
        case atStart => exact ⟨0, by omega, rfl, rfl, HT⟩
        case round =>
          clear HT
          obtain ⟨X, hX, rfl, rfl, HM⟩ := hrel
          obtain ⟨C, hC⟩ : ∃ C, cntP (nz f) 7 X 0 = C := ⟨_, rfl⟩
          have hC5 : C ≤ 5000 := by rw [← hC]; exact cntP_le _ (by omega) (by decide) (by decide)
          rw [hC]
          have HC := Lib.hid hC
          clear hC
          by_cases hX6 : X < 6
          · go_wp2
            try simp only [show decide ((X : Int) < 6) = true from decide_eq_true (by omega)]
            go_loopw [16, 19, 20] (fun u v c wr => ∃ (Y : Nat) (bs : Bool), Y ≤ 7 ∧ c = .int .i64 Y ∧ u = .int .i64 ((cntP (nz f) 7 X Y : Nat) : Int) ∧ v = .bool bs ∧ Hid (bs = true ↔ 0 < rowC (nz f) X Y) ∧ Hid (UA W wr B b f U f)) (fun _ _ c _ => 7 - (intOf c).toNat)
            case atStart => exact ⟨0, false, by omega, rfl, by rw [HC.out], rfl, Lib.hid ⟨fun e => (by cases e), fun e => absurd e (Nat.lt_irrefl 0)⟩, HM⟩
            case round =>
              clear HM HC hC5
              obtain ⟨Y, bs, hY, rfl, rfl, rfl, HBS, HM⟩ := hrel
              obtain ⟨C, hC⟩ : ∃ C, cntP (nz f) 7 X Y = C := ⟨_, rfl⟩
              have hC5 : C ≤ 5000 := by rw [← hC]; exact cntP_le _ (by omega) (by decide) (by omega)
              rw [hC]
              have HC := Lib.hid hC
              clear hC
              by_cases hY7 : Y < 7
              · have hXb : (0 : Int) ≤ (X : Int) ∧ (X : Int) < 6 := by omega
                have hYb : (0 : Int) ≤ (Y : Int) ∧ (Y : Int) < 7 := by omega
                have HWX := Lib.hid (wf_small (x := (X : Int)) ⟨by omega, by omega⟩)
                have HWY := Lib.hid (wf_small (x := (Y : Int)) ⟨by omega, by omega⟩)
                have c9 := HM.out.cu hX6 hY7
                have HGP := Lib.hid (HM.out.o.v.oi.pos (X : Int) (Y : Int))
                have HST : Hid (cntP (nz f) 7 X (Y + 1) = C + b1 (nz f X Y) ∧ rowC (nz f) X (Y + 1) = rowC (nz f) X Y + b1 (nz f X Y)) := Lib.hid ⟨by rw [cntP_step, HC.out], rowC_step _ _ _⟩
                have HNZ : Hid (nz f X Y = decide (0 < f X Y)) := Lib.hid rfl
                obtain ⟨G, hG⟩ : ∃ G, f (X : Int) (Y : Int) = G := ⟨_, rfl⟩
                rw [hG] at c9 HGP HNZ
                have HG := Lib.hid hG
                have hgg : (G != G) = false := by simp
                clear hG
                by_cases hG0 : 0 < G
                · have HS1 : Hid (cntP (nz f) 7 X (Y + 1) = C + 1) := Lib.hid (by rw [HST.out.1, HNZ.out, decide_eq_true hG0]; rfl)
                  have HB1 : Hid (0 < rowC (nz f) X (Y + 1)) := Lib.hid (by rw [HST.out.2, HNZ.out, decide_eq_true hG0]; show 0 < rowC (nz f) X Y + 1; omega)
                  clear HGP HST HNZ HBS
                  go_wp2
                  go_quiet ((go_at_call 18; exact Calls.quiet_of_same (oOf (HM.out.o.drewN _) HWX.out HWY.out HG.out)))
                  have HN := Lib.hid (HM.out.below (below_drewN (Below.refl _ wr) nq))
                  obtain ⟨w8, hw8⟩ : ∃ w8, wr.drewN nq = w8 := ⟨_, rfl⟩
                  rw [hw8] at HN ⊢
                  have c8 := (HN.out.cu hX6 hY7).trans (by rw [HG.out])
                  clear hw8 c9 HM HG
                  go_wp2
                  go_roundw
                  case rel => exact ⟨Y + 1, true, by omega, by go_num, by rw [HS1.out]; go_num, rfl, Lib.hid ⟨fun _ => HB1.out, fun _ => rfl⟩, HN⟩
                  case measure => simp [intOf]; omega
                · have HS1 : Hid (cntP (nz f) 7 X (Y + 1) = C) := Lib.hid (by rw [HST.out.1, HNZ.out, decide_eq_false hG0]; rfl)
                  have HB1 : Hid (bs = true ↔ 0 < rowC (nz f) X (Y + 1)) := Lib.hid (by rw [HST.out.2, HNZ.out, decide_eq_false hG0]; exact HBS.out)
                  clear HGP HST HNZ HBS
                  go_wp2
                  go_quiet ((go_at_call 18; exact Calls.quiet_of_same (oOf (HM.out.o.drewN _) HWX.out HWY.out HG.out)))
                  have HN := Lib.hid (HM.out.below (below_drewN (Below.refl _ wr) nq))
                  obtain ⟨w8, hw8⟩ : ∃ w8, wr.drewN nq = w8 := ⟨_, rfl⟩
                  rw [hw8] at HN ⊢
                  have c8 := (HN.out.cu hX6 hY7).trans (by rw [HG.out])
                  clear hw8 c9 HM HG
                  go_wp2
                  go_roundw
                  case rel => exact ⟨Y + 1, bs, by omega, by go_num, by rw [HS1.out], rfl, HB1, HN⟩
                  case measure => simp [intOf]; omega
              · have hY1 : Y = 7 := by omega
                subst hY1
                rw [show ((7 : Nat) : Int) = 7 from rfl]
                have HWX := Lib.hid (wf_small (x := (X : Int)) ⟨by omega, by omega⟩)
                have HQ : Hid ((!bs) = true ↔ Emp 6 7 f X) := Lib.hid (by
                  rw [← rowC_emp HM.out.o.v.oi hX6]
                  have := HBS.out
                  cases bs
                  · simp at this ⊢
                    omega
                  · simp at this ⊢
                    omega)
                have hbb : ((!bs) == bs) = false := by cases bs <;> rfl
                have HR : Hid (cntP (nz f) 7 (X + 1) 0 = C) := Lib.hid (by rw [cntP_row, HC.out])
                clear HBS HC
                go_wp2_with fail
                refine (oEmpty HM.out.o HWX.out (!bs) HQ.out).mono ?_
                rintro e w8 ⟨rfl, _, hb8⟩
                have HN := Lib.hid (HM.out.below hb8)
                clear hb8 HM
                go_wp2
                go_roundw
                case rel => exact ⟨X + 1, by omega, by go_num, by rw [HR.out], HN⟩
                case measure => simp [intOf]; omega
          · have hX1 : X = 6 := by omega
            subst hX1
            rw [show ((6 : Nat) : Int) = 6 from rfl]
            have HE : Hid (sumG 6 7 f 17 = C) := Lib.hid (by rw [sumG_nz HM.out.o.v.oi, ← cntP_end, HC.out])
            have HO := Lib.hid HM.out.o
            clear HC HM
            go_wp2
            go_loopw [17, 21] (fun u a wr => ∃ j : Nat, 1 ≤ j ∧ j ≤ 17 ∧ a = .int .i64 j ∧ u = .int .i64 ((sumG 6 7 f j : Nat) : Int) ∧ Hid (O1 W wr B b 6 7 f)) (fun _ a _ => 17 - (intOf a).toNat)
            case atStart => exact ⟨1, by omega, by omega, rfl, rfl, HO⟩
            case round =>
              clear HO
              obtain ⟨j, hj1, hj17, rfl, rfl, HO⟩ := hrel
              obtain ⟨M, hM⟩ : ∃ M, sumG 6 7 f j = M := ⟨_, rfl⟩
              have hM4 : M ≤ 42 := by rw [← hM]; exact sumG_le f hj17
              rw [hM]
              have HMM := Lib.hid hM
              clear hM
              by_cases hj : j < 17
              · obtain ⟨m, hm⟩ : ∃ m, countF 6 7 f (j : Int) = m := ⟨_, rfl⟩
                have hm4 : m ≤ 4096 := by rw [← hm]; exact countF_le _ _ _ _ (by decide) (by decide)
                have HS : Hid (sumG 6 7 f (j + 1) = M + m) := Lib.hid (by rw [sumG_step _ _ _ hj1, HMM.out, hm])
                have HM := Lib.hid hm
                clear hm HMM
                go_wp2_with fail
                refine (oCount HO.out _ m HM.out).mono ?_
                rintro e w8 ⟨rfl, h8, _⟩
                have HO8 := Lib.hid h8
                clear h8 HO
                go_wp2
                go_roundw
                case rel => exact ⟨j + 1, by omega, by omega, by go_num, by rw [HS.out]; go_num, HO8⟩
                case measure => simp [intOf]; omega
              · have hj2 : j = 17 := by omega
                subst hj2
                rw [show ((17 : Nat) : Int) = 17 from rfl]
                have HCM : Hid (C = M) := Lib.hid (HE.out.symm.trans HMM.out)
                go_wp2
                go_ret
                exact ⟨ret_bool (by rw [HCM.out]; simp), HO.out.low⟩
end Go.Proofs.Ytoffakamlpfgoaa
