/-
  The law ChargeBack, walked.
-/
import Derived.Test.YtahkfagfobfliaaArr
import Derived.BigQuiet
import Derived.StillTailTactics
set_option linter.unusedVariables false
set_option linter.unusedSimpArgs false
namespace Go.Proofs.Ytahkfagfobfliaa
open Go Go.RowKit

section
variable {W w w' : World} {B g U : Nat} {t t' : Ct} {fu fu' : Nat → Value} {v : Value} {l : List Int}
/-- an array and a list beside the counters -/
structure VK (W w : World) (B g : Nat) (t : Ct) (U : Nat) (fu : Nat → Value) (v : Value) (l : List Int) : Prop where
  k : UK W w B g t U fu
  p : OwnI 0 w v l
theorem VK.kt (h : VK W w B g t U fu v l) (ho : C1 W w' B g t') (hk : KT tysA w w') : VK W w' B g t' U fu v l :=
  ⟨h.k.kt ho hk, by
    obtain ⟨S, hk, hS⟩ := hk
    exact own_kept2 h.p hk hS (by decide)⟩
theorem VK.below (h : VK W w B g t U fu v l) (hb : Below w.heap.size w w') : VK W w' B g t U fu v l := ⟨h.k.below hb, h.p.below hb⟩
theorem VK.drewN (h : VK W w B g t U fu v l) (m : Nat) : VK W (w.drewN m) B g t U fu v l := h.below (below_drewN (Below.refl _ w) m)
theorem VK.drew (h : VK W w B g t U fu v l) : VK W w.drew B g t U fu v l := h.below (Below.refl _ w).drew
end
/-- what was charged and taken back is as it was -/
theorem all_undone (t : Ct) (l : List Int) (n : Int) (k : Nat) : ((t.all l n).all l (-n)).us k = t.us k := by
  rw [all_us, all_us]
  split <;> omega
theorem cBringM (x m : Int) (h : 1 ≤ m ∧ m ≤ 10000) (w : World) : Calls Try.prog 16 #[.int .i64 x, .int .i64 m] w fun e w' => e = .returned (.int .i64 (x % m)) ∧ w' = w := by
  obtain ⟨n, rfl⟩ : ∃ n : Nat, m = n := ⟨m.toNat, by omega⟩
  rw [← bring_int x n (by omega)]
  exact cBring x n w (by omega) (by omega)
theorem isN_nat {n : Nat} (h : n < 10000) : isN (n : Int) := by unfold isN; omega
set_option maxHeartbeats 16000000 in
set_option maxRecDepth 100000 in
theorem walkBack (u : Value) (l : List Dq) (x1 x2 : Int) (W : World) (hs : ShowD W u l) : Calls Try.prog 5 #[u, .int .i64 x1, .int .i64 x2] W fun e W' => e = .returned (.bool true) ∧ Below W.heap.size W W' := by
  obtain ⟨ao, cap, rfl, hcap, hat⟩ := hs
  obtain ⟨ZN, hzeroN, hZN⟩ := makeN
  have HZN := Lib.hid hZN
  clear hZN
  go_enter Try.func5, Try.ntmps5
  go_wp2_with fail
  refine (oNew _).mono ?_
  rintro e w1 ⟨B, g, rfl, h1⟩
  have H1 := Lib.hid h1
  clear h1
  go_wp2
  go_loopw [8] (fun i wr => ∃ k : Nat, k ≤ l.length ∧ k ≤ 50 ∧ i = .int .i64 k ∧ Hid (∃ t, C1 W wr B g t)) (fun i _ => l.length - (intOf i).toNat)
  case atStart => exact ⟨0, by omega, by omega, rfl, Lib.hid ⟨_, H1.out⟩⟩
  case round =>
    clear H1
    obtain ⟨k, hk, hk50, rfl, HS⟩ := hrel
    obtain ⟨t, ht⟩ := HS.out
    have HT := Lib.hid ht
    clear ht HS
    by_cases hlt : k < l.length
    · by_cases hlt2 : k < 50
      · obtain ⟨b1, o1, p, rfl, hcall⟩ := hat k hlt
        have d0 := cell_keep HT.out.low hcall.k
        have d1 := cell_keep HT.out.low hcall.a
        have d2 := cell_keep HT.out.low hcall.n
        have HC1 := Lib.hid (And.intro hcall.a hcall.n)
        clear hcall
        generalize (dq l k).kind = kd at d0
        generalize (dq l k).a = x at d1 HC1
        generalize (dq l k).n = n at d2 HC1
        obtain ⟨q, hq⟩ : ∃ q, bring kd 2 = q := ⟨_, rfl⟩
        have HQ := Lib.hid hq
        clear hq
        go_wp2_with fail
        refine (cBringN kd 2 2 rfl (by decide) _).mono ?_
        rintro e wy ⟨rfl, rfl⟩
        rw [HQ.out]
        clear HQ
        have hd := HT.out.drew
        by_cases hq0 : q = 0
        · subst hq0
          obtain ⟨y, hy⟩ : ∃ y, bring x 16 = y := ⟨_, rfl⟩
          have HY : Hid (x % 16 = (y : Int)) := Lib.hid (by rw [← hy]; exact (bring_int x 16 (by decide)).symm)
          have hy16 : y < 16 := by rw [← hy]; exact bring_lt x 16 (by decide)
          obtain ⟨m, hm⟩ : ∃ m, bring n 2000 = m := ⟨_, rfl⟩
          have HM : Hid (n % 2000 = (m : Int)) := Lib.hid (by rw [← hm]; exact (bring_int n 2000 (by decide)).symm)
          have hm5 : m < 2000 := by rw [← hm]; exact bring_lt n 2000 (by decide)
          clear hy hm
          obtain ⟨z, hz⟩ : ∃ z, y + 1 = z := ⟨_, rfl⟩
          have hz1 : 1 ≤ z ∧ z < 17 := by omega
          have hw1 : (1 + (y : Int)) = (z : Int) := by omega
          have HR : Hid (LmIs t (z : Int) (m : Int) 0 (t.lim z m)) := Lib.hid (.ok z rfl hz1.1 (by omega) (isN_nat (by omega)))
          clear hz
          go_wp2
          refine wp_region_still_tail 14 (by kernel_rfl) (by kernel_rfl) ?_
          simp only [List.take_succ_cons, List.take_zero, List.drop_succ_cons, List.drop_zero]
          repeat still_step
          still_call (cBringM _ _ (by decide) _)
          rw [HY.out]
          repeat still_step
          still_call (cBringM _ _ (by decide) _)
          rw [HM.out]
          refine wpStill_nil ?_
          change wpList _ _ _ _ _ wy.drew
          go_wp2_with fail
          refine (oLimit hd HR.out).mono ?_
          rintro e wM ⟨rfl, bM, _⟩
          have H9 := Lib.hid bM
          clear bM hd d0 d1 d2
          go_wp2
          go_roundw
          case rel => exact ⟨k + 1, by omega, by omega, by go_num, Lib.hid ⟨_, H9.out⟩⟩
          case measure => simp [intOf]; omega
        · have hne : ((q : Int) == 0) = false := by simp; omega
          obtain ⟨z, hz⟩ : ∃ z, bring x 16 + 1 = z := ⟨_, rfl⟩
          have HZ := Lib.hid hz
          have hz1 : 1 ≤ z ∧ z < 17 := by have := bring_lt x 16 (by decide); omega
          obtain ⟨m, hm⟩ : ∃ m, bring n 300 = m := ⟨_, rfl⟩
          have HM : Hid (n % 300 = (m : Int)) := Lib.hid (by rw [← hm]; exact (bring_int n 300 (by decide)).symm)
          have hm5 : m < 300 := by rw [← hm]; exact bring_lt n 300 (by decide)
          have HPI := Lib.hid (pth_is hz1.1 hz1.2)
          have HPA := Lib.hid (pth_ask (n := (m : Int)) hz1.1 hz1.2 (isN_nat (by omega)))
          obtain ⟨ra, er, t', hr⟩ := TryIs.ex t (pth z) (m : Int) 0 (fun _ => ⟨HPI.out, isN_nat (by omega)⟩)
          have HR := Lib.hid hr
          clear hz hm hr hq0
          go_wp2
          go_region_held3 (fun w' => w'.cell? ⟨b1, o1 + k * 4 + 1, none⟩ = some (.int .i64 x) ∧ w'.cell? ⟨b1, o1 + k * 4 + 2, none⟩ = some (.int .i64 n))
            (first | exact ⟨cell_keep (C1.low (show C1 W _ B g _ from by assumption)) HC1.out.1, cell_keep (C1.low (show C1 W _ B g _ from by assumption)) HC1.out.2⟩)
            (first
              | (go_at_call 16; refine (cBringM _ _ (by decide) _).mono ?_; rintro e wN ⟨rfl, rfl⟩; rw [HM.out])
              | (go_at_call 22; refine (cPth x z HZ.out _).mono ?_; rintro e wP ⟨v, rfl, ho, hbp⟩; have hT2 := C1.below (show C1 W _ B g t from by assumption) hbp; have hST := C1.own hT2 ho)
              | (go_at_call 20; refine (oTry (by assumption) HPA.out HR.out (by assumption)).mono ?_; rintro e wM ⟨rfl, bM, _⟩))
          all_goals
            have H9 := Lib.hid bM
            clear bM hd d0 d1 d2
            go_wp2
            go_roundw
            case rel => exact ⟨k + 1, by omega, by omega, by go_num, Lib.hid ⟨_, H9.out⟩⟩
            case measure => simp [intOf]; omega
      · obtain rfl : k = 50 := by omega
        rw [show ((50 : Nat) : Int) = 50 from rfl]
        have HCT := Lib.hid HT.out.ci
        have HU0 := Lib.hid (UK.new HT.out HZN.out t.us)
        clear HT
        go_wp2
        generalize hU : wr.heap.size = U at HU0 ⊢
        generalize hw2 : wr.alloc (.cells ZN 34) = w2 at HU0 ⊢
        clear hU hw2
        go_loopw [10] (fun i wr => ∃ j : Nat, 1 ≤ j ∧ j ≤ 17 ∧ i = .int .i64 j ∧ Hid (UK W wr B g t U (fillI t.us j))) (fun i _ => 17 - (intOf i).toNat)
        case atStart => exact ⟨1, by omega, by omega, rfl, HU0⟩
        case round =>
          clear HU0
          obtain ⟨j, hj1, hj2, rfl, HU⟩ := hrel
          by_cases hj : j < 17
          · have HV : Hid (usedF t (j : Int) = t.us j) := Lib.hid (usedF_at hj1 (by omega))
            have cu := HU.out.cu hj
            have fu := HU.out.u.frozen j
            have H5 := Lib.hid (HU.out.setU j (.int .i64 (t.us j)) (fillI_next t.us hj1))
            obtain ⟨v1, hv1⟩ : ∃ v1, fillI t.us j j = v1 := ⟨_, rfl⟩
            rw [hv1] at cu
            clear hv1
            go_wp2_with fail
            refine (cUsed HU.out.o.cv _ _ HV.out).mono ?_
            rintro e wy ⟨rfl, rfl⟩
            go_wp2
            go_roundw
            case rel => exact ⟨j + 1, by omega, by omega, by go_num, H5⟩
            case measure => simp [intOf]; omega
          · obtain rfl : j = 17 := by omega
            rw [show ((17 : Nat) : Int) = 17 from rfl]
            obtain ⟨z, hz⟩ : ∃ z, bring x1 16 + 1 = z := ⟨_, rfl⟩
            have HZ := Lib.hid hz
            have hz1 : 1 ≤ z ∧ z < 17 := by have := bring_lt x1 16 (by decide); omega
            obtain ⟨m, hm⟩ : ∃ m, bring x2 1000 = m := ⟨_, rfl⟩
            have HM := Lib.hid hm
            have hm5 : m < 1000 := by rw [← hm]; exact bring_lt x2 1000 (by decide)
            have HPI := Lib.hid (pth_is hz1.1 hz1.2)
            have HNM : Hid (isN (m : Int)) := Lib.hid (isN_nat (by omega))
            have HPA := Lib.hid (pth_ask (n := (m : Int)) hz1.1 hz1.2 HNM.out)
            clear hz hm
            go_wp2_with fail
            refine (cPth x1 z HZ.out _).mono ?_
            rintro e w3 ⟨v, rfl, ho, hb3⟩
            have HV3 : Hid (VK W w3 B g t U (fillI t.us 17) v (pth z)) := Lib.hid ⟨HU.out.below hb3, ho.le (Nat.zero_le _)⟩
            clear ho hb3 HU
            go_wp2_with fail
            refine (cBringN x2 1000 1000 rfl (by decide) _).mono ?_
            rintro e w4 ⟨rfl, rfl⟩
            rw [HM.out]
            obtain ⟨pl, hpl⟩ : ∃ pl, pth z = pl := ⟨_, rfl⟩
            rw [hpl] at HPI HPA HV3
            clear hpl
            have hl8 := HPI.out.n2
            obtain ⟨pb, po, pc, rfl, hpc⟩ := show_some HV3.out.p.shows HPI.out.n1
            obtain ⟨ra, er, t', hr⟩ := TryIs.ex t pl (m : Int) 0 (fun _ => ⟨HPI.out, HNM.out⟩)
            have HR := Lib.hid hr
            have HR2 : Hid ((∃ j, j < pl.length ∧ ¬ fits t (pk pl j) m ∧ ra = pk pl j ∧ er = 120 ∧ t = t') ∨ (ra = 0 ∧ er = 0 ∧ t' = t.all pl m ∧ ∀ i, i < pl.length → fits t (pk pl i) m)) := Lib.hid (by
              cases hr with
              | bad h => exact absurd rfl h
              | full j _ _ _ hj _ hf => exact .inl ⟨j, hj, hf, rfl, rfl, rfl⟩
              | ok _ _ _ hb => exact .inr ⟨rfl, rfl, rfl, hb⟩)
            clear hr
            go_wp2_with fail
            refine (oTry HV3.out.k.o HPA.out HR.out (HV3.out.k.o.own HV3.out.p)).mono ?_
            rintro e w5 ⟨rfl, h5, k5⟩
            have H5 := Lib.hid (HV3.out.kt h5 k5)
            clear h5 k5 HV3 HR
            rcases HR2.out with ⟨j, hjl, hf, rfl, rfl, rfl⟩ | ⟨rfl, rfl, rfl, hfit⟩
            · obtain ⟨K, hK, hK1, hK2, _⟩ := HPI.out.next hjl
              rw [hK] at hf ⊢
              have hf2 : ¬ t.us K + (m : Int) ≤ t.mo K := by
                unfold fits at hf
                rwa [Int.toNat_natCast] at hf
              have cu := H5.out.k.cu (show K < 17 by omega)
              rw [fillI_at ⟨hK1, by omega⟩] at cu
              have HMO : Hid (mostF t (K : Int) = t.mo K) := Lib.hid (mostF_at hK1 hK2)
              have HBR : Hid (∀ w : World, Calls Try.prog 16 #[.int .i64 (K : Int), .int .i64 17] w fun e w' => e = .returned (.int .i64 (K : Int)) ∧ w' = w) := Lib.hid (fun w => by
                have h9 := cBringN (K : Int) 17 17 rfl (by decide) w
                rwa [bring_small (show K < 17 by omega)] at h9)
              have hu := HCT.out.u K hK1 hK2
              have hwr : IntKind.i64.wrap (t.us K + (m : Int)) = t.us K + (m : Int) := IntWalk.i64_in _ (by unfold isN at hu; omega)
              obtain ⟨t9, ht9⟩ : ∃ t9, t = t9 := ⟨_, rfl⟩
              have HS9 : Hid (∀ j, t9.us j = t.us j) := Lib.hid (fun j => by rw [ht9])
              have H9 : Hid (∀ x, UK W (w5.drewN x) B g t9 U (fillI t.us 17)) := Lib.hid (fun x => by rw [← ht9]; exact (H5.out.drewN x).k)
              generalize t.us K = n0 at cu hf2 hwr hu
              generalize t.mo K = m0 at hf2 HMO
              have hK17 : (K : Int) < 17 := by omega
              clear hu hK hf ht9
              go_wp2
              go_quiet (first
                | (go_at_call 16; exact Calls.quiet_of_same (HBR.out _))
                | (go_at_call 13; exact Calls.quiet_of_same (cMost (H5.out.drewN _).k.o.cv _ _ HMO.out)))
              go_wp2
              go_loopw [15] (fun i wr => ∃ j : Nat, 1 ≤ j ∧ j ≤ 17 ∧ i = .int .i64 j ∧ Hid (UK W wr B g t9 U (fillI t.us 17))) (fun i _ => 17 - (intOf i).toNat)
              case atStart => exact ⟨1, by omega, by omega, rfl, Lib.hid (H9.out _)⟩
              case round =>
                clear H9
                obtain ⟨j, hj1, hj2, rfl, HU⟩ := hrel
                by_cases hj : j < 17
                · have HV : Hid (usedF t9 (j : Int) = t.us j) := Lib.hid (by rw [usedF_at hj1 (by omega)]; exact HS9.out j)
                  have cu := HU.out.cu hj
                  rw [fillI_at ⟨hj1, hj⟩] at cu
                  generalize t.us j = n0 at HV cu
                  have hne : (n0 != n0) = false := by simp
                  go_wp2
                  go_quiet ((go_at_call 11; exact Calls.quiet_of_same (cUsed (HU.out.o.drewN _).cv _ _ HV.out)))
                  go_wp2
                  go_roundw
                  case rel => exact ⟨j + 1, by omega, by omega, by go_num, Lib.hid (HU.out.below (below_drewN (Below.refl _ _) _))⟩
                  case measure => simp [intOf]; omega
                · obtain rfl : j = 17 := by omega
                  rw [show ((17 : Nat) : Int) = 17 from rfl]
                  go_wp2_with fail
                  refine (works _).mono ?_
                  rintro e w9 ⟨rfl, hb⟩
                  have HB9 := Lib.hid (below_then HU.out.o.low hb)
                  clear hb
                  go_wp2
                  go_ret
                  exact ⟨rfl, HB9.out⟩
            · obtain ⟨t1, ht1⟩ : ∃ t1, t.all pl (m : Int) = t1 := ⟨_, rfl⟩
              have HT1 := Lib.hid ht1
              rw [ht1] at H5
              clear ht1 hfit
              go_wp2
              go_loopw [14] (fun i wr => ∃ j : Nat, j ≤ pl.length ∧ i = .int .i64 j ∧ Hid (VK W wr B g t1 U (fillI t.us 17) (.slice (some ⟨pb, po, none⟩) pl.length pc) pl)) (fun i _ => pl.length - (intOf i).toNat)
              case atStart => exact ⟨0, by omega, rfl, H5⟩
              case round =>
                clear H5
                obtain ⟨j, hj, rfl, HV5⟩ := hrel
                by_cases hjl : j < pl.length
                · obtain ⟨K, hK, hK1, hK2, _⟩ := HPI.out.next hjl
                  have cp := show_cell HV5.out.p.shows hjl
                  have hmem : (K : Int) ∈ pl := by rw [← hK, ← pk_at _ _ hjl]; exact List.getElem_mem hjl
                  have HU5 : Hid (usedF t1 (K : Int) = t.us K + (m : Int)) := Lib.hid (by rw [usedF_at hK1 hK2, ← HT1.out, all_us, if_pos hmem])
                  rw [hK] at cp
                  have cu := HV5.out.k.cu (show K < 17 by omega)
                  rw [fillI_at ⟨hK1, by omega⟩] at cu
                  have hu := HCT.out.u K hK1 hK2
                  have hwr : IntKind.i64.wrap (t.us K + (m : Int)) = t.us K + (m : Int) := IntWalk.i64_in _ (by unfold isN at hu; omega)
                  have hne : (t.us K + (m : Int) != t.us K + (m : Int)) = false := by simp
                  generalize t.us K = n0 at HU5 cu hwr hne
                  have hK17 : (K : Int) < 17 := by omega
                  clear hu hK hmem
                  go_wp2
                  go_quiet ((go_at_call 11; exact Calls.quiet_of_same (cUsed (HV5.out.drewN _).k.o.cv _ _ HU5.out)))
                  go_wp2
                  go_roundw
                  case rel => exact ⟨j + 1, by omega, by go_num, Lib.hid (HV5.out.drewN _)⟩
                  case measure => simp [intOf]; omega
                · obtain rfl : j = pl.length := by omega
                  obtain ⟨t9, ht9⟩ : ∃ t9, t1.all pl (-(m : Int)) = t9 := ⟨_, rfl⟩
                  have HRB : Hid (BkIs 0 t1 pl (m : Int) 0 t9) := Lib.hid (by
                    rw [← ht9]
                    refine .ok rfl HPI.out HNM.out (fun i hi => ?_)
                    obtain ⟨K, hK, hK1, hK2, _⟩ := HPI.out.next hi
                    have hmem : (K : Int) ∈ pl := by rw [← hK, ← pk_at _ _ hi]; exact List.getElem_mem hi
                    have hu := HCT.out.u K hK1 hK2
                    rw [hK, Int.toNat_natCast, ← HT1.out, all_us, if_pos hmem]
                    unfold isN at hu
                    omega)
                  have HS9 : Hid (∀ j, t9.us j = t.us j) := Lib.hid (fun j => by rw [← ht9, ← HT1.out]; exact all_undone t pl m j)
                  clear ht9
                  go_wp2_with fail
                  refine (oBack HV5.out.k.o HPA.out HRB.out (HV5.out.k.o.own HV5.out.p)).mono ?_
                  rintro e w7 ⟨rfl, h7, k7⟩
                  have H9 := Lib.hid (HV5.out.kt h7 k7).k
                  clear h7 k7 HV5 HRB
                  go_wp2
                  go_loopw [15] (fun i wr => ∃ j : Nat, 1 ≤ j ∧ j ≤ 17 ∧ i = .int .i64 j ∧ Hid (UK W wr B g t9 U (fillI t.us 17))) (fun i _ => 17 - (intOf i).toNat)
                  case atStart => exact ⟨1, by omega, by omega, rfl, H9⟩
                  case round =>
                    clear H9
                    obtain ⟨j, hj1, hj2, rfl, HU⟩ := hrel
                    by_cases hj : j < 17
                    · have HV : Hid (usedF t9 (j : Int) = t.us j) := Lib.hid (by rw [usedF_at hj1 (by omega)]; exact HS9.out j)
                      have cu := HU.out.cu hj
                      rw [fillI_at ⟨hj1, hj⟩] at cu
                      generalize t.us j = n0 at HV cu
                      have hne : (n0 != n0) = false := by simp
                      go_wp2
                      go_quiet ((go_at_call 11; exact Calls.quiet_of_same (cUsed (HU.out.o.drewN _).cv _ _ HV.out)))
                      go_wp2
                      go_roundw
                      case rel => exact ⟨j + 1, by omega, by omega, by go_num, Lib.hid (HU.out.below (below_drewN (Below.refl _ _) _))⟩
                      case measure => simp [intOf]; omega
                    · obtain rfl : j = 17 := by omega
                      rw [show ((17 : Nat) : Int) = 17 from rfl]
                      go_wp2_with fail
                      refine (works _).mono ?_
                      rintro e w9 ⟨rfl, hb⟩
                      have HB9 := Lib.hid (below_then HU.out.o.low hb)
                      clear hb
                      go_wp2
                      go_ret
                      exact ⟨rfl, HB9.out⟩
    · obtain rfl : k = l.length := by omega
      have HCT := Lib.hid HT.out.ci
      have HU0 := Lib.hid (UK.new HT.out HZN.out t.us)
      clear HT
      go_wp2
      generalize hU : wr.heap.size = U at HU0 ⊢
      generalize hw2 : wr.alloc (.cells ZN 34) = w2 at HU0 ⊢
      clear hU hw2
      go_loopw [10] (fun i wr => ∃ j : Nat, 1 ≤ j ∧ j ≤ 17 ∧ i = .int .i64 j ∧ Hid (UK W wr B g t U (fillI t.us j))) (fun i _ => 17 - (intOf i).toNat)
      case atStart => exact ⟨1, by omega, by omega, rfl, HU0⟩
      case round =>
        clear HU0
        obtain ⟨j, hj1, hj2, rfl, HU⟩ := hrel
        by_cases hj : j < 17
        · have HV : Hid (usedF t (j : Int) = t.us j) := Lib.hid (usedF_at hj1 (by omega))
          have cu := HU.out.cu hj
          have fu := HU.out.u.frozen j
          have H5 := Lib.hid (HU.out.setU j (.int .i64 (t.us j)) (fillI_next t.us hj1))
          obtain ⟨v1, hv1⟩ : ∃ v1, fillI t.us j j = v1 := ⟨_, rfl⟩
          rw [hv1] at cu
          clear hv1
          go_wp2_with fail
          refine (cUsed HU.out.o.cv _ _ HV.out).mono ?_
          rintro e wy ⟨rfl, rfl⟩
          go_wp2
          go_roundw
          case rel => exact ⟨j + 1, by omega, by omega, by go_num, H5⟩
          case measure => simp [intOf]; omega
        · obtain rfl : j = 17 := by omega
          rw [show ((17 : Nat) : Int) = 17 from rfl]
          obtain ⟨z, hz⟩ : ∃ z, bring x1 16 + 1 = z := ⟨_, rfl⟩
          have HZ := Lib.hid hz
          have hz1 : 1 ≤ z ∧ z < 17 := by have := bring_lt x1 16 (by decide); omega
          obtain ⟨m, hm⟩ : ∃ m, bring x2 1000 = m := ⟨_, rfl⟩
          have HM := Lib.hid hm
          have hm5 : m < 1000 := by rw [← hm]; exact bring_lt x2 1000 (by decide)
          have HPI := Lib.hid (pth_is hz1.1 hz1.2)
          have HNM : Hid (isN (m : Int)) := Lib.hid (isN_nat (by omega))
          have HPA := Lib.hid (pth_ask (n := (m : Int)) hz1.1 hz1.2 HNM.out)
          clear hz hm
          go_wp2_with fail
          refine (cPth x1 z HZ.out _).mono ?_
          rintro e w3 ⟨v, rfl, ho, hb3⟩
          have HV3 : Hid (VK W w3 B g t U (fillI t.us 17) v (pth z)) := Lib.hid ⟨HU.out.below hb3, ho.le (Nat.zero_le _)⟩
          clear ho hb3 HU
          go_wp2_with fail
          refine (cBringN x2 1000 1000 rfl (by decide) _).mono ?_
          rintro e w4 ⟨rfl, rfl⟩
          rw [HM.out]
          obtain ⟨pl, hpl⟩ : ∃ pl, pth z = pl := ⟨_, rfl⟩
          rw [hpl] at HPI HPA HV3
          clear hpl
          have hl8 := HPI.out.n2
          obtain ⟨pb, po, pc, rfl, hpc⟩ := show_some HV3.out.p.shows HPI.out.n1
          obtain ⟨ra, er, t', hr⟩ := TryIs.ex t pl (m : Int) 0 (fun _ => ⟨HPI.out, HNM.out⟩)
          have HR := Lib.hid hr
          have HR2 : Hid ((∃ j, j < pl.length ∧ ¬ fits t (pk pl j) m ∧ ra = pk pl j ∧ er = 120 ∧ t = t') ∨ (ra = 0 ∧ er = 0 ∧ t' = t.all pl m ∧ ∀ i, i < pl.length → fits t (pk pl i) m)) := Lib.hid (by
            cases hr with
            | bad h => exact absurd rfl h
            | full j _ _ _ hj _ hf => exact .inl ⟨j, hj, hf, rfl, rfl, rfl⟩
            | ok _ _ _ hb => exact .inr ⟨rfl, rfl, rfl, hb⟩)
          clear hr
          go_wp2_with fail
          refine (oTry HV3.out.k.o HPA.out HR.out (HV3.out.k.o.own HV3.out.p)).mono ?_
          rintro e w5 ⟨rfl, h5, k5⟩
          have H5 := Lib.hid (HV3.out.kt h5 k5)
          clear h5 k5 HV3 HR
          rcases HR2.out with ⟨j, hjl, hf, rfl, rfl, rfl⟩ | ⟨rfl, rfl, rfl, hfit⟩
          · obtain ⟨K, hK, hK1, hK2, _⟩ := HPI.out.next hjl
            rw [hK] at hf ⊢
            have hf2 : ¬ t.us K + (m : Int) ≤ t.mo K := by
              unfold fits at hf
              rwa [Int.toNat_natCast] at hf
            have cu := H5.out.k.cu (show K < 17 by omega)
            rw [fillI_at ⟨hK1, by omega⟩] at cu
            have HMO : Hid (mostF t (K : Int) = t.mo K) := Lib.hid (mostF_at hK1 hK2)
            have HBR : Hid (∀ w : World, Calls Try.prog 16 #[.int .i64 (K : Int), .int .i64 17] w fun e w' => e = .returned (.int .i64 (K : Int)) ∧ w' = w) := Lib.hid (fun w => by
              have h9 := cBringN (K : Int) 17 17 rfl (by decide) w
              rwa [bring_small (show K < 17 by omega)] at h9)
            have hu := HCT.out.u K hK1 hK2
            have hwr : IntKind.i64.wrap (t.us K + (m : Int)) = t.us K + (m : Int) := IntWalk.i64_in _ (by unfold isN at hu; omega)
            obtain ⟨t9, ht9⟩ : ∃ t9, t = t9 := ⟨_, rfl⟩
            have HS9 : Hid (∀ j, t9.us j = t.us j) := Lib.hid (fun j => by rw [ht9])
            have H9 : Hid (∀ x, UK W (w5.drewN x) B g t9 U (fillI t.us 17)) := Lib.hid (fun x => by rw [← ht9]; exact (H5.out.drewN x).k)
            generalize t.us K = n0 at cu hf2 hwr hu
            generalize t.mo K = m0 at hf2 HMO
            have hK17 : (K : Int) < 17 := by omega
            clear hu hK hf ht9
            go_wp2
            go_quiet (first
              | (go_at_call 16; exact Calls.quiet_of_same (HBR.out _))
              | (go_at_call 13; exact Calls.quiet_of_same (cMost (H5.out.drewN _).k.o.cv _ _ HMO.out)))
            go_wp2
            go_loopw [15] (fun i wr => ∃ j : Nat, 1 ≤ j ∧ j ≤ 17 ∧ i = .int .i64 j ∧ Hid (UK W wr B g t9 U (fillI t.us 17))) (fun i _ => 17 - (intOf i).toNat)
            case atStart => exact ⟨1, by omega, by omega, rfl, Lib.hid (H9.out _)⟩
            case round =>
              clear H9
              obtain ⟨j, hj1, hj2, rfl, HU⟩ := hrel
              by_cases hj : j < 17
              · have HV : Hid (usedF t9 (j : Int) = t.us j) := Lib.hid (by rw [usedF_at hj1 (by omega)]; exact HS9.out j)
                have cu := HU.out.cu hj
                rw [fillI_at ⟨hj1, hj⟩] at cu
                generalize t.us j = n0 at HV cu
                have hne : (n0 != n0) = false := by simp
                go_wp2
                go_quiet ((go_at_call 11; exact Calls.quiet_of_same (cUsed (HU.out.o.drewN _).cv _ _ HV.out)))
                go_wp2
                go_roundw
                case rel => exact ⟨j + 1, by omega, by omega, by go_num, Lib.hid (HU.out.below (below_drewN (Below.refl _ _) _))⟩
                case measure => simp [intOf]; omega
              · obtain rfl : j = 17 := by omega
                rw [show ((17 : Nat) : Int) = 17 from rfl]
                go_wp2_with fail
                refine (works _).mono ?_
                rintro e w9 ⟨rfl, hb⟩
                have HB9 := Lib.hid (below_then HU.out.o.low hb)
                clear hb
                go_wp2
                go_ret
                exact ⟨rfl, HB9.out⟩
          · obtain ⟨t1, ht1⟩ : ∃ t1, t.all pl (m : Int) = t1 := ⟨_, rfl⟩
            have HT1 := Lib.hid ht1
            rw [ht1] at H5
            clear ht1 hfit
            go_wp2
            go_loopw [14] (fun i wr => ∃ j : Nat, j ≤ pl.length ∧ i = .int .i64 j ∧ Hid (VK W wr B g t1 U (fillI t.us 17) (.slice (some ⟨pb, po, none⟩) pl.length pc) pl)) (fun i _ => pl.length - (intOf i).toNat)
            case atStart => exact ⟨0, by omega, rfl, H5⟩
            case round =>
              clear H5
              obtain ⟨j, hj, rfl, HV5⟩ := hrel
              by_cases hjl : j < pl.length
              · obtain ⟨K, hK, hK1, hK2, _⟩ := HPI.out.next hjl
                have cp := show_cell HV5.out.p.shows hjl
                have hmem : (K : Int) ∈ pl := by rw [← hK, ← pk_at _ _ hjl]; exact List.getElem_mem hjl
                have HU5 : Hid (usedF t1 (K : Int) = t.us K + (m : Int)) := Lib.hid (by rw [usedF_at hK1 hK2, ← HT1.out, all_us, if_pos hmem])
                rw [hK] at cp
                have cu := HV5.out.k.cu (show K < 17 by omega)
                rw [fillI_at ⟨hK1, by omega⟩] at cu
                have hu := HCT.out.u K hK1 hK2
                have hwr : IntKind.i64.wrap (t.us K + (m : Int)) = t.us K + (m : Int) := IntWalk.i64_in _ (by unfold isN at hu; omega)
                have hne : (t.us K + (m : Int) != t.us K + (m : Int)) = false := by simp
                generalize t.us K = n0 at HU5 cu hwr hne
                have hK17 : (K : Int) < 17 := by omega
                clear hu hK hmem
                go_wp2
                go_quiet ((go_at_call 11; exact Calls.quiet_of_same (cUsed (HV5.out.drewN _).k.o.cv _ _ HU5.out)))
                go_wp2
                go_roundw
                case rel => exact ⟨j + 1, by omega, by go_num, Lib.hid (HV5.out.drewN _)⟩
                case measure => simp [intOf]; omega
              · obtain rfl : j = pl.length := by omega
                obtain ⟨t9, ht9⟩ : ∃ t9, t1.all pl (-(m : Int)) = t9 := ⟨_, rfl⟩
                have HRB : Hid (BkIs 0 t1 pl (m : Int) 0 t9) := Lib.hid (by
                  rw [← ht9]
                  refine .ok rfl HPI.out HNM.out (fun i hi => ?_)
                  obtain ⟨K, hK, hK1, hK2, _⟩ := HPI.out.next hi
                  have hmem : (K : Int) ∈ pl := by rw [← hK, ← pk_at _ _ hi]; exact List.getElem_mem hi
                  have hu := HCT.out.u K hK1 hK2
                  rw [hK, Int.toNat_natCast, ← HT1.out, all_us, if_pos hmem]
                  unfold isN at hu
                  omega)
                have HS9 : Hid (∀ j, t9.us j = t.us j) := Lib.hid (fun j => by rw [← ht9, ← HT1.out]; exact all_undone t pl m j)
                clear ht9
                go_wp2_with fail
                refine (oBack HV5.out.k.o HPA.out HRB.out (HV5.out.k.o.own HV5.out.p)).mono ?_
                rintro e w7 ⟨rfl, h7, k7⟩
                have H9 := Lib.hid (HV5.out.kt h7 k7).k
                clear h7 k7 HV5 HRB
                go_wp2
                go_loopw [15] (fun i wr => ∃ j : Nat, 1 ≤ j ∧ j ≤ 17 ∧ i = .int .i64 j ∧ Hid (UK W wr B g t9 U (fillI t.us 17))) (fun i _ => 17 - (intOf i).toNat)
                case atStart => exact ⟨1, by omega, by omega, rfl, H9⟩
                case round =>
                  clear H9
                  obtain ⟨j, hj1, hj2, rfl, HU⟩ := hrel
                  by_cases hj : j < 17
                  · have HV : Hid (usedF t9 (j : Int) = t.us j) := Lib.hid (by rw [usedF_at hj1 (by omega)]; exact HS9.out j)
                    have cu := HU.out.cu hj
                    rw [fillI_at ⟨hj1, hj⟩] at cu
                    generalize t.us j = n0 at HV cu
                    have hne : (n0 != n0) = false := by simp
                    go_wp2
                    go_quiet ((go_at_call 11; exact Calls.quiet_of_same (cUsed (HU.out.o.drewN _).cv _ _ HV.out)))
                    go_wp2
                    go_roundw
                    case rel => exact ⟨j + 1, by omega, by omega, by go_num, Lib.hid (HU.out.below (below_drewN (Below.refl _ _) _))⟩
                    case measure => simp [intOf]; omega
                  · obtain rfl : j = 17 := by omega
                    rw [show ((17 : Nat) : Int) = 17 from rfl]
                    go_wp2_with fail
                    refine (works _).mono ?_
                    rintro e w9 ⟨rfl, hb⟩
                    have HB9 := Lib.hid (below_then HU.out.o.low hb)
                    clear hb
                    go_wp2
                    go_ret
                    exact ⟨rfl, HB9.out⟩
end Go.Proofs.Ytahkfagfobfliaa
