/-
  Try and Back of the document's counters.
-/
import Derived.Test.YtahkfagfobfliaaRops
import Derived.Test.YtahkfagfobfliaaBack
set_option linter.unusedVariables false
set_option linter.unusedSimpArgs false
namespace Go.Proofs.Ytahkfagfobfliaa
open Go Go.RowKit

theorem fits_at {t : Ct} {l : List Int} {n : Int} {i K : Nat} (hK : pk l i = K) : fits t (pk l i) n ↔ t.us K + n ≤ t.mo K := by
  unfold fits
  rw [hK, Int.toNat_natCast]
section
variable {S : Nat → Prop} {w w' : World} {R : Nat} {t t' : Ct} {x n e a q : Int} {l : List Int} {u : Value}
set_option maxHeartbeats 4000000 in
set_option maxRecDepth 100000 in
theorem rTry (h : RV w R t) (hc : CI t) (hq : askR l n = q) (hr : TryIs q t l n a e t') (hu : Stays w R u l) :
    Calls Try.prog 28 #[.pointer (some ⟨R, 0, none⟩), u, .int .i64 n] w fun e' w' => e' = .returned (.tuple #[.int .i64 a, .int .i64 e]) ∧ RV w' R t' ∧ Kept (· = R) w w' := by
  have HA := Lib.hid h
  have HU := Lib.hid hu
  have HQ := Lib.hid hq
  by_cases h0 : q = 0
  · subst h0
    obtain ⟨hp, hn⟩ := askR_zero hq
    obtain ⟨b, o, cap, rfl, hcap⟩ := show_some (hu w (Kept.refl _ _)) hp.n1
    have hl8 := hp.n2
    have HP := Lib.hid hp
    have HN := Lib.hid hn
    have HC := Lib.hid hc
    have HR := Lib.hid hr
    -- up to where all are well
    obtain ⟨m, hm, hb, hend⟩ : ∃ m, m ≤ l.length ∧ (∀ i, i < m → fits t (pk l i) n) ∧ ((m < l.length ∧ ¬ fits t (pk l m) n ∧ a = pk l m ∧ e = 120 ∧ t' = t) ∨ (m = l.length ∧ a = 0 ∧ e = 0 ∧ t' = t.all l n)) := by
      cases hr with
      | bad h => exact absurd rfl h
      | full j _ _ _ hj hb hf => exact ⟨j, by omega, hb, .inl ⟨hj, hf, rfl, rfl, rfl⟩⟩
      | ok _ _ _ hb => exact ⟨l.length, Nat.le_refl _, hb, .inr ⟨rfl, rfl, rfl, rfl⟩⟩
    have HB := Lib.hid hb
    have HE := Lib.hid hend
    clear h hu hq hp hn hc hr hb hend
    go_enter Try.func28, Try.ntmps28
    go_wp2_with fail
    refine (rAsked _ l n 0 HQ.out _ (HU.out _ (Kept.refl _ _))).mono ?_
    rintro e1 w1 ⟨rfl, hb1⟩
    have HB1 := Lib.hid hb1
    clear hb1
    go_wp2
    go_loopw [9] (fun i wr => ∃ k : Nat, k ≤ m ∧ i = .int .i64 k ∧ Hid (Below w.heap.size w wr)) (fun i _ => l.length - (intOf i).toNat)
    case atStart => exact ⟨0, by omega, rfl, HB1⟩
    case round =>
      clear HB1
      obtain ⟨k, hk, rfl, HW⟩ := hrel
      by_cases hkl : k < l.length
      · have cp := show_cell (HU.out _ (Kept.ofBelow HW.out)) hkl
        obtain ⟨K, hKk, h1, h2, h3⟩ := HP.out.next hkl
        have hK17 : K < 17 := by omega
        have hK17i : (K : Int) < 17 := by omega
        have hK0 : (0 : Int) ≤ (K : Int) := by omega
        have hKc : (0 : Int) ≤ (K : Int) ∧ (K : Int) < 17 := ⟨hK0, hK17i⟩
        have hkli : (k : Int) < (l.length : Int) := by omega
        have hklc : (0 : Int) ≤ (k : Int) ∧ (k : Int) < (l.length : Int) := ⟨by omega, hkli⟩
        rw [hKk] at cp
        have cu := (HA.out.below HW.out).cu hK17
        have cm := (HA.out.below HW.out).cm hK17
        have b1 := HC.out.u K h1 h2
        have hwr : IntKind.i64.wrap (t.us K + n) = t.us K + n := IntWalk.i64_in _ (by have := HN.out; unfold isN at *; omega)
        by_cases hkm : k < m
        · have hfit : ¬ t.mo K < t.us K + n := by
            have := (fits_at hKk).1 (HB.out k hkm)
            omega
          generalize t.us K = U at *
          generalize t.mo K = M at *
          clear b1 h3 hKk
          go_wp2
          go_quiet (fail)
          go_wp2
          go_roundw
          case rel => exact ⟨k + 1, by omega, by go_num, Lib.hid (below_drewN HW.out _)⟩
          case measure => simp [intOf]; omega
        · obtain rfl : k = m := by omega
          rcases HE.out with ⟨_, hf, rfl, rfl, rfl⟩ | ⟨h9, _⟩
          · rw [fits_at hKk] at hf
            have hfit : t'.mo K < t'.us K + n := by omega
            have HY : Hid ((K : Int) = pk l k) := Lib.hid hKk.symm
            generalize t'.us K = U at *
            generalize t'.mo K = M at *
            clear b1 h3 hKk hf
            go_wp2
            go_quiet (fail)
            go_wp2
            go_ret2
            exact ⟨by first | rfl | (rw [HY.out]; rfl), HA.out.below (below_drewN HW.out _), Kept.ofBelow (below_drewN HW.out _)⟩
          · omega
      · obtain rfl : k = l.length := by omega
        obtain rfl : m = l.length := by omega
        rcases HE.out with ⟨h9, _⟩ | ⟨_, rfl, rfl, rfl⟩
        · omega
        clear HE HR hk hkl hm
        have HV0 : Hid (RV wr R (t.all (l.take 0) n)) := Lib.hid (by rw [List.take_zero, Ct.all_nil]; exact HA.out.below HW.out)
        have HK0 : Hid (Kept (· = R) w wr) := Lib.hid (Kept.ofBelow HW.out)
        clear HW
        go_wp2
        go_loopw [10] (fun i wx => ∃ k : Nat, k ≤ l.length ∧ i = .int .i64 k ∧ Hid (RV wx R (t.all (l.take k) n)) ∧ Hid (Kept (· = R) w wx)) (fun i _ => l.length - (intOf i).toNat)
        case atStart => exact ⟨0, by omega, rfl, HV0, HK0⟩
        case round =>
          clear HV0 HK0
          obtain ⟨k, hk, rfl, HV, HK⟩ := hrel
          by_cases hkl : k < l.length
          · have cp := show_cell (HU.out _ (HK.out)) hkl
            obtain ⟨K, hKk, h1, h2, h3⟩ := HP.out.next hkl
            have hK17 : K < 17 := by omega
            have hK17i : (K : Int) < 17 := by omega
            have hK0 : (0 : Int) ≤ (K : Int) := by omega
            have hKc : (0 : Int) ≤ (K : Int) ∧ (K : Int) < 17 := ⟨hK0, hK17i⟩
            have hkli : (k : Int) < (l.length : Int) := by omega
            have hklc : (0 : Int) ≤ (k : Int) ∧ (k : Int) < (l.length : Int) := ⟨by omega, hkli⟩
            have hus : (t.all (l.take k) n).us K = t.us K := by rw [all_us, if_neg h3]
            have b1 := HC.out.u K h1 h2
            have b2 := HC.out.m K h1 h2
            have hval : t.us K + n ≤ t.mo K := by
              have h9 := HB.out k hkl
              exact (fits_at hKk).1 h9
            have hwr : IntKind.i64.wrap (t.us K + n) = t.us K + n := IntWalk.i64_in _ (by have := HN.out; unfold isN at *; omega)
            have cu := HV.out.cu hK17
            rw [hus] at cu
            rw [hKk] at cp
            have HF : Hid (∀ w2, Below (World.heap _).size _ w2 → RV (w2.setCell ⟨R, K, none⟩ (.int .i64 (t.us K + n))) R (t.all (l.take (k + 1)) n) ∧ Kept (· = R) _ (w2.setCell ⟨R, K, none⟩ (.int .i64 (t.us K + n)))) := Lib.hid (fun w2 hb2 => by
              have h9 := HV.out.set1 hK17 hb2 (t.us K + n)
              rw [Ct.all_next t l n hkl HP.out.d hKk]
              unfold Ct.up
              rw [hus]
              exact h9)
            have HFR : Hid (∀ w2, Below (World.heap _).size _ w2 → w2.frozen? ⟨R, K, none⟩ = false) := Lib.hid (fun w2 hb2 => (HV.out.below hb2).fr K)
            generalize t.us K = U at *
            clear hus b1 b2 h3 hval
            go_wp2
            refine wp_region_still_tail 19 (by kernel_rfl) (by kernel_rfl) ?_
            simp only [List.take_succ_cons, List.take_zero, List.drop_succ_cons, List.drop_zero]
            repeat still_step
            refine wpStill_nil ?_
            change wpList _ _ _ _ _ (World.drew _)
            have hb2 : Below wr.heap.size wr wr.drew := (Below.refl _ _).drew
            generalize wr.drew = w2 at hb2 ⊢
            have cu2 := cell_keep hb2 cu
            have fu2 := HFR.out _ hb2
            have HF2 := Lib.hid (HF.out _ hb2)
            clear cu cp HF HFR hb2
            go_wp2
            go_roundw
            case rel => exact ⟨k + 1, by omega, by go_num, Lib.hid HF2.out.1, Lib.hid (HK.out.trans HF2.out.2)⟩
            case measure => simp [intOf]; omega
          · obtain rfl : k = l.length := by omega
            have HV2 : Hid (RV wr R (t.all l n)) := Lib.hid (by have := HV.out; rwa [List.take_length] at this)
            go_wp2
            go_ret2
            exact ⟨rfl, HV2.out, HK.out⟩
  · have hne := ask_ne h0
    have HR : Hid (a = 0 ∧ e = q ∧ t' = t) := Lib.hid (by
      cases hr with
      | bad _ => exact ⟨rfl, rfl, rfl⟩
      | full _ h _ _ _ _ _ => exact absurd h h0
      | ok h _ _ _ => exact absurd h h0)
    clear h hu hq hr h0
    go_enter Try.func28, Try.ntmps28
    go_wp2_with fail
    refine (rAsked _ l n q HQ.out _ (HU.out _ (Kept.refl _ _))).mono ?_
    rintro e1 w1 ⟨rfl, hb1⟩
    have HB1 := Lib.hid hb1
    clear hb1
    go_wp2
    go_ret2
    exact ⟨by rw [HR.out.1, HR.out.2.1]; rfl, by rw [HR.out.2.2]; exact HA.out.below HB1.out, Kept.ofBelow HB1.out⟩
set_option maxHeartbeats 4000000 in
set_option maxRecDepth 100000 in
theorem rBack (h : RV w R t) (hc : CI t) (hq : askR l n = q) (hr : BkIs q t l n e t') (hu : Stays w R u l) :
    Calls Try.prog 29 #[.pointer (some ⟨R, 0, none⟩), u, .int .i64 n] w fun e' w' => e' = .returned (.int .i64 e) ∧ RV w' R t' ∧ Kept (· = R) w w' := by
  have HA := Lib.hid h
  have HU := Lib.hid hu
  have HQ := Lib.hid hq
  by_cases h0 : q = 0
  · subst h0
    obtain ⟨hp, hn⟩ := askR_zero hq
    obtain ⟨b, o, cap, rfl, hcap⟩ := show_some (hu w (Kept.refl _ _)) hp.n1
    have hl8 := hp.n2
    have HP := Lib.hid hp
    have HN := Lib.hid hn
    have HC := Lib.hid hc
    have HR := Lib.hid hr
    -- up to where all are well
    obtain ⟨m, hm, hb, hend⟩ : ∃ m, m ≤ l.length ∧ (∀ i, i < m → n ≤ t.us (pk l i).toNat) ∧ ((m < l.length ∧ t.us (pk l m).toNat < n ∧ e = 2 ∧ t' = t) ∨ (m = l.length ∧ e = 0 ∧ t' = t.all l (-n))) := by
      cases hr with
      | bad h => exact absurd rfl h
      | few j _ _ _ hj hb hf => exact ⟨j, by omega, hb, .inl ⟨hj, hf, rfl, rfl⟩⟩
      | ok _ _ _ hb => exact ⟨l.length, Nat.le_refl _, hb, .inr ⟨rfl, rfl, rfl⟩⟩
    have HB := Lib.hid hb
    have HE := Lib.hid hend
    clear h hu hq hp hn hc hr hb hend
    go_enter Try.func29, Try.ntmps29
    go_wp2_with fail
    refine (rAsked _ l n 0 HQ.out _ (HU.out _ (Kept.refl _ _))).mono ?_
    rintro e1 w1 ⟨rfl, hb1⟩
    have HB1 := Lib.hid hb1
    clear hb1
    go_wp2
    go_loopw [8] (fun i wr => ∃ k : Nat, k ≤ m ∧ i = .int .i64 k ∧ Hid (Below w.heap.size w wr)) (fun i _ => l.length - (intOf i).toNat)
    case atStart => exact ⟨0, by omega, rfl, HB1⟩
    case round =>
      clear HB1
      obtain ⟨k, hk, rfl, HW⟩ := hrel
      by_cases hkl : k < l.length
      · have cp := show_cell (HU.out _ (Kept.ofBelow HW.out)) hkl
        obtain ⟨K, hKk, h1, h2, h3⟩ := HP.out.next hkl
        have hK17 : K < 17 := by omega
        have hK17i : (K : Int) < 17 := by omega
        have hK0 : (0 : Int) ≤ (K : Int) := by omega
        have hKc : (0 : Int) ≤ (K : Int) ∧ (K : Int) < 17 := ⟨hK0, hK17i⟩
        have hkli : (k : Int) < (l.length : Int) := by omega
        have hklc : (0 : Int) ≤ (k : Int) ∧ (k : Int) < (l.length : Int) := ⟨by omega, hkli⟩
        rw [hKk] at cp
        have cu := (HA.out.below HW.out).cu hK17
        by_cases hkm : k < m
        · have hfit : ¬ t.us K < n := by
            have := HB.out k hkm
            rw [hKk, Int.toNat_natCast] at this
            omega
          generalize t.us K = U at *
          clear h3 hKk
          go_wp2
          go_quiet (fail)
          go_wp2
          go_roundw
          case rel => exact ⟨k + 1, by omega, by go_num, Lib.hid (below_drewN HW.out _)⟩
          case measure => simp [intOf]; omega
        · obtain rfl : k = m := by omega
          rcases HE.out with ⟨_, hf, rfl, rfl⟩ | ⟨h9, _⟩
          · have hfit : t'.us K < n := by
              rw [hKk, Int.toNat_natCast] at hf
              exact hf
            generalize t'.us K = U at *
            clear h3 hKk hf
            go_wp2
            go_quiet (fail)
            go_wp2
            go_ret
            exact ⟨rfl, HA.out.below (below_drewN HW.out _), Kept.ofBelow (below_drewN HW.out _)⟩
          · omega
      · obtain rfl : k = l.length := by omega
        obtain rfl : m = l.length := by omega
        rcases HE.out with ⟨h9, _⟩ | ⟨_, rfl, rfl⟩
        · omega
        clear HE HR hk hkl hm
        have HV0 : Hid (RV wr R (t.all (l.take 0) (-n))) := Lib.hid (by rw [List.take_zero, Ct.all_nil]; exact HA.out.below HW.out)
        have HK0 : Hid (Kept (· = R) w wr) := Lib.hid (Kept.ofBelow HW.out)
        clear HW
        go_wp2
        go_loopw [9] (fun i wx => ∃ k : Nat, k ≤ l.length ∧ i = .int .i64 k ∧ Hid (RV wx R (t.all (l.take k) (-n))) ∧ Hid (Kept (· = R) w wx)) (fun i _ => l.length - (intOf i).toNat)
        case atStart => exact ⟨0, by omega, rfl, HV0, HK0⟩
        case round =>
          clear HV0 HK0
          obtain ⟨k, hk, rfl, HV, HK⟩ := hrel
          by_cases hkl : k < l.length
          · have cp := show_cell (HU.out _ (HK.out)) hkl
            obtain ⟨K, hKk, h1, h2, h3⟩ := HP.out.next hkl
            have hK17 : K < 17 := by omega
            have hK17i : (K : Int) < 17 := by omega
            have hK0 : (0 : Int) ≤ (K : Int) := by omega
            have hKc : (0 : Int) ≤ (K : Int) ∧ (K : Int) < 17 := ⟨hK0, hK17i⟩
            have hkli : (k : Int) < (l.length : Int) := by omega
            have hklc : (0 : Int) ≤ (k : Int) ∧ (k : Int) < (l.length : Int) := ⟨by omega, hkli⟩
            have hus : (t.all (l.take k) (-n)).us K = t.us K := by rw [all_us, if_neg h3]
            have b1 := HC.out.u K h1 h2
            have b2 := HC.out.m K h1 h2
            have hval : n ≤ t.us K := by
              have h9 := HB.out k hkl
              rwa [hKk, Int.toNat_natCast] at h9
            have hwr : IntKind.i64.wrap (t.us K - n) = t.us K - n := IntWalk.i64_in _ (by have := HN.out; unfold isN at *; omega)
            have cu := HV.out.cu hK17
            rw [hus] at cu
            rw [hKk] at cp
            have HF : Hid (∀ w2, Below (World.heap _).size _ w2 → RV (w2.setCell ⟨R, K, none⟩ (.int .i64 (t.us K - n))) R (t.all (l.take (k + 1)) (-n)) ∧ Kept (· = R) _ (w2.setCell ⟨R, K, none⟩ (.int .i64 (t.us K - n)))) := Lib.hid (fun w2 hb2 => by
              have h9 := HV.out.set1 hK17 hb2 (t.us K - n)
              rw [Ct.all_next t l (-n) hkl HP.out.d hKk]
              unfold Ct.up
              rw [hus]
              rw [← Int.sub_eq_add_neg]; exact h9)
            have HFR : Hid (∀ w2, Below (World.heap _).size _ w2 → w2.frozen? ⟨R, K, none⟩ = false) := Lib.hid (fun w2 hb2 => (HV.out.below hb2).fr K)
            generalize t.us K = U at *
            clear hus b1 b2 h3 hval
            go_wp2
            refine wp_region_still_tail 19 (by kernel_rfl) (by kernel_rfl) ?_
            simp only [List.take_succ_cons, List.take_zero, List.drop_succ_cons, List.drop_zero]
            repeat still_step
            refine wpStill_nil ?_
            change wpList _ _ _ _ _ (World.drew _)
            have hb2 : Below wr.heap.size wr wr.drew := (Below.refl _ _).drew
            generalize wr.drew = w2 at hb2 ⊢
            have cu2 := cell_keep hb2 cu
            have fu2 := HFR.out _ hb2
            have HF2 := Lib.hid (HF.out _ hb2)
            clear cu cp HF HFR hb2
            go_wp2
            go_roundw
            case rel => exact ⟨k + 1, by omega, by go_num, Lib.hid HF2.out.1, Lib.hid (HK.out.trans HF2.out.2)⟩
            case measure => simp [intOf]; omega
          · obtain rfl : k = l.length := by omega
            have HV2 : Hid (RV wr R (t.all l (-n))) := Lib.hid (by have := HV.out; rwa [List.take_length] at this)
            go_wp2
            go_ret
            exact ⟨rfl, HV2.out, HK.out⟩
  · have hne := ask_ne h0
    have HR : Hid (e = q ∧ t' = t) := Lib.hid (by
      cases hr with
      | bad _ => exact ⟨rfl, rfl⟩
      | few _ h _ _ _ _ _ => exact absurd h h0
      | ok h _ _ _ => exact absurd h h0)
    clear h hu hq hr h0
    go_enter Try.func29, Try.ntmps29
    go_wp2_with fail
    refine (rAsked _ l n q HQ.out _ (HU.out _ (Kept.refl _ _))).mono ?_
    rintro e1 w1 ⟨rfl, hb1⟩
    have HB1 := Lib.hid hb1
    clear hb1
    go_wp2
    go_ret
    exact ⟨by rw [HR.out.1]; rfl, by rw [HR.out.2]; exact HA.out.below HB1.out, Kept.ofBelow HB1.out⟩
end
end Go.Proofs.Ytahkfagfobfliaa
