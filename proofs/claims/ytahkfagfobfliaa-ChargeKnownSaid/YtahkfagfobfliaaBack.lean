/-
  Back of the program.
-/
import Derived.Test.YtahkfagfobfliaaTry2
set_option linter.unusedVariables false
set_option linter.unusedSimpArgs false
namespace Go.Proofs.Ytahkfagfobfliaa
open Go Go.RowKit

theorem usedF_at {t : Ct} {k : Nat} (h1 : 1 ≤ k) (h2 : k ≤ 16) : usedF t (k : Int) = t.us k := by
  unfold usedF
  rw [if_pos (by unfold isG; omega), Int.toNat_natCast]
theorem mostF_at {t : Ct} {k : Nat} (h1 : 1 ≤ k) (h2 : k ≤ 16) : mostF t (k : Int) = t.mo k := by
  unfold mostF
  rw [if_pos (by unfold isG; omega), Int.toNat_natCast]
theorem down_ci {t : Ct} {l : List Int} {n : Int} {k : Nat} (hc : CI t) (hn : isN n) (hb : ∀ i, i < k → i < l.length → n ≤ t.us (pk l i).toNat) : CI (t.all (l.take k) (-n)) := by
  refine ⟨fun j h1 h2 => ?_, hc.m⟩
  have hu := hc.u j h1 h2
  rw [all_us]
  split
  · rename_i hk
    obtain ⟨i, hi, e⟩ := List.getElem_of_mem hk
    simp only [List.length_take] at hi
    rw [List.getElem_take, pk_at l i (by omega)] at e
    have := hb i (by omega) (by omega)
    rw [e, Int.toNat_natCast] at this
    unfold isN at *
    omega
  · exact hu
set_option maxHeartbeats 4000000 in
set_option maxRecDepth 100000 in
theorem cBack {w : World} {B g : Nat} {t t' : Ct} {n q e : Int} {l : List Int} {u : Value} (h : CV w B g t) (hc : CI t) (hq : askP l n = q) (hr : BkIs q t l n e t') (hu : Stays w g u l) :
    Calls Try.prog 21 #[.pointer (some ⟨B, 0, none⟩), u, .int .i64 n] w fun e' w' => e' = .returned (.int .i64 e) ∧ CV w' B g t' ∧ Kept (· = g) w w' := by
  have HA := Lib.hid h
  have HU := Lib.hid hu
  have HQ := Lib.hid hq
  cases hr with
  | bad h0 =>
    have hne := ask_ne h0
    clear h hu hq h0
    go_enter Try.func21, Try.ntmps21
    go_wp2_with fail
    refine (cCheckPath HA.out _ l n q HQ.out (HU.out _ (Kept.refl _ _))).mono ?_
    rintro e w1 ⟨rfl, rfl⟩
    go_wp2
    go_ret
    exact ⟨rfl, HA.out, Kept.refl _ _⟩
  | few j h0 hp hn hj hb hf =>
    subst h0
    obtain ⟨b, o, cap, rfl, hcap⟩ := show_some (hu w (Kept.refl _ _)) hp.n1
    have hl8 := hp.n2
    have HP := Lib.hid hp
    have HB := Lib.hid hb
    have HF := Lib.hid hf
    clear h hu hq hp hb hf
    go_enter Try.func21, Try.ntmps21
    go_wp2_with fail
    refine (cCheckPath HA.out _ l n 0 HQ.out (HU.out _ (Kept.refl _ _))).mono ?_
    rintro e w1 ⟨rfl, rfl⟩
    go_wp2
    go_loopw [21] (fun i wr => ∃ k : Nat, k ≤ j ∧ i = .int .i64 k ∧ wr = w1) (fun i _ => l.length - (intOf i).toNat)
    case atStart => exact ⟨0, by omega, rfl, rfl⟩
    case round =>
      obtain ⟨k, hk, rfl, rfl⟩ := hrel
      have hkl : k < l.length := by omega
      have cp := show_cell (HU.out wr (Kept.refl _ _)) hkl
      obtain ⟨K, hKk, h1, h2, h3⟩ := HP.out.next hkl
      have HUS : Hid (usedF t (pk l k) = t.us K) := Lib.hid (by rw [hKk]; exact usedF_at h1 h2)
      obtain ⟨U, hU⟩ : ∃ U, t.us K = U := ⟨_, rfl⟩
      rw [hU] at HUS
      by_cases hkj : k < j
      · have hge : ¬ U < n := by
          have := HB.out k hkj
          rw [hKk, Int.toNat_natCast, hU] at this
          omega
        clear hU h1 h2 h3 hKk
        go_wp2_with fail
        refine (cUsed HA.out _ _ HUS.out).mono ?_
        rintro e w2 ⟨rfl, rfl⟩
        go_wp2
        go_roundw
        case rel => exact ⟨k + 1, by omega, by go_num, by first | rfl | trivial⟩
        case measure => simp [intOf]; omega
      · obtain rfl : k = j := by omega
        have hge : U < n := by
          have := HF.out
          rwa [hKk, Int.toNat_natCast, hU] at this
        clear hU h1 h2 h3 hKk
        go_wp2_with fail
        refine (cUsed HA.out _ _ HUS.out).mono ?_
        rintro e w2 ⟨rfl, rfl⟩
        go_wp2
        go_ret
        exact ⟨rfl, HA.out, Kept.refl _ _⟩
  | ok h0 hp hn hb =>
    subst h0
    obtain ⟨b, o, cap, rfl, hcap⟩ := show_some (hu w (Kept.refl _ _)) hp.n1
    have hl8 := hp.n2
    have HP := Lib.hid hp
    have HB := Lib.hid hb
    have HN := Lib.hid hn
    have HC := Lib.hid hc
    clear h hu hq hp hb hn hc
    go_enter Try.func21, Try.ntmps21
    go_wp2_with fail
    refine (cCheckPath HA.out _ l n 0 HQ.out (HU.out _ (Kept.refl _ _))).mono ?_
    rintro e w1 ⟨rfl, rfl⟩
    go_wp2
    go_loopw [21] (fun i wr => ∃ k : Nat, k ≤ l.length ∧ i = .int .i64 k ∧ wr = w1) (fun i _ => l.length - (intOf i).toNat)
    case atStart => exact ⟨0, by omega, rfl, rfl⟩
    case round =>
      obtain ⟨k, hk, rfl, rfl⟩ := hrel
      by_cases hkl : k < l.length
      · have cp := show_cell (HU.out wr (Kept.refl _ _)) hkl
        obtain ⟨K, hKk, h1, h2, h3⟩ := HP.out.next hkl
        have HUS : Hid (usedF t (pk l k) = t.us K) := Lib.hid (by rw [hKk]; exact usedF_at h1 h2)
        obtain ⟨U, hU⟩ : ∃ U, t.us K = U := ⟨_, rfl⟩
        rw [hU] at HUS
        have hge : ¬ U < n := by
          have := HB.out k hkl
          rw [hKk, Int.toNat_natCast, hU] at this
          omega
        clear hU h1 h2 h3 hKk
        go_wp2_with fail
        refine (cUsed HA.out _ _ HUS.out).mono ?_
        rintro e w2 ⟨rfl, rfl⟩
        go_wp2
        go_roundw
        case rel => exact ⟨k + 1, by omega, by go_num, by first | rfl | trivial⟩
        case measure => simp [intOf]; omega
      · obtain rfl : k = l.length := by omega
        go_wp2
        go_loopw [33] (fun i ws => ∃ k : Nat, k ≤ l.length ∧ i = .int .i64 k ∧ Hid (CV ws B g (t.all (l.take k) (-n))) ∧ Hid (Kept (· = g) wr ws)) (fun i _ => l.length - (intOf i).toNat)
        case atStart => exact ⟨0, by omega, rfl, Lib.hid (by rw [List.take_zero, Ct.all_nil]; exact HA.out), Lib.hid (Kept.refl _ _)⟩
        case round =>
          rename_i ws _
          obtain ⟨k, hk, rfl, HV, HK⟩ := hrel
          by_cases hkl : k < l.length
          · have cp := show_cell (HU.out _ HK.out) hkl
            obtain ⟨K, hKk, h1, h2, h3⟩ := HP.out.next hkl
            have hus : (t.all (l.take k) (-n)).us K = t.us K := by rw [all_us, if_neg h3]
            have HCI : Hid (CI (t.all (l.take k) (-n))) := Lib.hid (down_ci HC.out HN.out (fun i _ hi => HB.out i hi))
            have HR : Hid (DnIs (t.all (l.take k) (-n)) (pk l k) n 0 (t.all (l.take (k + 1)) (-n))) := Lib.hid (by
              rw [Ct.all_next t l (-n) hkl HP.out.d hKk, ← Ct.dn_up]
              refine .ok K hKk h1 h2 HN.out ?_
              rw [hus]
              have := HB.out k hkl
              rwa [hKk, Int.toNat_natCast] at this)
            clear hus h1 h2 h3 hKk
            go_wp2_with fail
            refine (cDown HV.out HCI.out HR.out).mono ?_
            rintro e w2 ⟨rfl, hv2, hk2⟩
            have HV2 := Lib.hid hv2
            have HK2 := Lib.hid (HK.out.trans hk2)
            clear hv2 hk2
            go_wp2
            go_roundw
            case rel => exact ⟨k + 1, by omega, by go_num, HV2, HK2⟩
            case measure => simp [intOf]; omega
          · obtain rfl : k = l.length := by omega
            have HV2 : Hid (CV _ B g (t.all l (-n))) := Lib.hid (by have := HV.out; rwa [List.take_length] at this)
            go_wp2
            go_ret
            exact ⟨rfl, HV2.out, HK.out⟩
end Go.Proofs.Ytahkfagfobfliaa
