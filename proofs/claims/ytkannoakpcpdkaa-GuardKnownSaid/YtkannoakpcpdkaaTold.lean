/-
  GuardTold.
-/
import Derived.Test.YtkannoakpcpdkaaWorks
set_option linter.unusedVariables false
set_option linter.unusedSimpArgs false
namespace Go.Proofs.Ytkannoakpcpdkaa
open Go Go.RowKit

set_option maxHeartbeats 8000000 in
theorem walkTold (x y t0 : Int) (ht0 : 0 ≤ t0 ∧ t0 ≤ 255) (w : World) :
    Calls Try.prog 6 #[.int .i64 x, .int .i64 y, .int .u8 t0] w fun e w' => e = .returned (.bool true) ∧ Below w.heap.size w w' := by
  obtain ⟨z, hz⟩ : ∃ z, bring x 1024 = z := ⟨_, rfl⟩
  have HZ := Lib.hid hz
  have hz1 : z < 1024 := by rw [← hz]; exact bring_lt x 1024 (by decide)
  clear hz
  obtain ⟨n, hn⟩ : ∃ n, n = z + 1 := ⟨_, rfl⟩
  have hn' : 1 + (z : Int) = (n : Int) := by omega
  have h1 : 1 ≤ n := by omega
  have h2 : n ≤ 1024 := by omega
  clear hn
  obtain ⟨M, hM⟩ : ∃ M, M = n + 16 := ⟨_, rfl⟩
  have HM := Lib.hid hM
  have hMn : (n : Int) + 16 = (M : Int) := by omega
  have hMb : M ≤ 1040 := by omega
  have hMa : 1 ≤ M := by omega
  clear hM
  obtain ⟨t, ht⟩ : ∃ t, max t0 1 = t := ⟨_, rfl⟩
  have ht1 : 1 ≤ t ∧ t ≤ 255 := by omega
  clear ht0
  obtain ⟨k, hk⟩ : ∃ k, bring y M = k := ⟨_, rfl⟩
  have HK := Lib.hid hk
  have hkM : k < M := by rw [← hk]; exact bring_lt y M hMa
  clear hk
  have hx1 := xor_one (free_mem n k) ht1.1 ht1.2
  have hx2 := xor_one (out_mem n k) ht1.1 ht1.2
  go_enter Try.func6, Try.ntmps6
  go_wp2_with fail
  refine (cBringN x 1024 1024 rfl (by decide) w).mono ?_
  rintro e w1 ⟨rfl, rfl⟩
  rw [HZ.out]
  go_wp2_with fail
  refine (cLayYes n M h1 h2 HM.out w1).mono ?_
  rintro e w2 ⟨g1, k1, rfl, G1⟩
  have H1 := Lib.hid G1
  have hk1 := G1.cap
  clear G1
  go_wp2_with fail
  refine (cOutYes _ (lst M (freeF n)) n M h1 h2 (by rw [len_lst, HM.out]) HM.out (by rw [HM.out]; exact (chk_free h1 h2).1) w2 H1.out.shows).mono ?_
  rintro e w3 ⟨g2, k2, rfl, G2⟩
  have H2 := Lib.hid G2
  have hk2 := G2.cap
  have hne : g1 ≠ g2 := by have := H1.out.row.lt; have := G2.new; omega
  have hne2 : g2 ≠ g1 := fun e => hne e.symm
  clear G2
  go_wp2_with fail
  refine (cBringN y M M rfl ⟨hMa, by omega⟩ w3).mono ?_
  rintro e w4 ⟨rfl, rfl⟩
  rw [HK.out]
  have r1 := H1.out.row.below H2.out.below
  have c1 := r1.cell hkM
  have f1 := r1.free k
  have c2 := H2.out.row.cell hkM
  have f2 := H2.out.row.free k
  obtain ⟨z1, hz1'⟩ : ∃ z1, bits .xor .u8 (freeF n k) t = z1 := ⟨_, rfl⟩
  obtain ⟨z2, hz2'⟩ : ∃ z2, bits .xor .u8 (outF n k) t = z2 := ⟨_, rfl⟩
  rw [hz1'] at hx1
  rw [hz2'] at hx2
  have hs1 := r1.set hkM z1
  have hk4 := kept_set w4 g1 k (.int .u8 z1)
  have r2 := H2.out.row.kept hk4 hne2
  have c2' := r2.cell hkM
  have f2' := r2.free k
  have HR2 := Lib.hid (r2.set hkM z2)
  have HR1 := Lib.hid (hs1.kept (kept_set (w4.setCell ⟨g1, k, none⟩ (.int .u8 z1)) g2 k (.int .u8 z2)) hne)
  have hB : Below w1.heap.size w1 ((w4.setCell ⟨g1, k, none⟩ (.int .u8 z1)).setCell ⟨g2, k, none⟩ (.int .u8 z2)) := ((below_then H1.out.below H2.out.below).setCell (p := ⟨g1, k, none⟩) H1.out.new _).setCell (p := ⟨g2, k, none⟩) (by have := H2.out.new; have := H1.out.below.size; show w1.heap.size ≤ g2; omega) _
  have HB := Lib.hid hB
  have HX1 := Lib.hid (show z1 ≠ freeF n k from hx1.1)
  have HX2 := Lib.hid (show z2 ≠ outF n k from hx2.1)
  clear hs1 hk4 r2 r1 hB hx1 hx2
  obtain ⟨F1, hF1⟩ : ∃ F1, freeF n k = F1 := ⟨_, rfl⟩
  obtain ⟨F2, hF2⟩ : ∃ F2, outF n k = F2 := ⟨_, rfl⟩
  rw [hF1] at c1 hz1'
  rw [hF2] at c2 c2' hz2'
  have HF2 := Lib.hid hF2
  clear hF1 hF2
  go_wp2_with fail
  have HCF : Hid (chkE (lst M (turnF (freeF n) k z1)) false = 180 ∧ chkA (lst M (turnF (freeF n) k z1)) false = k) := Lib.hid (by rw [HM.out]; exact chk_turned h1 h2 (by rw [← HM.out]; exact hkM) HX1.out)
  clear c1 c2 c2' f1 f2 f2' HX1 hz1' hz2'
  generalize (w4.setCell ⟨g1, k, none⟩ (.int .u8 z1)).setCell ⟨g2, k, none⟩ (.int .u8 z2) = W at HR1 HR2 HB ⊢
  have S1 := Lib.hid (HR1.out.shows H1.out.le H1.out.max)
  have S2 := Lib.hid (HR2.out.shows H2.out.le H2.out.max)
  clear HR1 HR2
  refine (cChk _ (lst M (turnF (freeF n) k z1)) false W S1.out).mono ?_
  rintro e w5 ⟨rfl, hb5⟩
  rw [HCF.out.1, HCF.out.2]
  have B5 := Lib.hid (below_then HB.out hb5)
  have S15 := Lib.hid (S1.out.below hb5)
  have S25 := Lib.hid (S2.out.below hb5)
  clear hb5
  by_cases hs : k < 8 ∨ n + 8 ≤ k
  · have HCO : Hid (chkE (lst M (turnF (outF n) k z2)) true = 180 ∧ chkA (lst M (turnF (outF n) k z2)) true = k) := Lib.hid (by
      have h204 : outF n k = 204 := outF_side hs _ _ _
      rw [HM.out]
      exact chk_turnedO h1 h2 (by rw [← HM.out]; exact hkM) (by rw [← h204]; exact HX2.out) hs)
    have HSD : Hid (k < 8 ∨ n + 8 ≤ k) := Lib.hid hs
    go_wp2_with fail
    refine (cChk _ (lst M (turnF (outF n) k z2)) true w5 S25.out).mono ?_
    rintro e w6 ⟨rfl, hb6⟩
    rw [HCO.out.1, HCO.out.2]
    have B6 := Lib.hid (below_then B5.out hb6)
    have S16 := Lib.hid (S15.out.below hb6)
    have S26 := Lib.hid (S25.out.below hb6)
    clear hb6
    go_wp2_with fail
    refine (cOutNo _ (lst M (turnF (freeF n) k z1)) (by rw [HCF.out.1]; decide) w6 S16.out).mono ?_
    rintro e w7 ⟨rfl, hb7⟩
    rw [HCF.out.1]
    have B7 := Lib.hid (below_then B6.out hb7)
    have S27 := Lib.hid (S26.out.below hb7)
    clear hb7
    go_wp2_with fail
    refine (cBackNo _ (lst M (turnF (outF n) k z2)) (by rw [HCO.out.1]; decide) w7 S27.out).mono ?_
    rintro e w8 ⟨rfl, hb8⟩
    rw [HCO.out.1]
    have B8 := Lib.hid (below_then B7.out hb8)
    clear hb8
    clear hs
    by_cases h8 : k < 8
    · go_wp2_with fail
      refine (cWorks _).mono ?_
      rintro e w9 ⟨rfl, hb9⟩
      have B9 := Lib.hid (below_then B8.out hb9)
      clear hb9
      go_wp2
      go_ret
      exact ⟨rfl, B9.out⟩
    · have h9 : ¬ (k : Int) < (n : Int) + 8 := by have := HSD.out; omega
      go_wp2_with fail
      refine (cWorks _).mono ?_
      rintro e w9 ⟨rfl, hb9⟩
      have B9 := Lib.hid (below_then B8.out hb9)
      clear hb9
      go_wp2
      go_ret
      exact ⟨rfl, B9.out⟩
  · have HCO : Hid (chkE (lst M (turnF (outF n) k z2)) true = 0) := Lib.hid (by rw [HM.out]; exact (chk_turnedI h1 h2 hs).1)
    have h8 : ¬ k < 8 := fun h => hs (.inl h)
    have h9 : (k : Int) < (n : Int) + 8 := by omega
    clear hs
    go_wp2_with fail
    refine (cChk _ (lst M (turnF (outF n) k z2)) true w5 S25.out).mono ?_
    rintro e w6 ⟨rfl, hb6⟩
    rw [HCO.out]
    have B6 := Lib.hid (below_then B5.out hb6)
    have S16 := Lib.hid (S15.out.below hb6)
    have S26 := Lib.hid (S25.out.below hb6)
    clear hb6
    generalize chkA (lst M (turnF (outF n) k z2)) true = ca
    go_wp2_with fail
    refine (cOutNo _ (lst M (turnF (freeF n) k z1)) (by rw [HCF.out.1]; decide) w6 S16.out).mono ?_
    rintro e w7 ⟨rfl, hb7⟩
    rw [HCF.out.1]
    have B7 := Lib.hid (below_then B6.out hb7)
    have S27 := Lib.hid (S26.out.below hb7)
    clear hb7
    go_wp2_with fail
    refine (cBackYes _ (lst M (turnF (outF n) k z2)) n M h1 h2 (by rw [len_lst, HM.out]) HM.out HCO.out w7 S27.out).mono ?_
    rintro e w8 ⟨g8, k8, rfl, G8⟩
    have B8 := Lib.hid (below_then B7.out G8.below)
    clear G8
    go_wp2_with fail
    refine (cWorks _).mono ?_
    rintro e w9 ⟨rfl, hb9⟩
    have B9 := Lib.hid (below_then B8.out hb9)
    clear hb9
    go_wp2
    go_ret
    exact ⟨rfl, B9.out⟩
end Go.Proofs.Ytkannoakpcpdkaa
