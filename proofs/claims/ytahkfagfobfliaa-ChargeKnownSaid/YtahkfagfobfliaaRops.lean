/-
  Used, Limits, Limit, Up, Down, New of the document's counters.
-/
import Derived.Test.YtahkfagfobfliaaRt
import Derived.StillTailTactics
set_option linter.unusedVariables false
set_option linter.unusedSimpArgs false
namespace Go.Proofs.Ytahkfagfobfliaa
open Go Go.RowKit

section
variable {S : Nat → Prop} {w w' : World} {R : Nat} {t t' : Ct} {x n e : Int} {Ts : List TypeId}
theorem isG.nat17 {g : Int} (h : isG g) : ∃ k : Nat, g = (k : Int) ∧ 1 ≤ k ∧ k < 17 ∧ g.toNat = k := ⟨g.toNat, by unfold isG at h; omega, by unfold isG at h; omega, by unfold isG at h; omega, rfl⟩
set_option maxHeartbeats 1000000 in
theorem rUsed (h : RV w R t) (x u : Int) (hu : usedF t x = u) :
    Calls Try.prog 12 #[.pointer (some ⟨R, 0, none⟩), .int .i64 x] w fun e w' => e = .returned (.int .i64 u) ∧ w' = w := by
  unfold usedF at hu
  by_cases hx : isG x
  · rw [if_pos hx] at hu
    have HG := Lib.hid (decide_eq_true hx)
    obtain ⟨k, rfl, h1, h2, e⟩ := hx.nat17
    rw [e] at hu
    have cu := h.cu h2
    rw [hu] at cu
    clear h hx hu e
    go_enter Try.func12, Try.ntmps12
    go_wp2_with (go_at_call 33; refine (rIsG _ _ HG.out _).mono ?_; rintro e w1 ⟨rfl, rfl⟩)
    go_ret
    exact ⟨rfl, rfl⟩
  · rw [if_neg hx] at hu
    have HG := Lib.hid (decide_eq_false hx)
    subst hu
    clear h hx
    go_enter Try.func12, Try.ntmps12
    go_wp2_with (go_at_call 33; refine (rIsG _ _ HG.out _).mono ?_; rintro e w1 ⟨rfl, rfl⟩)
    go_ret
    exact ⟨rfl, rfl⟩
set_option maxHeartbeats 1000000 in
theorem rMost (h : RV w R t) (x u : Int) (hu : mostF t x = u) :
    Calls Try.prog 14 #[.pointer (some ⟨R, 0, none⟩), .int .i64 x] w fun e w' => e = .returned (.int .i64 u) ∧ w' = w := by
  unfold mostF at hu
  by_cases hx : isG x
  · rw [if_pos hx] at hu
    have HG := Lib.hid (decide_eq_true hx)
    obtain ⟨k, rfl, h1, h2, e⟩ := hx.nat17
    rw [e] at hu
    have cu := h.cm h2
    rw [hu] at cu
    clear h hx hu e
    go_enter Try.func14, Try.ntmps14
    go_wp2_with (go_at_call 33; refine (rIsG _ _ HG.out _).mono ?_; rintro e w1 ⟨rfl, rfl⟩)
    go_ret
    exact ⟨rfl, rfl⟩
  · rw [if_neg hx] at hu
    have HG := Lib.hid (decide_eq_false hx)
    subst hu
    clear h hx
    go_enter Try.func14, Try.ntmps14
    go_wp2_with (go_at_call 33; refine (rIsG _ _ HG.out _).mono ?_; rintro e w1 ⟨rfl, rfl⟩)
    go_ret
    exact ⟨rfl, rfl⟩
theorem askE_ok' {k : Nat} {n : Int} (h1 : 1 ≤ k) (h2 : k ≤ 16) (hn : isN n) : askE (k : Int) n = 0 := by
  have h : isG (k : Int) := by unfold isG; omega
  simp [askE, h, hn]
/-- the one that is asked, as a list -/
theorem one_shows (w : World) (x : Int) : ShowI (w.alloc (.cells #[.int .i64 x] 3)) (.slice (some ⟨w.heap.size, 0, none⟩) 1 1) [x] := lit_i w 3 [x] 1 rfl (by decide)
theorem RV.set1 (h : RV w R t) {k : Nat} (hk : k < 17) (hb : Below w.heap.size w w') (v : Int) : RV (w'.setCell ⟨R, k, none⟩ (.int .i64 v)) R (t.set k v) ∧ Kept (· = R) w (w'.setCell ⟨R, k, none⟩ (.int .i64 v)) :=
  ⟨(h.below hb).setU hk v, (Kept.ofBelow hb).trans (kept_one _ _)⟩
theorem RV.set2 (h : RV w R t) {k : Nat} (hk : k < 17) (hb : Below w.heap.size w w') (v : Int) : RV (w'.setCell ⟨R, 17 + k, none⟩ (.int .i64 v)) R (t.lim k v) ∧ Kept (· = R) w (w'.setCell ⟨R, 17 + k, none⟩ (.int .i64 v)) :=
  ⟨(h.below hb).setM hk v, (Kept.ofBelow hb).trans (kept_one _ _)⟩
set_option maxHeartbeats 1000000 in
theorem rLimit (h : RV w R t) (hr : LmIs t x n e t') :
    Calls Try.prog 25 #[.pointer (some ⟨R, 0, none⟩), .int .i64 x, .int .i64 n] w fun e' w' => e' = .returned (.int .i64 e) ∧ RV w' R t' ∧ Kept (· = R) w w' := by
  have HA := Lib.hid h
  cases hr with
  | bad hq =>
    have hne : (askE x n == 0) = false := by simp [hq]
    obtain ⟨q, hq2⟩ : ∃ q, askE x n = q := ⟨_, rfl⟩
    rw [hq2] at hne ⊢
    have HC : Hid (askR [x] n = q) := Lib.hid (by rw [askR_one, hq2])
    clear h hq hq2
    go_enter Try.func25, Try.ntmps25
    go_wp2_with fail
    refine (rAsked _ [x] n q HC.out _ (one_shows w x)).mono ?_
    rintro e w1 ⟨rfl, hb⟩
    have HB := Lib.hid ((below_one (Below.refl _ w) _).trans (hb.mono (by rw [size_alloc]; omega)))
    clear hb
    go_wp2
    go_ret
    exact ⟨rfl, HA.out.below HB.out, Kept.ofBelow HB.out⟩
  | ok k hg h1 h2 hn =>
    subst hg
    have HC : Hid (askR [(k : Int)] n = 0) := Lib.hid (by rw [askR_one]; exact askE_ok' h1 h2 hn)
    have hk17 : k < 17 := by omega
    clear h hn
    go_enter Try.func25, Try.ntmps25
    go_wp2_with fail
    refine (rAsked _ [(k : Int)] n 0 HC.out _ (one_shows w k)).mono ?_
    rintro e w1 ⟨rfl, hb⟩
    have hb1 : Below w.heap.size w w1 := (below_one (Below.refl _ w) _).trans (hb.mono (by rw [size_alloc]; omega))
    have cm := (HA.out.below hb1).cm hk17
    have fm := (HA.out.below hb1).fr (17 + k)
    have HF := Lib.hid (HA.out.set2 hk17 hb1 n)
    clear hb hb1
    go_wp2
    go_ret
    exact ⟨rfl, HF.out.1, HF.out.2⟩
set_option maxHeartbeats 1000000 in
theorem rUp (h : RV w R t) (hc : CI t) (hr : UpIs t x n e t') :
    Calls Try.prog 26 #[.pointer (some ⟨R, 0, none⟩), .int .i64 x, .int .i64 n] w fun e' w' => e' = .returned (.int .i64 e) ∧ RV w' R t' ∧ Kept (· = R) w w' := by
  have HA := Lib.hid h
  cases hr with
  | bad hq =>
    have hne := ask_ne hq
    obtain ⟨q, hq2⟩ : ∃ q, askE x n = q := ⟨_, rfl⟩
    rw [hq2] at hne ⊢
    have HC : Hid (askR [x] n = q) := Lib.hid (by rw [askR_one, hq2])
    clear h hq hq2
    go_enter Try.func26, Try.ntmps26
    go_wp2_with fail
    refine (rAsked _ [x] n q HC.out _ (one_shows w x)).mono ?_
    rintro e w1 ⟨rfl, hb⟩
    have HB := Lib.hid ((below_one (Below.refl _ w) _).trans (hb.mono (by rw [size_alloc]; omega)))
    clear hb
    go_wp2
    go_ret
    exact ⟨rfl, HA.out.below HB.out, Kept.ofBelow HB.out⟩
  | full k hg h1 h2 hn hf =>
    subst hg
    have HC : Hid (askR [(k : Int)] n = 0) := Lib.hid (by rw [askR_one]; exact askE_ok' h1 h2 hn)
    have hk17 : k < 17 := by omega
    have b1 := hc.u k h1 h2
    have hw : IntKind.i64.wrap (t.us k + n) = t.us k + n := IntWalk.i64_in _ (by unfold isN at *; omega)
    clear h hn
    go_enter Try.func26, Try.ntmps26
    go_wp2_with fail
    refine (rAsked _ [(k : Int)] n 0 HC.out _ (one_shows w k)).mono ?_
    rintro e w1 ⟨rfl, hb⟩
    have hb1 : Below w.heap.size w w1 := (below_one (Below.refl _ w) _).trans (hb.mono (by rw [size_alloc]; omega))
    have cu := (HA.out.below hb1).cu hk17
    have cm := (HA.out.below hb1).cm hk17
    have HB := Lib.hid hb1
    generalize t.us k = U at *
    generalize t.mo k = M at *
    clear hb hb1 b1
    go_wp2
    go_quiet (fail)
    go_wp2
    go_ret
    exact ⟨rfl, HA.out.below (below_drewN HB.out _), Kept.ofBelow (below_drewN HB.out _)⟩
  | ok k hg h1 h2 hn hf =>
    subst hg
    have HC : Hid (askR [(k : Int)] n = 0) := Lib.hid (by rw [askR_one]; exact askE_ok' h1 h2 hn)
    have hk17 : k < 17 := by omega
    have b1 := hc.u k h1 h2
    have hw : IntKind.i64.wrap (t.us k + n) = t.us k + n := IntWalk.i64_in _ (by unfold isN at *; omega)
    have hnf : ¬ t.mo k < t.us k + n := by omega
    clear h hn hf
    go_enter Try.func26, Try.ntmps26
    go_wp2_with fail
    refine (rAsked _ [(k : Int)] n 0 HC.out _ (one_shows w k)).mono ?_
    rintro e w1 ⟨rfl, hb⟩
    have hb1 : Below w.heap.size w w1 := (below_one (Below.refl _ w) _).trans (hb.mono (by rw [size_alloc]; omega))
    have cu := (HA.out.below hb1).cu hk17
    have cm := (HA.out.below hb1).cm hk17
    have fu := (HA.out.below hb1).fr k
    have HF : Hid (∀ w2, Below w1.heap.size w1 w2 → RV (w2.setCell ⟨R, k, none⟩ (.int .i64 (t.us k + n))) R (t.up k n) ∧ Kept (· = R) w (w2.setCell ⟨R, k, none⟩ (.int .i64 (t.us k + n)))) := Lib.hid (fun w2 h2 => HA.out.set1 hk17 (below_then hb1 h2) _)
    have HFR : Hid (∀ w2, Below w1.heap.size w1 w2 → w2.frozen? ⟨R, k, none⟩ = false) := Lib.hid (fun w2 h2 => (HA.out.below (below_then hb1 h2)).fr k)
    generalize t.us k = U at *
    generalize t.mo k = M at *
    clear hb hb1 b1
    go_wp2
    go_quiet (fail)
    go_wp2
    have hbq : Below w1.heap.size w1 (w1.drewN nq) := below_drewN (Below.refl _ _) nq
    generalize w1.drewN nq = wq at hbq ⊢
    have cuq := cell_keep hbq cu
    have i0 : (0 : Int) ≤ (k : Int) := by omega
    have i1 : (k : Int) < 17 := by omega
    have i2 : (0 : Int) ≤ (k : Int) ∧ (k : Int) < 17 := by omega
    refine wp_region_still_tail 13 (by kernel_rfl) (by kernel_rfl) ?_
    simp only [List.take_succ_cons, List.take_zero, List.drop_succ_cons, List.drop_zero]
    repeat still_step
    refine wpStill_nil ?_
    change wpList _ _ _ _ _ (World.drew _)
    have hb2 : Below w1.heap.size w1 wq.drew := hbq.drew
    generalize wq.drew = w2 at hb2 ⊢
    have cu2 := cell_keep hb2 cu
    have fu2 := HFR.out _ hb2
    have HF2 := Lib.hid (HF.out _ hb2)
    clear cu cuq fu HF HFR hb2 cm
    go_wp2
    go_ret
    exact ⟨rfl, HF2.out.1, HF2.out.2⟩
set_option maxHeartbeats 1000000 in
theorem rDown (h : RV w R t) (hc : CI t) (hr : DnIs t x n e t') :
    Calls Try.prog 27 #[.pointer (some ⟨R, 0, none⟩), .int .i64 x, .int .i64 n] w fun e' w' => e' = .returned (.int .i64 e) ∧ RV w' R t' ∧ Kept (· = R) w w' := by
  have HA := Lib.hid h
  cases hr with
  | bad hq =>
    have hne := ask_ne hq
    obtain ⟨q, hq2⟩ : ∃ q, askE x n = q := ⟨_, rfl⟩
    rw [hq2] at hne ⊢
    have HC : Hid (askR [x] n = q) := Lib.hid (by rw [askR_one, hq2])
    clear h hq hq2
    go_enter Try.func27, Try.ntmps27
    go_wp2_with fail
    refine (rAsked _ [x] n q HC.out _ (one_shows w x)).mono ?_
    rintro e w1 ⟨rfl, hb⟩
    have HB := Lib.hid ((below_one (Below.refl _ w) _).trans (hb.mono (by rw [size_alloc]; omega)))
    clear hb
    go_wp2
    go_ret
    exact ⟨rfl, HA.out.below HB.out, Kept.ofBelow HB.out⟩
  | few k hg h1 h2 hn hf =>
    subst hg
    have HC : Hid (askR [(k : Int)] n = 0) := Lib.hid (by rw [askR_one]; exact askE_ok' h1 h2 hn)
    have hk17 : k < 17 := by omega
    clear h hn
    go_enter Try.func27, Try.ntmps27
    go_wp2_with fail
    refine (rAsked _ [(k : Int)] n 0 HC.out _ (one_shows w k)).mono ?_
    rintro e w1 ⟨rfl, hb⟩
    have hb1 : Below w.heap.size w w1 := (below_one (Below.refl _ w) _).trans (hb.mono (by rw [size_alloc]; omega))
    have cu := (HA.out.below hb1).cu hk17
    have HB := Lib.hid hb1
    generalize t.us k = U at *
    clear hb hb1
    go_wp2
    go_ret
    exact ⟨rfl, HA.out.below HB.out, Kept.ofBelow HB.out⟩
  | ok k hg h1 h2 hn hf =>
    subst hg
    have HC : Hid (askR [(k : Int)] n = 0) := Lib.hid (by rw [askR_one]; exact askE_ok' h1 h2 hn)
    have hk17 : k < 17 := by omega
    have b1 := hc.u k h1 h2
    have hw : IntKind.i64.wrap (t.us k - n) = t.us k - n := IntWalk.i64_in _ (by unfold isN at *; omega)
    have hnf : ¬ t.us k < n := by omega
    clear h hn hf
    go_enter Try.func27, Try.ntmps27
    go_wp2_with fail
    refine (rAsked _ [(k : Int)] n 0 HC.out _ (one_shows w k)).mono ?_
    rintro e w1 ⟨rfl, hb⟩
    have hb1 : Below w.heap.size w w1 := (below_one (Below.refl _ w) _).trans (hb.mono (by rw [size_alloc]; omega))
    have cu := (HA.out.below hb1).cu hk17
    have fu := (HA.out.below hb1).fr k
    have HF : Hid (∀ w2, Below w1.heap.size w1 w2 → RV (w2.setCell ⟨R, k, none⟩ (.int .i64 (t.us k - n))) R (t.dn k n) ∧ Kept (· = R) w (w2.setCell ⟨R, k, none⟩ (.int .i64 (t.us k - n)))) := Lib.hid (fun w2 h2 => HA.out.set1 hk17 (below_then hb1 h2) _)
    have HFR : Hid (∀ w2, Below w1.heap.size w1 w2 → w2.frozen? ⟨R, k, none⟩ = false) := Lib.hid (fun w2 h2 => (HA.out.below (below_then hb1 h2)).fr k)
    generalize t.us k = U at *
    clear hb hb1 b1
    go_wp2
    have i0 : (0 : Int) ≤ (k : Int) := by omega
    have i1 : (k : Int) < 17 := by omega
    have i2 : (0 : Int) ≤ (k : Int) ∧ (k : Int) < 17 := by omega
    refine wp_region_still_tail 13 (by kernel_rfl) (by kernel_rfl) ?_
    simp only [List.take_succ_cons, List.take_zero, List.drop_succ_cons, List.drop_zero]
    repeat still_step
    refine wpStill_nil ?_
    change wpList _ _ _ _ _ (World.drew _)
    have hb2 : Below w1.heap.size w1 (w1).drew := ((Below.refl _ _)).drew
    generalize (w1).drew = w2 at hb2 ⊢
    have cu2 := cell_keep hb2 cu
    have fu2 := HFR.out _ hb2
    have HF2 := Lib.hid (HF.out _ hb2)
    clear cu fu HF HFR hb2
    go_wp2
    go_ret
    exact ⟨rfl, HF2.out.1, HF2.out.2⟩
def newF (k i : Nat) : Value := .int .i64 (if i < 17 then 0 else if i < 17 + k then 9007199254740991 else 0)
set_option maxHeartbeats 1000000 in
theorem rNew (w : World) : Calls Try.prog 9 #[] w fun e w' => ∃ R, e = .returned (.pointer (some ⟨R, 0, none⟩)) ∧ RV w' R noC ∧ Below w.heap.size w w' ∧ w.heap.size ≤ R := by
  go_enter Try.func9, Try.ntmps9
  have HR0 : Hid (RowG (w.alloc (.cells (Array.replicate 34 (.int .i64 0)) 51)) w.heap.size 51 34 (newF 0)) := Lib.hid ⟨_, heap_new w _, fun i hi => by
    rw [Array.getElem?_replicate, if_pos hi]
    unfold newF
    by_cases h1 : i < 17
    · rw [if_pos h1]
    · rw [if_neg h1, if_neg (by omega)]⟩
  go_wp2
  go_loopw [2] (fun i wr => ∃ k : Nat, k ≤ 17 ∧ i = .int .i64 k ∧ Hid (RowG wr w.heap.size 51 34 (newF k)) ∧ Hid (Below w.heap.size w wr)) (fun i _ => 17 - (intOf i).toNat)
  case atStart => exact ⟨0, by omega, rfl, HR0, Lib.hid (below_one (Below.refl _ w) _)⟩
  case round =>
    clear HR0
    obtain ⟨k, hk, rfl, HR, HB⟩ := hrel
    by_cases hlt : k < 17
    · have c1 := HR.out.cell (show 17 + k < 34 by omega)
      have f1 := HR.out.frozen (17 + k)
      have H2 : Hid (RowG (wr.setCell ⟨w.heap.size, 17 + k, none⟩ (.int .i64 9007199254740991)) w.heap.size 51 34 (newF (k + 1))) := Lib.hid (HR.out.set (17 + k) (by omega) _ (fun j hj => by
        unfold newF
        by_cases e : j = 17 + k
        · rw [if_pos e, if_neg (by omega), if_pos (by omega)]
        · rw [if_neg e]
          by_cases h1 : j < 17
          · rw [if_pos h1, if_pos h1]
          · rw [if_neg h1, if_neg h1]
            by_cases h2 : j < 17 + k
            · rw [if_pos h2, if_pos (by omega)]
            · rw [if_neg h2, if_neg (by omega)]))
      have HB2 : Hid (Below w.heap.size w (wr.setCell ⟨w.heap.size, 17 + k, none⟩ (.int .i64 9007199254740991))) := Lib.hid (HB.out.setCell (p := ⟨w.heap.size, 17 + k, none⟩) (Nat.le_refl _) _)
      obtain ⟨v, hv⟩ : ∃ v, newF k (17 + k) = v := ⟨_, rfl⟩
      rw [hv] at c1
      clear hv
      go_wp2
      go_roundw
      case rel => exact ⟨k + 1, by omega, by go_num, H2, HB2⟩
      case measure => simp [intOf]; omega
    · obtain rfl : k = 17 := by omega
      have HV : Hid (RV wr w.heap.size noC) := Lib.hid (HR.out.congr (fun i hi => by
        unfold newF refF noC
        by_cases h1 : i < 17
        · rw [if_pos h1, if_pos h1]
        · rw [if_neg h1, if_neg h1, if_pos (by omega)]))
      rw [show ((17 : Nat) : Int) = 17 from rfl]
      go_wp2
      go_ret
      exact ⟨_, rfl, HV.out, HB.out, Nat.le_refl _⟩
end
end Go.Proofs.Ytahkfagfobfliaa
