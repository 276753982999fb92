/-
  step: a call of both Zones.
-/
import Derived.Test.YtlljomnpdgmifaaSm
set_option linter.unusedVariables false
set_option linter.unusedSimpArgs false
namespace Go.Proofs.Ytlljomnpdgmifaa
open Go Go.RowKit

/-- both, and the call's box -/
structure Zk (W w : World) (K : Nat) (kd cpu a b : Int) (z : Nat) (N : Zn) (n : Nat) (l : List Pg) (f : F) (t : Int → Option Pg) (y : Nat) (R : Rn) (l2 : List Pg) (f2 : F) : Prop where
  z2 : Z2 W w z N n l f t y R l2 f2
  box : w.heap[K]? = some (.cells #[.int .i64 kd, .int .i64 cpu, .int .i64 a, .int .i64 b] 32 (0, 0))
section
variable {W w w' : World} {z y n K : Nat} {kd cpu a b : Int} {N N' : Zn} {R R' : Rn} {l l' l2 : List Pg} {f f' f2 : F} {t t' : Int → Option Pg}
theorem Zk.cells (h : Zk W w K kd cpu a b z N n l f t y R l2 f2) : w.cell? ⟨K, 0, none⟩ = some (.int .i64 kd) ∧ w.cell? ⟨K, 1, none⟩ = some (.int .i64 cpu) ∧ w.cell? ⟨K, 2, none⟩ = some (.int .i64 a) ∧ w.cell? ⟨K, 3, none⟩ = some (.int .i64 b) :=
  ⟨self_cell h.box 0 _ rfl, self_cell h.box 1 _ rfl, self_cell h.box 2 _ rfl, self_cell h.box 3 _ rfl⟩
theorem Zk.left (h : Zk W w K kd cpu a b z N n l f t y R l2 f2) (ha : ZC w' z N' n l' f' t') (hG : ZGoes w w' n z N N') : Zk W w' K kd cpu a b z N' n l' f' t' y R l2 f2 :=
  ⟨h.z2.left ha hG, (hG.1.block K (lt_of_block h.box) (h.z2.a.zb.not_own h.box (by decide) (by decide) (by decide) (by decide) (by decide) (by decide))).trans h.box⟩
theorem Zk.right (h : Zk W w K kd cpu a b z N n l f t y R l2 f2) (hr : RC w' y R' n l' f') (hG : RGoes w w' n y R R') : Zk W w' K kd cpu a b z N n l f t y R' l' f' :=
  ⟨h.z2.right hr hG, (hG.1.block K (lt_of_block h.box) (h.z2.r.not_own h.box (by decide) (by decide) (by decide) (by decide) (by decide) (by decide))).trans h.box⟩
theorem Zk.below (h : Zk W w K kd cpu a b z N n l f t y R l2 f2) (hb : Below w.heap.size w w') : Zk W w' K kd cpu a b z N n l f t y R l2 f2 := ⟨h.z2.below hb, keep_block h.box hb⟩
/-- what step leaves -/
def StepOk (W : World) (z y n : Nat) (e : Ending) (w' : World) : Prop := e = .returned (.bool true) ∧ ∃ N' R' l' f' t', Z2 W w' z N' n l' f' t' y R' l' f'
theorem out_wf {n : Nat} {l : List Pg} {f : F} (hl : l.length ≤ 1024) {x : Int} (h : x ∈ outL n l f) : wf64 x := by
  obtain ⟨i, h1, _, rfl⟩ := ids_mem.1 h
  exact wf_small i (by omega)
set_option maxHeartbeats 16000000 in
set_option maxRecDepth 100000 in
theorem cStep (h : Z2 W w z N n l f t y R l f) (kd cpu a b : Int) (hw : wf64 a) :
    Calls Try.prog 10 #[.pointer (some ⟨z, 0, none⟩), .pointer (some ⟨y, 0, none⟩), .agg #[.int .i64 kd, .int .i64 cpu, .int .i64 a, .int .i64 b]] w (StepOk W z y n) := by
  have h0 : Zk W (w.alloc (.cells #[.int .i64 kd, .int .i64 cpu, .int .i64 a, .int .i64 b] 32)) w.heap.size kd cpu a b z N n l f t y R l f := ⟨h.below (below_one (Below.refl _ _) _), heap_new _ _⟩
  have H0 := Lib.hid h0
  obtain ⟨c0, c1, c2, c3⟩ := h0.cells
  obtain ⟨q, hq⟩ : ∃ q, bring kd 4 = q := ⟨_, rfl⟩
  have hq4 : q < 4 := by have := bring_lt kd 4 (by decide); omega
  have HQ := Lib.hid hq
  have HWF := Lib.hid hw
  have hl1024 := h.r.bud.n2
  clear h h0 hq hw
  go_enter Try.func10, Try.ntmps10
  go_wp2_with fail
  refine (cBringN kd 4 4 rfl (by decide) _).mono ?_
  rintro e w1 ⟨rfl, rfl⟩
  rw [HQ.out]
  have hqc : q = 0 ∨ q = 3 ∨ q = 1 ∨ q = 2 := by omega
  clear hq4
  rcases hqc with rfl | rfl | rfl | rfl
  · obtain ⟨p, ee, l', f', hr⟩ := al_is H0.out.z2.a.inv cpu a b
    have HR := Lib.hid hr
    clear hr
    go_wp2_with fail
    refine (zAlloc H0.out.z2.a HR.out).mono ?_
    rintro e w2 ⟨rfl, N2, t2, hz2, hg2⟩
    have H2 := Lib.hid (H0.out.left hz2 hg2)
    clear hz2 hg2 c0 c1 c2 c3
    obtain ⟨c0, c1, c2, c3⟩ := H2.out.cells
    go_wp2_with fail
    refine (rzAlloc H2.out.z2.r H0.out.z2.a.inv HR.out).mono ?_
    rintro e w3 ⟨rfl, R3, hz3, hg3⟩
    have H3 := Lib.hid (H2.out.right hz3 hg3).z2
    clear hz3 hg3 c0 c1 c2 c3
    go_wp2
    go_ret
    exact ⟨ret_bool (by simp), _, _, _, _, _, H3.out⟩
  · obtain ⟨ee, l', f', hr⟩ := dr_is n l f cpu
    have HR := Lib.hid hr
    have HD := Lib.hid (H0.out.below (Below.refl _ _).drew)
    obtain ⟨x0, x1, x2, x3⟩ := HD.out.cells
    have HC := Lib.hid x1
    clear hr x0 x1 x2 x3
    go_wp2
    go_region_held3 (fun X => X.cell? ⟨w.heap.size, 1, none⟩ = some (.int .i64 cpu))
      (first | exact HC.out | exact bM.out.cells.2.1 | exact bN.out.cells.2.1)
      (first
        | (go_at_call 19; refine (zDrain HD.out.z2.a HR.out).mono ?_; rintro e wN ⟨rfl, NN, tN, zN, gN⟩; have bN := Lib.hid (HD.out.left zN gN))
        | (go_at_call 27; refine (rzDrain bN.out.z2.r HD.out.z2.a.inv HR.out).mono ?_; rintro e wM ⟨rfl, RM, zM, gM⟩; have bM := Lib.hid (bN.out.right zM gM)))
    all_goals
      have H9 := Lib.hid bM.out.z2
      clear bM bN zN gN zM gM
      go_wp2
      go_ret
      exact ⟨ret_bool (by simp), _, _, _, _, _, H9.out⟩
  · go_wp2_with fail
    refine (rOuts H0.out.z2.r H0.out.z2.a.inv H0.out.z2.a.tg).mono ?_
    rintro e w2 ⟨v, rfl, hs, hb2⟩
    have HO := Lib.hid (H0.out.below hb2)
    obtain ⟨ao, cap, rfl, hcap, _⟩ := hs.form
    clear hb2 hs c0 c1 c2 c3
    obtain ⟨c0, c1, c2, c3⟩ := HO.out.cells
    have HWP := Lib.hid HWF.out
    go_wp2_with fail
    refine (cBringN kd 4 4 rfl (by decide) _).mono ?_
    rintro e w3 ⟨rfl, rfl⟩
    rw [HQ.out]
    clear c0 c1 c2 c3
    obtain ⟨ee, l', f', hr⟩ := fr_is HO.out.z2.a.inv cpu a
    have HR := Lib.hid hr
    have HD := Lib.hid (HO.out.below (Below.refl _ _).drew)
    obtain ⟨c0, c1, c2, c3⟩ := HD.out.cells
    have HC := Lib.hid c1
    clear hr c0 c1 c2 c3
    go_wp2
    go_region_held3 (fun X => X.cell? ⟨w.heap.size, 1, none⟩ = some (.int .i64 cpu))
      (first | exact HC.out | exact bM.out.cells.2.1 | exact bN.out.cells.2.1)
      (first
        | (go_at_call 17; refine (zFree HD.out.z2.a HWP.out HR.out).mono ?_; rintro e wN ⟨rfl, NN, tN, zN, gN⟩; have bN := Lib.hid (HD.out.left zN gN))
        | (go_at_call 29; refine (rzFree bN.out.z2.r HD.out.z2.a.inv HR.out).mono ?_; rintro e wM ⟨rfl, RM, zM, gM⟩; have bM := Lib.hid (bN.out.right zM gM)))
    all_goals
      have H9 := Lib.hid bM.out.z2
      clear bM bN zN gN zM gM
      go_wp2
      go_ret
      exact ⟨ret_bool (by simp), _, _, _, _, _, H9.out⟩
  · go_wp2_with fail
    refine (rOuts H0.out.z2.r H0.out.z2.a.inv H0.out.z2.a.tg).mono ?_
    rintro e w2 ⟨v, rfl, hs, hb2⟩
    have HO := Lib.hid (H0.out.below hb2)
    obtain ⟨ao, cap, rfl, hcap, hat⟩ := hs.form
    clear hb2 hs c0 c1 c2 c3
    obtain ⟨c0, c1, c2, c3⟩ := HO.out.cells
    obtain ⟨M, hM⟩ : ∃ M, (outL n l f).length = M := ⟨_, rfl⟩
    have HM := Lib.hid hM
    have HMem := Lib.hid (fun (k : Nat) (hk : k < (outL n l f).length) => (show wf64 (pk (outL n l f) k) from by
      rw [← pk_at _ k hk]
      exact out_wf hl1024 (List.getElem_mem hk)))
    have hM1024 : M ≤ 1024 := by
      rw [← hM]
      exact Nat.le_trans (ids_le _ _) hl1024
    rw [hM] at hcap hat ⊢
    clear hM
    by_cases hM0 : M = 0
    · subst hM0
      have HWP := Lib.hid HWF.out
      go_wp2_with fail
      refine (cBringN kd 4 4 rfl (by decide) _).mono ?_
      rintro e w3 ⟨rfl, rfl⟩
      rw [HQ.out]
      clear c0 c1 c2 c3 hat
      obtain ⟨ee, l', f', hr⟩ := fr_is HO.out.z2.a.inv cpu a
      have HR := Lib.hid hr
      have HD := Lib.hid (HO.out.below (Below.refl _ _).drew)
      obtain ⟨c0, c1, c2, c3⟩ := HD.out.cells
      have HC := Lib.hid c1
      clear hr c0 c1 c2 c3
      go_wp2
      go_region_held3 (fun X => X.cell? ⟨w.heap.size, 1, none⟩ = some (.int .i64 cpu))
        (first | exact HC.out | exact bM.out.cells.2.1 | exact bN.out.cells.2.1)
        (first
          | (go_at_call 17; refine (zFree HD.out.z2.a HWP.out HR.out).mono ?_; rintro e wN ⟨rfl, NN, tN, zN, gN⟩; have bN := Lib.hid (HD.out.left zN gN))
          | (go_at_call 29; refine (rzFree bN.out.z2.r HD.out.z2.a.inv HR.out).mono ?_; rintro e wM ⟨rfl, RM, zM, gM⟩; have bM := Lib.hid (bN.out.right zM gM)))
      all_goals
        have H9 := Lib.hid bM.out.z2
        clear bM bN zN gN zM gM
        go_wp2
        go_ret
        exact ⟨ret_bool (by simp), _, _, _, _, _, H9.out⟩
    · have hMpos : (0 : Int) < (M : Int) := by omega
      obtain ⟨k2, hk2⟩ : ∃ k2, bring a M = k2 := ⟨_, rfl⟩
      have hk2l : k2 < M := by rw [← hk2]; exact bring_lt a M (by omega)
      have HK2 := Lib.hid hk2
      obtain ⟨b1, o1, rfl, x0⟩ := hat k2 hk2l
      have hwp := HMem.out k2 (by rw [HM.out]; exact hk2l)
      obtain ⟨page, hp⟩ : ∃ page, pk (outL n l f) k2 = page := ⟨_, rfl⟩
      rw [hp] at x0 hwp
      have HWP := Lib.hid hwp
      clear hk2 hp hwp hat
      go_wp2_with fail
      refine (cBringN kd 4 4 rfl (by decide) _).mono ?_
      rintro e w3 ⟨rfl, rfl⟩
      rw [HQ.out]
      go_wp2_with fail
      refine (cBringN a M M rfl (by omega) _).mono ?_
      rintro e w4 ⟨rfl, rfl⟩
      rw [HK2.out]
      obtain ⟨ee, l', f', hr⟩ := fr_is HO.out.z2.a.inv cpu page
      have HR := Lib.hid hr
      have HD := Lib.hid (HO.out.below (Below.refl _ _).drew)
      have HC := Lib.hid HD.out.cells.2.1
      clear hr
      go_wp2
      go_region_held3 (fun X => X.cell? ⟨w.heap.size, 1, none⟩ = some (.int .i64 cpu))
        (first | exact HC.out | exact bM.out.cells.2.1 | exact bN.out.cells.2.1)
        (first
          | (go_at_call 17; refine (zFree HD.out.z2.a HWP.out HR.out).mono ?_; rintro e wN ⟨rfl, NN, tN, zN, gN⟩; have bN := Lib.hid (HD.out.left zN gN))
          | (go_at_call 29; refine (rzFree bN.out.z2.r HD.out.z2.a.inv HR.out).mono ?_; rintro e wM ⟨rfl, RM, zM, gM⟩; have bM := Lib.hid (bN.out.right zM gM)))
      all_goals
        have H9 := Lib.hid bM.out.z2
        clear bM bN zN gN zM gM
        go_wp2
        go_ret
        exact ⟨ret_bool (by simp), _, _, _, _, _, H9.out⟩
end
end Go.Proofs.Ytlljomnpdgmifaa
