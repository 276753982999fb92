/-
  The document's Zone: Alloc.
-/
import Derived.Test.YtlljomnpdgmifaaRT
set_option linter.unusedVariables false
set_option linter.unusedSimpArgs false
namespace Go.Proofs.Ytlljomnpdgmifaa
open Go Go.RowKit

section
variable {w w' w'' : World} {z n : Nat} {N N' N'' : Rn} {l l' : List Pg} {f f' : F} {t : Int → Option Pg}
set_option maxHeartbeats 16000000 in
set_option maxRecDepth 100000 in
theorem rzAllocIn (h : RC w z N n l f) (hi : ZInv n l f) {c o : Nat} {cache p e : Int} (hc : c < n) (ho : o ≤ 10) (h2 : 0 ≤ cache) (h3 : cache ≤ 8) (hr : BlkIs n l f c o cache p e l' f') :
    Calls Try.prog 26 #[.pointer (some ⟨z, 0, none⟩), .int .i64 c, .int .i64 o, .int .i64 cache] w fun en w' => en = .returned (.tuple #[.int .i64 p, .int .i64 e]) ∧ ∃ N', RC w' z N' n l' f' ∧ RGoes w w' n z N N' := by
  have HZ := Lib.hid h
  have HI := Lib.hid hi
  have HST := Lib.hid hi.std
  have hn := h.nr.n1
  have h2' : ¬ cache < 0 := by omega
  have h3' : ¬ 8 < cache := by omega
  cases hr with
  | near r p h0 he =>
    have HTN : Hid (TakeIs n f c (p : Int) true (nUpd f c r)) := Lib.hid (.yes c r p hc he)
    obtain ⟨p', ep, hp, _⟩ := hi.near c hc (p : Int) (by rw [he]; simp)
    obtain rfl : p' = p := by omega
    have hnl : ¬ l.length ≤ p' := by omega
    subst h0
    obtain ⟨c0, c1⟩ := HZ.out.cells
    clear h hi he ep
    go_enter Try.func26, Try.ntmps26
    go_wp2_with fail
    refine (rzHas HZ.out c true (decide_eq_true (by omega))).mono ?_
    rintro e w' ⟨rfl, rfl⟩
    go_wp2_with fail
    refine (rTake HZ.out.nr HTN.out).mono ?_
    rintro e wT ⟨vs', rfl, hN, hG⟩
    have H1 := Lib.hid (HZ.out.neared hN (HTN.out.fine HZ.out.fine) hG)
    clear hN hG c0 c1
    obtain ⟨c0, c1⟩ := H1.out.1.cells
    have d0 := H1.out.1.bud.self
    obtain ⟨_, _, t2⟩ := H1.out.1.bud.tab.cells hp
    have tf := H1.out.1.bud.tab.frozen (p' * 3 + 2)
    have hcap := H1.out.1.bud.cap
    have hn2 := H1.out.1.bud.n2
    unfold maxLen at hcap
    have H2 := Lib.hid (H1.out.1.cached hp cache)
    go_wp2
    go_ret2
    exact ⟨rfl, _, H2.out.1, H1.out.2.trans H2.out.2⟩
  | here p e m hz ha h7 =>
    have HZ0 := Lib.hid hz
    have HA := Lib.hid ha
    rcases ha.cases' ho h2 h3 with ⟨rfl, rfl, hml, hno⟩ | ⟨rfl, k, q, rfl, hf, rfl⟩
    · have hml2 := hml.symm
      subst hml2
      clear hml
      have HCN : Hid (cnt n f = 0) := Lib.hid (h7 rfl)
      clear h hi hz ha h7 hno
      by_cases h0 : o = 0
      · subst h0
        have HTN : Hid (TakeIs n f c 0 false f) := Lib.hid (.none c hc (HZ0.out rfl))
        obtain ⟨c0, c1⟩ := HZ.out.cells
        go_enter Try.func26, Try.ntmps26
        go_wp2_with fail
        refine (rzHas HZ.out c true (decide_eq_true (by omega))).mono ?_
        rintro e w' ⟨rfl, rfl⟩
        go_wp2_with fail
        refine (rTake HZ.out.nr HTN.out).mono ?_
        rintro e wT ⟨vs', rfl, hN, hG⟩
        obtain ⟨N1, HZ1⟩ : ∃ N1, Hid (RC wT z N1 n l f ∧ RGoes w' wT n z N N1) := ⟨_, Lib.hid (HZ.out.neared hN HZ.out.fine hG)⟩
        clear hN hG c0 c1 HTN
        obtain ⟨c0, c1⟩ := HZ1.out.1.cells

        go_wp2_with fail
        refine (rAlloc HZ1.out.1.bud HST.out HA.out).mono ?_
        rintro e w1 ⟨rfl, hb1, hk1⟩
        have H1 := Lib.hid (HZ1.out.1.budded hb1 hk1)
        clear hb1 hk1 c0 c1
        obtain ⟨c0, c1⟩ := H1.out.1.cells
        go_wp2_with fail
        refine (rzNear H1.out.1).mono ?_
        rw [HCN.out]
        rintro e w2 ⟨rfl, rfl⟩
        have H2 := Lib.hid (And.intro H1.out.1 (HZ1.out.2.trans H1.out.2))
        clear c0 c1

        go_wp2
        go_ret2
        exact ⟨rfl, _, H2.out.1, H2.out.2⟩
      · have hpos : ((o : Int) == 0) = false := by rw [beq_eq_false_iff_ne]; omega
        obtain ⟨c0, c1⟩ := HZ.out.cells
        go_enter Try.func26, Try.ntmps26
        go_wp2_with fail
        refine (rzHas HZ.out c true (decide_eq_true (by omega))).mono ?_
        rintro e w' ⟨rfl, rfl⟩
        obtain ⟨N1, HZ1⟩ : ∃ N1, Hid (RC w' z N1 n l f ∧ RGoes w' w' n z N N1) := ⟨N, Lib.hid ⟨HZ.out, RGoes.refl _ _ _ _⟩⟩
        clear c0 c1
        obtain ⟨c0, c1⟩ := HZ1.out.1.cells

        go_wp2_with fail
        refine (rAlloc HZ1.out.1.bud HST.out HA.out).mono ?_
        rintro e w1 ⟨rfl, hb1, hk1⟩
        have H1 := Lib.hid (HZ1.out.1.budded hb1 hk1)
        clear hb1 hk1 c0 c1
        obtain ⟨c0, c1⟩ := H1.out.1.cells
        go_wp2_with fail
        refine (rzNear H1.out.1).mono ?_
        rw [HCN.out]
        rintro e w2 ⟨rfl, rfl⟩
        have H2 := Lib.hid (And.intro H1.out.1 (HZ1.out.2.trans H1.out.2))
        clear c0 c1

        go_wp2
        go_ret2
        exact ⟨rfl, _, H2.out.1, H2.out.2⟩
    · clear h hi hz ha h7 hf
      by_cases h0 : o = 0
      · subst h0
        have HTN : Hid (TakeIs n f c 0 false f) := Lib.hid (.none c hc (HZ0.out rfl))
        obtain ⟨c0, c1⟩ := HZ.out.cells
        go_enter Try.func26, Try.ntmps26
        go_wp2_with fail
        refine (rzHas HZ.out c true (decide_eq_true (by omega))).mono ?_
        rintro e w' ⟨rfl, rfl⟩
        go_wp2_with fail
        refine (rTake HZ.out.nr HTN.out).mono ?_
        rintro e wT ⟨vs', rfl, hN, hG⟩
        obtain ⟨N1, HZ1⟩ : ∃ N1, Hid (RC wT z N1 n l f ∧ RGoes w' wT n z N N1) := ⟨_, Lib.hid (HZ.out.neared hN HZ.out.fine hG)⟩
        clear hN hG c0 c1 HTN
        obtain ⟨c0, c1⟩ := HZ1.out.1.cells

        go_wp2_with fail
        refine (rAlloc HZ1.out.1.bud HST.out HA.out).mono ?_
        rintro e w1 ⟨rfl, hb1, hk1⟩
        have H1 := Lib.hid (HZ1.out.1.budded hb1 hk1)
        clear hb1 hk1 c0 c1
        go_wp2
        go_ret2
        exact ⟨rfl, _, H1.out.1, HZ1.out.2.trans H1.out.2⟩
      · have hpos : ((o : Int) == 0) = false := by rw [beq_eq_false_iff_ne]; omega
        obtain ⟨c0, c1⟩ := HZ.out.cells
        go_enter Try.func26, Try.ntmps26
        go_wp2_with fail
        refine (rzHas HZ.out c true (decide_eq_true (by omega))).mono ?_
        rintro e w' ⟨rfl, rfl⟩
        obtain ⟨N1, HZ1⟩ : ∃ N1, Hid (RC w' z N1 n l f ∧ RGoes w' w' n z N N1) := ⟨N, Lib.hid ⟨HZ.out, RGoes.refl _ _ _ _⟩⟩
        clear c0 c1
        obtain ⟨c0, c1⟩ := HZ1.out.1.cells

        go_wp2_with fail
        refine (rAlloc HZ1.out.1.bud HST.out HA.out).mono ?_
        rintro e w1 ⟨rfl, hb1, hk1⟩
        have H1 := Lib.hid (HZ1.out.1.budded hb1 hk1)
        clear hb1 hk1 c0 c1
        go_wp2
        go_ret2
        exact ⟨rfl, _, H1.out.1, HZ1.out.2.trans H1.out.2⟩
  | after p e m hz hno hcnt ha =>
    have HZ0 := Lib.hid hz
    have HA : Hid (AllocIs l o cache 0 7 l) := Lib.hid (.full o cache ho h2 h3 hno)
    have HA2 := Lib.hid ha
    obtain ⟨M, hM⟩ : ∃ M, cnt n f = M := ⟨_, rfl⟩
    rw [hM] at hcnt
    have HCN := Lib.hid hM
    have hM0 : (0 : Int) < (M : Int) := by omega
    clear h hi hz ha hno hM
    by_cases h0 : o = 0
    · subst h0
      have HTN : Hid (TakeIs n f c 0 false f) := Lib.hid (.none c hc (HZ0.out rfl))
      obtain ⟨c0, c1⟩ := HZ.out.cells
      go_enter Try.func26, Try.ntmps26
      go_wp2_with fail
      refine (rzHas HZ.out c true (decide_eq_true (by omega))).mono ?_
      rintro e w' ⟨rfl, rfl⟩
      go_wp2_with fail
      refine (rTake HZ.out.nr HTN.out).mono ?_
      rintro e wT ⟨vs', rfl, hN, hG⟩
      obtain ⟨N1, HZ1⟩ : ∃ N1, Hid (RC wT z N1 n l f ∧ RGoes w' wT n z N N1) := ⟨_, Lib.hid (HZ.out.neared hN HZ.out.fine hG)⟩
      clear hN hG c0 c1 HTN
      obtain ⟨c0, c1⟩ := HZ1.out.1.cells

      go_wp2_with fail
      refine (rAlloc HZ1.out.1.bud HST.out HA.out).mono ?_
      rintro e w1 ⟨rfl, hb1, hk1⟩
      have H1 := Lib.hid (HZ1.out.1.budded hb1 hk1)
      clear hb1 hk1 c0 c1
      obtain ⟨c0, c1⟩ := H1.out.1.cells
      go_wp2_with fail
      refine (rzNear H1.out.1).mono ?_
      rw [HCN.out]
      rintro e w2 ⟨rfl, rfl⟩
      have H2 := Lib.hid (And.intro H1.out.1 (HZ1.out.2.trans H1.out.2))
      clear c0 c1

      obtain ⟨c0, c1⟩ := H2.out.1.cells
      go_wp2
      go_loopw [14] (fun i wr => ∃ k : Nat, k ≤ n ∧ i = .int .i64 k ∧ Hid (∃ N', RC wr z N' n (drL l f k) (emp k f) ∧ RGoes w' wr n z N N')) (fun i _ => n - (intOf i).toNat)
      case atStart => exact ⟨0, by omega, rfl, Lib.hid ⟨N1, by rw [emp_zero]; exact H2.out.1, H2.out.2⟩⟩
      case round =>
        obtain ⟨k, hk, rfl, HW⟩ := hrel
        obtain ⟨N2, hz2, hg2⟩ := HW.out
        have H3 := Lib.hid (And.intro hz2 hg2)
        clear hz2 hg2 HW c0 c1
        obtain ⟨c0, c1⟩ := H3.out.1.cells
        obtain ⟨d0, d1⟩ := H3.out.1.nr.self
        by_cases hlt : k < n
        · have HI2 := Lib.hid (HI.out.drained k hk).inv
          have HE : Hid (emp k f k = f k) := Lib.hid (emp_at k f)
          have HSC : Hid (nUpd (emp k f) k [] = emp (k + 1) f) := Lib.hid (emp_succ k f)
          go_wp2_with fail
          refine (rzDrainCall H3.out.1 hlt).mono ?_
          rintro e w4 ⟨v, vs', rfl, hz4, hg4, hv4⟩
          have H4 := Lib.hid (And.intro hz4 (And.intro (H3.out.2.trans hg4) hv4))
          clear hz4 hg4 hv4 c0 c1 d0 d1
          go_wp2_with fail
          refine (rzBackCall H4.out.1 HI2.out.std H4.out.2.2 (HI2.out.near k hlt) (HI2.out.once k hlt)).mono ?_
          rintro e w5 ⟨rfl, hz5, hg5⟩
          have H9 := And.intro hz5 (H4.out.2.1.trans hg5)
          rw [HE.out, HSC.out] at H9
          have H10 := Lib.hid H9
          clear hz5 hg5 H9
          go_wp2
          go_roundw
          case rel => exact ⟨k + 1, by omega, by go_num, Lib.hid ⟨_, H10.out⟩⟩
          case measure => simp [intOf]; omega
        · obtain rfl : k = n := by omega
          have HST2 := Lib.hid (HI.out.drained k hk).inv.std
          go_wp2_with fail
          refine (rAlloc H3.out.1.bud HST2.out HA2.out).mono ?_
          rintro e w5 ⟨rfl, hb1, hk1⟩
          have H5 := Lib.hid (H3.out.1.budded hb1 hk1)
          clear hb1 hk1 c0 c1 d0 d1
          go_wp2
          go_ret2
          exact ⟨rfl, _, H5.out.1, H3.out.2.trans H5.out.2⟩
    · have hpos : ((o : Int) == 0) = false := by rw [beq_eq_false_iff_ne]; omega
      obtain ⟨c0, c1⟩ := HZ.out.cells
      go_enter Try.func26, Try.ntmps26
      go_wp2_with fail
      refine (rzHas HZ.out c true (decide_eq_true (by omega))).mono ?_
      rintro e w' ⟨rfl, rfl⟩
      obtain ⟨N1, HZ1⟩ : ∃ N1, Hid (RC w' z N1 n l f ∧ RGoes w' w' n z N N1) := ⟨N, Lib.hid ⟨HZ.out, RGoes.refl _ _ _ _⟩⟩
      clear c0 c1
      obtain ⟨c0, c1⟩ := HZ1.out.1.cells

      go_wp2_with fail
      refine (rAlloc HZ1.out.1.bud HST.out HA.out).mono ?_
      rintro e w1 ⟨rfl, hb1, hk1⟩
      have H1 := Lib.hid (HZ1.out.1.budded hb1 hk1)
      clear hb1 hk1 c0 c1
      obtain ⟨c0, c1⟩ := H1.out.1.cells
      go_wp2_with fail
      refine (rzNear H1.out.1).mono ?_
      rw [HCN.out]
      rintro e w2 ⟨rfl, rfl⟩
      have H2 := Lib.hid (And.intro H1.out.1 (HZ1.out.2.trans H1.out.2))
      clear c0 c1

      obtain ⟨c0, c1⟩ := H2.out.1.cells
      go_wp2
      go_loopw [14] (fun i wr => ∃ k : Nat, k ≤ n ∧ i = .int .i64 k ∧ Hid (∃ N', RC wr z N' n (drL l f k) (emp k f) ∧ RGoes w' wr n z N N')) (fun i _ => n - (intOf i).toNat)
      case atStart => exact ⟨0, by omega, rfl, Lib.hid ⟨N1, by rw [emp_zero]; exact H2.out.1, H2.out.2⟩⟩
      case round =>
        obtain ⟨k, hk, rfl, HW⟩ := hrel
        obtain ⟨N2, hz2, hg2⟩ := HW.out
        have H3 := Lib.hid (And.intro hz2 hg2)
        clear hz2 hg2 HW c0 c1
        obtain ⟨c0, c1⟩ := H3.out.1.cells
        obtain ⟨d0, d1⟩ := H3.out.1.nr.self
        by_cases hlt : k < n
        · have HI2 := Lib.hid (HI.out.drained k hk).inv
          have HE : Hid (emp k f k = f k) := Lib.hid (emp_at k f)
          have HSC : Hid (nUpd (emp k f) k [] = emp (k + 1) f) := Lib.hid (emp_succ k f)
          go_wp2_with fail
          refine (rzDrainCall H3.out.1 hlt).mono ?_
          rintro e w4 ⟨v, vs', rfl, hz4, hg4, hv4⟩
          have H4 := Lib.hid (And.intro hz4 (And.intro (H3.out.2.trans hg4) hv4))
          clear hz4 hg4 hv4 c0 c1 d0 d1
          go_wp2_with fail
          refine (rzBackCall H4.out.1 HI2.out.std H4.out.2.2 (HI2.out.near k hlt) (HI2.out.once k hlt)).mono ?_
          rintro e w5 ⟨rfl, hz5, hg5⟩
          have H9 := And.intro hz5 (H4.out.2.1.trans hg5)
          rw [HE.out, HSC.out] at H9
          have H10 := Lib.hid H9
          clear hz5 hg5 H9
          go_wp2
          go_roundw
          case rel => exact ⟨k + 1, by omega, by go_num, Lib.hid ⟨_, H10.out⟩⟩
          case measure => simp [intOf]; omega
        · obtain rfl : k = n := by omega
          have HST2 := Lib.hid (HI.out.drained k hk).inv.std
          go_wp2_with fail
          refine (rAlloc H3.out.1.bud HST2.out HA2.out).mono ?_
          rintro e w5 ⟨rfl, hb1, hk1⟩
          have H5 := Lib.hid (H3.out.1.budded hb1 hk1)
          clear hb1 hk1 c0 c1 d0 d1
          go_wp2
          go_ret2
          exact ⟨rfl, _, H5.out.1, H3.out.2.trans H5.out.2⟩
end
end Go.Proofs.Ytlljomnpdgmifaa
