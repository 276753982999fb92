/-
  block of a Zone.
-/
import Derived.Test.YtlljomnpdgmifaaZF
set_option linter.unusedVariables false
set_option linter.unusedSimpArgs false
namespace Go.Proofs.Ytlljomnpdgmifaa
open Go Go.RowKit

section
variable {w w' w'' : World} {z n : Nat} {N N' N'' : Zn} {l l' : List Pg} {f f' : F} {t t' : Int → Option Pg}
set_option maxHeartbeats 16000000 in
set_option maxRecDepth 100000 in
theorem zBlock (h : ZB w z N n l f t) (hi : ZInv n l f) {c o : Nat} {cache p e : Int} (hc : c < n) (ho : o ≤ 10) (h2 : 0 ≤ cache) (h3 : cache ≤ 8) (hr : BlkIs n l f c o cache p e l' f') :
    Calls Try.prog 45 #[.pointer (some ⟨z, 0, none⟩), .int .i64 c, .int .i64 o] w fun en w' => en = .returned (.tuple #[.int .i64 p, .int .i64 e]) ∧ ∃ N', ZB w' z N' n l' f' t ∧ ZGoes w w' n z N N' := by
  have HZ := Lib.hid h
  have HI := Lib.hid hi
  have HST := Lib.hid (std_er hi.std)
  have hn := h.nr.n1
  cases hr with
  | near r p h0 he =>
    have HTN : Hid (TakeIs n f c (p : Int) true (nUpd f c r)) := Lib.hid (.yes c r p hc he)
    have HRC := Lib.hid (setC_er l p cache)
    subst h0
    obtain ⟨c0, c1, c2, c3⟩ := HZ.out.cells
    clear h hi he h2 h3
    go_enter Try.func45, Try.ntmps45
    go_wp2_with fail
    refine (cTake HZ.out.nr HTN.out).mono ?_
    rintro e wT ⟨vs', rfl, hN, hG⟩
    have H1 := Lib.hid (HZ.out.neared hN (HTN.out.fine HZ.out.fine) hG)
    clear hN hG c0 c1 c2 c3
    go_wp2
    go_ret2
    exact ⟨rfl, _, H1.out.1.recache HRC.out, H1.out.2⟩
  | here p e m hz ha h7 =>
    have HZ0 := Lib.hid hz
    have HA := Lib.hid (alloc_is_er hi.std.cov ha ho h2 h3)
    rcases ha.cases' ho h2 h3 with ⟨rfl, rfl, hml, hno⟩ | ⟨rfl, k, q, rfl, hf, rfl⟩
    · have hml2 := hml.symm
      subst hml2
      clear hml
      have HCN : Hid (cnt n f = 0) := Lib.hid (h7 rfl)
      clear h hi hz ha h7 hno h2 h3
      by_cases h0 : o = 0
      · subst h0
        have HTN : Hid (TakeIs n f c 0 false f) := Lib.hid (.none c hc (HZ0.out rfl))
        obtain ⟨c0, c1, c2, c3⟩ := HZ.out.cells
        go_enter Try.func45, Try.ntmps45
        go_wp2_with fail
        refine (cTake HZ.out.nr HTN.out).mono ?_
        rintro e wT ⟨vs', rfl, hN, hG⟩
        obtain ⟨N1, HZ1⟩ : ∃ N1, Hid (ZB wT z N1 n l f t ∧ ZGoes w wT n z N N1) := ⟨_, Lib.hid (HZ.out.neared hN HZ.out.fine hG)⟩
        clear hN hG c0 c1 c2 c3 HTN
        obtain ⟨c0, c1, c2, c3⟩ := HZ1.out.1.cells

        go_wp2_with fail
        refine (cAlloc HZ1.out.1.bud HST.out HA.out).mono ?_
        rintro e w1 ⟨rfl, hb1, hk1⟩
        have H1 := Lib.hid (HZ1.out.1.budded hb1 hk1)
        clear hb1 hk1 c0 c1 c2 c3
        obtain ⟨c0, c1, c2, c3⟩ := H1.out.1.cells
        go_wp2_with fail
        refine (zAllNear H1.out.1).mono ?_
        rw [HCN.out]
        rintro e w2 ⟨rfl, hb2⟩
        have H2 := Lib.hid (And.intro (H1.out.1.below hb2) (HZ1.out.2.trans (H1.out.2.trans (ZGoes.of_below hb2))))
        clear hb2 c0 c1 c2 c3

        go_wp2
        go_ret2
        exact ⟨rfl, _, H2.out.1, H2.out.2⟩
      · have hpos : ((o : Int) == 0) = false := by rw [beq_eq_false_iff_ne]; omega
        obtain ⟨N1, HZ1⟩ : ∃ N1, Hid (ZB w z N1 n l f t ∧ ZGoes w w n z N N1) := ⟨N, Lib.hid ⟨HZ.out, ZGoes.refl _ _ _ _⟩⟩
        obtain ⟨c0, c1, c2, c3⟩ := HZ1.out.1.cells
        go_enter Try.func45, Try.ntmps45

        go_wp2_with fail
        refine (cAlloc HZ1.out.1.bud HST.out HA.out).mono ?_
        rintro e w1 ⟨rfl, hb1, hk1⟩
        have H1 := Lib.hid (HZ1.out.1.budded hb1 hk1)
        clear hb1 hk1 c0 c1 c2 c3
        obtain ⟨c0, c1, c2, c3⟩ := H1.out.1.cells
        go_wp2_with fail
        refine (zAllNear H1.out.1).mono ?_
        rw [HCN.out]
        rintro e w2 ⟨rfl, hb2⟩
        have H2 := Lib.hid (And.intro (H1.out.1.below hb2) (HZ1.out.2.trans (H1.out.2.trans (ZGoes.of_below hb2))))
        clear hb2 c0 c1 c2 c3

        go_wp2
        go_ret2
        exact ⟨rfl, _, H2.out.1, H2.out.2⟩
    · clear h hi hz ha h7 hf h2 h3
      by_cases h0 : o = 0
      · subst h0
        have HTN : Hid (TakeIs n f c 0 false f) := Lib.hid (.none c hc (HZ0.out rfl))
        obtain ⟨c0, c1, c2, c3⟩ := HZ.out.cells
        go_enter Try.func45, Try.ntmps45
        go_wp2_with fail
        refine (cTake HZ.out.nr HTN.out).mono ?_
        rintro e wT ⟨vs', rfl, hN, hG⟩
        obtain ⟨N1, HZ1⟩ : ∃ N1, Hid (ZB wT z N1 n l f t ∧ ZGoes w wT n z N N1) := ⟨_, Lib.hid (HZ.out.neared hN HZ.out.fine hG)⟩
        clear hN hG c0 c1 c2 c3 HTN
        obtain ⟨c0, c1, c2, c3⟩ := HZ1.out.1.cells

        go_wp2_with fail
        refine (cAlloc HZ1.out.1.bud HST.out HA.out).mono ?_
        rintro e w1 ⟨rfl, hb1, hk1⟩
        have H1 := Lib.hid (HZ1.out.1.budded hb1 hk1)
        clear hb1 hk1 c0 c1 c2 c3
        go_wp2
        go_ret2
        exact ⟨rfl, _, H1.out.1, HZ1.out.2.trans H1.out.2⟩
      · have hpos : ((o : Int) == 0) = false := by rw [beq_eq_false_iff_ne]; omega
        obtain ⟨N1, HZ1⟩ : ∃ N1, Hid (ZB w z N1 n l f t ∧ ZGoes w w n z N N1) := ⟨N, Lib.hid ⟨HZ.out, ZGoes.refl _ _ _ _⟩⟩
        obtain ⟨c0, c1, c2, c3⟩ := HZ1.out.1.cells
        go_enter Try.func45, Try.ntmps45

        go_wp2_with fail
        refine (cAlloc HZ1.out.1.bud HST.out HA.out).mono ?_
        rintro e w1 ⟨rfl, hb1, hk1⟩
        have H1 := Lib.hid (HZ1.out.1.budded hb1 hk1)
        clear hb1 hk1 c0 c1 c2 c3
        go_wp2
        go_ret2
        exact ⟨rfl, _, H1.out.1, HZ1.out.2.trans H1.out.2⟩
  | after p e m hz hno hcnt ha =>
    have HZ0 := Lib.hid hz
    have hA : AllocIs l o cache 0 7 l := .full o cache ho h2 h3 hno
    have HA := Lib.hid (alloc_is_er hi.std.cov hA ho h2 h3)
    have HA2 := Lib.hid (alloc_is_er (hi.drained n (Nat.le_refl _)).inv.std.cov ha ho h2 h3)
    obtain ⟨M, hM⟩ : ∃ M, cnt n f = M := ⟨_, rfl⟩
    rw [hM] at hcnt
    have HCN := Lib.hid hM
    have hM0 : ((M : Int) == 0) = false := by rw [beq_eq_false_iff_ne]; omega
    clear h hi hz ha hA hno h2 h3 hM
    by_cases h0 : o = 0
    · subst h0
      have HTN : Hid (TakeIs n f c 0 false f) := Lib.hid (.none c hc (HZ0.out rfl))
      obtain ⟨c0, c1, c2, c3⟩ := HZ.out.cells
      go_enter Try.func45, Try.ntmps45
      go_wp2_with fail
      refine (cTake HZ.out.nr HTN.out).mono ?_
      rintro e wT ⟨vs', rfl, hN, hG⟩
      obtain ⟨N1, HZ1⟩ : ∃ N1, Hid (ZB wT z N1 n l f t ∧ ZGoes w wT n z N N1) := ⟨_, Lib.hid (HZ.out.neared hN HZ.out.fine hG)⟩
      clear hN hG c0 c1 c2 c3 HTN
      obtain ⟨c0, c1, c2, c3⟩ := HZ1.out.1.cells

      go_wp2_with fail
      refine (cAlloc HZ1.out.1.bud HST.out HA.out).mono ?_
      rintro e w1 ⟨rfl, hb1, hk1⟩
      have H1 := Lib.hid (HZ1.out.1.budded hb1 hk1)
      clear hb1 hk1 c0 c1 c2 c3
      obtain ⟨c0, c1, c2, c3⟩ := H1.out.1.cells
      go_wp2_with fail
      refine (zAllNear H1.out.1).mono ?_
      rw [HCN.out]
      rintro e w2 ⟨rfl, hb2⟩
      have H2 := Lib.hid (And.intro (H1.out.1.below hb2) (HZ1.out.2.trans (H1.out.2.trans (ZGoes.of_below hb2))))
      clear hb2 c0 c1 c2 c3

      obtain ⟨c0, c1, c2, c3⟩ := H2.out.1.cells
      go_wp2
      go_loopw [48] (fun i wr => ∃ k : Nat, k ≤ n ∧ i = .int .i64 k ∧ Hid (∃ N', ZB wr z N' n (drL l f k) (emp k f) t ∧ ZGoes w wr n z N N')) (fun i _ => n - (intOf i).toNat)
      case atStart => exact ⟨0, by omega, rfl, Lib.hid ⟨N1, by rw [emp_zero]; exact H2.out.1, H2.out.2⟩⟩
      case round =>
        obtain ⟨k, hk, rfl, HW⟩ := hrel
        obtain ⟨N2, hz2, hg2⟩ := HW.out
        have H3 := Lib.hid (And.intro hz2 hg2)
        clear hz2 hg2 HW c0 c1 c2 c3
        obtain ⟨c0, c1, c2, c3⟩ := H3.out.1.cells
        by_cases hlt : k < n
        · have HD := Lib.hid H3.out.1.drew
          have HI2 := Lib.hid (HI.out.drained k hk).inv
          have HE : Hid (emp k f k = f k) := Lib.hid (emp_at k f)
          have HSC : Hid (nUpd (emp k f) k [] = emp (k + 1) f) := Lib.hid (emp_succ k f)
          go_wp2
          go_region_held3 (fun W => W.cell? ⟨z, 1, none⟩ = some (.pointer (some ⟨N2.bB, 0, none⟩)) ∧ W.cell? ⟨z, 2, none⟩ = some (.pointer (some ⟨N2.bN, 0, none⟩)))
            (first | exact ⟨HD.out.cells.2.1, HD.out.cells.2.2.1⟩ | exact ⟨bM.1.cells.2.1, bM.1.cells.2.2.1⟩ | exact ⟨bN.1.cells.2.1, bN.1.cells.2.2.1⟩)
            (first
              | (go_at_call 43; refine (zDrainCall HD.out hlt).mono ?_; rintro e wN ⟨vN, vsN, rfl, bN⟩)
              | (go_at_call 41; refine (zHandCall bN.1 HI2.out.std bN.2.2 (HI2.out.near k hlt) (HI2.out.once k hlt)).mono ?_; rintro e wM ⟨rfl, bM⟩))
          all_goals
            have H9 := Lib.hid (And.intro bM.1 (H3.out.2.trans ((ZGoes.drew _ n z N2).trans (bN.2.1.trans bM.2))))
            clear bM bN
            have H8 := H9.out
            rw [HE.out, HSC.out] at H8
            have H10 := Lib.hid H8
            clear H8 H9 c0 c1 c2 c3
            go_wp2
            go_roundw
            case rel => exact ⟨k + 1, by omega, by go_num, Lib.hid ⟨_, H10.out⟩⟩
            case measure => simp [intOf]; omega
        · obtain rfl : k = n := by omega
          have HST2 := Lib.hid (std_er (HI.out.drained k hk).inv.std)
          go_wp2_with fail
          refine (cAlloc H3.out.1.bud HST2.out HA2.out).mono ?_
          rintro e w5 ⟨rfl, hb1, hk1⟩
          have H5 := Lib.hid (H3.out.1.budded hb1 hk1)
          clear hb1 hk1 c0 c1 c2 c3
          go_wp2
          go_ret2
          exact ⟨rfl, _, H5.out.1, H3.out.2.trans H5.out.2⟩
    · have hpos : ((o : Int) == 0) = false := by rw [beq_eq_false_iff_ne]; omega
      obtain ⟨N1, HZ1⟩ : ∃ N1, Hid (ZB w z N1 n l f t ∧ ZGoes w w n z N N1) := ⟨N, Lib.hid ⟨HZ.out, ZGoes.refl _ _ _ _⟩⟩
      obtain ⟨c0, c1, c2, c3⟩ := HZ1.out.1.cells
      go_enter Try.func45, Try.ntmps45

      go_wp2_with fail
      refine (cAlloc HZ1.out.1.bud HST.out HA.out).mono ?_
      rintro e w1 ⟨rfl, hb1, hk1⟩
      have H1 := Lib.hid (HZ1.out.1.budded hb1 hk1)
      clear hb1 hk1 c0 c1 c2 c3
      obtain ⟨c0, c1, c2, c3⟩ := H1.out.1.cells
      go_wp2_with fail
      refine (zAllNear H1.out.1).mono ?_
      rw [HCN.out]
      rintro e w2 ⟨rfl, hb2⟩
      have H2 := Lib.hid (And.intro (H1.out.1.below hb2) (HZ1.out.2.trans (H1.out.2.trans (ZGoes.of_below hb2))))
      clear hb2 c0 c1 c2 c3

      obtain ⟨c0, c1, c2, c3⟩ := H2.out.1.cells
      go_wp2
      go_loopw [48] (fun i wr => ∃ k : Nat, k ≤ n ∧ i = .int .i64 k ∧ Hid (∃ N', ZB wr z N' n (drL l f k) (emp k f) t ∧ ZGoes w wr n z N N')) (fun i _ => n - (intOf i).toNat)
      case atStart => exact ⟨0, by omega, rfl, Lib.hid ⟨N1, by rw [emp_zero]; exact H2.out.1, H2.out.2⟩⟩
      case round =>
        obtain ⟨k, hk, rfl, HW⟩ := hrel
        obtain ⟨N2, hz2, hg2⟩ := HW.out
        have H3 := Lib.hid (And.intro hz2 hg2)
        clear hz2 hg2 HW c0 c1 c2 c3
        obtain ⟨c0, c1, c2, c3⟩ := H3.out.1.cells
        by_cases hlt : k < n
        · have HD := Lib.hid H3.out.1.drew
          have HI2 := Lib.hid (HI.out.drained k hk).inv
          have HE : Hid (emp k f k = f k) := Lib.hid (emp_at k f)
          have HSC : Hid (nUpd (emp k f) k [] = emp (k + 1) f) := Lib.hid (emp_succ k f)
          go_wp2
          go_region_held3 (fun W => W.cell? ⟨z, 1, none⟩ = some (.pointer (some ⟨N2.bB, 0, none⟩)) ∧ W.cell? ⟨z, 2, none⟩ = some (.pointer (some ⟨N2.bN, 0, none⟩)))
            (first | exact ⟨HD.out.cells.2.1, HD.out.cells.2.2.1⟩ | exact ⟨bM.1.cells.2.1, bM.1.cells.2.2.1⟩ | exact ⟨bN.1.cells.2.1, bN.1.cells.2.2.1⟩)
            (first
              | (go_at_call 43; refine (zDrainCall HD.out hlt).mono ?_; rintro e wN ⟨vN, vsN, rfl, bN⟩)
              | (go_at_call 41; refine (zHandCall bN.1 HI2.out.std bN.2.2 (HI2.out.near k hlt) (HI2.out.once k hlt)).mono ?_; rintro e wM ⟨rfl, bM⟩))
          all_goals
            have H9 := Lib.hid (And.intro bM.1 (H3.out.2.trans ((ZGoes.drew _ n z N2).trans (bN.2.1.trans bM.2))))
            clear bM bN
            have H8 := H9.out
            rw [HE.out, HSC.out] at H8
            have H10 := Lib.hid H8
            clear H8 H9 c0 c1 c2 c3
            go_wp2
            go_roundw
            case rel => exact ⟨k + 1, by omega, by go_num, Lib.hid ⟨_, H10.out⟩⟩
            case measure => simp [intOf]; omega
        · obtain rfl : k = n := by omega
          have HST2 := Lib.hid (std_er (HI.out.drained k hk).inv.std)
          go_wp2_with fail
          refine (cAlloc H3.out.1.bud HST2.out HA2.out).mono ?_
          rintro e w5 ⟨rfl, hb1, hk1⟩
          have H5 := Lib.hid (H3.out.1.budded hb1 hk1)
          clear hb1 hk1 c0 c1 c2 c3
          go_wp2
          go_ret2
          exact ⟨rfl, _, H5.out.1, H3.out.2.trans H5.out.2⟩
end
end Go.Proofs.Ytlljomnpdgmifaa
