/-
  The document's answer: Free.
-/
import Derived.Test.YtpohfecbogppkaaRAlloc
set_option linter.unusedVariables false
set_option linter.unusedSimpArgs false
namespace Go.Proofs.Ytpohfecbogppkaa
open Go Go.RowKit

theorem emod_two (q S : Nat) : (q : Int) % (2 * (S : Int)) = ((q % (2 * S) : Nat) : Int) := by rw [Int.natCast_emod, Int.natCast_mul]; rfl
section
variable {w : World} {B g cap : Nat} {l : List Pg}
set_option maxHeartbeats 2000000 in
set_option maxRecDepth 100000 in
theorem rFreeBad (h : BudAt w 39 B g cap l) (page : Int) (hbad : ¬ OutAt l page) :
    Calls Try.prog 15 #[.pointer (some ⟨B, 0, none⟩), .int .i64 page] w fun e w' => e = .returned (.int .i64 60) ∧ w' = w := by
  have hc := h.self
  have h2 := h.n2
  have hcap := h.cap
  unfold maxLen at hcap
  unfold OutAt at hbad
  by_cases h1 : page < 0
  · clear hbad
    go_enter Try.func15, Try.ntmps15
    go_wp2
    go_ret
    exact ⟨rfl, rfl⟩
  · obtain ⟨p, rfl⟩ : ∃ p : Nat, page = (p : Int) := ⟨page.toNat, by omega⟩
    by_cases h3 : l.length ≤ p
    · clear hbad
      go_enter Try.func15, Try.ntmps15
      go_wp2
      go_ret
      exact ⟨rfl, rfl⟩
    · have hp : p < l.length := by omega
      obtain ⟨t0, t1, t2⟩ := h.tab.cells hp
      have hk : (pg l p).kind ≠ 2 := fun e => hbad ⟨by omega, by omega, by rw [Int.toNat_natCast]; exact e⟩
      generalize (pg l p).kind = k at t0 hk
      have hk2 : (k != 2) = true := by simpa using hk
      clear hbad hk
      go_enter Try.func15, Try.ntmps15
      go_wp2
      go_ret
      exact ⟨rfl, rfl⟩
set_option maxHeartbeats 8000000 in
set_option maxRecDepth 100000 in
theorem rFreeYes (h : BudAt w 39 B g cap l) (hc : Cov l) (p : Nat) (hp : p < l.length) (hk : (pg l p).kind = 2) :
    Calls Try.prog 15 #[.pointer (some ⟨B, 0, none⟩), .int .i64 p] w fun e w' => e = .returned (.int .i64 0) ∧ BudAt w' 39 B g cap (freeL l p) ∧ Kept (· = g) w w' := by
  have HA := Lib.hid h
  have HC := Lib.hid hc
  have HW := Lib.hid h.way
  have HCAP := Lib.hid h.cap
  have hn2 := h.n2
  have hself := h.self
  obtain ⟨r0, hr0, hmi⟩ := MI.start hc hp hk
  have HMI := Lib.hid hmi
  obtain ⟨M, hM⟩ : ∃ M, mrg l (10 - r0) p r0 = M := ⟨_, rfl⟩
  have HM := Lib.hid hM
  have HRES : Hid (freeL l p = setF l M.1 (fh M.2)) := Lib.hid (by unfold freeL; rw [hr0, Int.toNat_natCast, hM])
  obtain ⟨t0, t1, t2⟩ := h.tab.cells hp
  rw [hk] at t0
  rw [hr0] at t1
  have hr10 := hmi.le
  have hnl : ¬ l.length ≤ p := by omega
  clear h hc hk hr0 hmi hM
  go_enter Try.func15, Try.ntmps15
  go_wp2
  go_loop [1, 5] (fun a b => ∃ q r : Nat, a = .int .i64 q ∧ b = .int .i64 r ∧ r ≤ 10 ∧ Hid (mrg l (10 - r) q r = M) ∧ Hid (MI l p q r)) (fun _ b => 10 - (intOf b).toNat)
  case atStart => exact ⟨p, r0, rfl, rfl, hr10, HM, HMI⟩
  case round =>
    obtain ⟨q, r, rfl, rfl, hr, HMr, HI⟩ := hrel
    obtain ⟨S, hS⟩ : ∃ S, 2 ^ r = S := ⟨_, rfl⟩
    have HSS := Lib.hid hS
    have hS1 : 1 ≤ S ∧ S ≤ 1024 := by rw [← hS]; exact pow_le r hr
    have hSi : (2 : Int) ^ r = (S : Int) := pow_int r S hS
    have hq : q + S ≤ l.length := by rw [← hS]; exact HI.out.fits
    have hql : q < l.length := by omega
    clear hS
    by_cases hlt : r < 10
    · obtain ⟨b, hb⟩ : ∃ b, bud q r = b := ⟨_, rfl⟩
      have HBB := Lib.hid hb
      have hcs := bud_cases HI.out.mult
      have hup := pow_up r
      rw [hb, hup, HSS.out] at hcs
      clear hb hup
      by_cases hF : isF l b r = true
      · have hF2 := hF
        simp only [isF, decide_eq_true_eq] at hF2
        have HST := Lib.hid (HI.out.step HC.out hlt (by rw [HBB.out]; exact hF)).1
        have HMN : Hid (mrg l (10 - (r + 1)) (min q b) (r + 1) = M) := Lib.hid (by rw [← HMr.out, mrg_step hlt (by rw [HBB.out]; exact hF), HBB.out])
        have HF := Lib.hid hF
        clear hF hF2
        rcases hcs with ⟨h1, h2⟩ | ⟨x, h1, h2, h3, h4⟩
        · subst h2
          have h1i : (q : Int) % (2 * (S : Int)) = 0 := by rw [emod_two, h1]; rfl
          have HST2 : Hid (MI l p q (r + 1)) := Lib.hid (by have := HST.out; rw [HBB.out, Nat.min_eq_left (by omega)] at this; exact this)
          have HMN2 : Hid (mrg l (10 - (r + 1)) q (r + 1) = M) := Lib.hid (by have := HMN.out; rw [Nat.min_eq_left (by omega)] at this; exact this)
          clear HST HMN h1
          go_wp2_with fail
          refine (rFree0 HA.out (q + S) r true HF.out).mono ?_
          rintro e w3 ⟨rfl, rfl⟩
          go_wp2
          go_round
          case rel => exact ⟨q, r + 1, by first | rfl | go_num, by go_num, by omega, HMN2, HST2⟩
          case measure => simp [intOf]; omega
        · subst h3
          subst h2
          have h4i : ((((b : Int) + (S : Int)) % (2 * (S : Int))) != 0) = true := by rw [← Int.natCast_add, bne_iff_ne, emod_two]; omega
          have HST2 : Hid (MI l p b (r + 1)) := Lib.hid (by have := HST.out; rw [HBB.out, Nat.min_eq_right (by omega)] at this; exact this)
          have HMN2 : Hid (mrg l (10 - (r + 1)) b (r + 1) = M) := Lib.hid (by have := HMN.out; rw [Nat.min_eq_right (by omega)] at this; exact this)
          clear HST HMN h1 h4
          go_wp2_with fail
          refine (rFree0 HA.out b r true HF.out).mono ?_
          rintro e w3 ⟨rfl, rfl⟩
          go_wp2
          go_round
          case rel => exact ⟨b, r + 1, by first | rfl | go_num, by go_num, by omega, HMN2, HST2⟩
          case measure => simp [intOf]; omega
      · have hF0 : isF l b r = false := by simpa using hF
        have HF := Lib.hid hF0
        have HMN : Hid (M = (q, r)) := Lib.hid (by rw [← HMr.out]; exact mrg_stop (.inr (by rw [HBB.out]; exact hF0)) hr)
        clear hF hF0
        rcases hcs with ⟨h1, h2⟩ | ⟨x, h1, h2, h3, h4⟩
        · subst h2
          have h1i : (q : Int) % (2 * (S : Int)) = 0 := by rw [emod_two, h1]; rfl
          clear h1
          go_wp2_with fail
          refine (rFree0 HA.out (q + S) r false HF.out).mono ?_
          rintro e w3 ⟨rfl, rfl⟩
          go_wp2_with fail
          refine (rSet HW.out HCAP.out hn2 q r S 0 0 hr HSS.out hq).mono ?_
          rintro e w5 ⟨rfl, hw5⟩
          have HR := Lib.hid (HA.out.came hw5 (freeL_length _ _) (fun i hi => by rw [HRES.out, HMN.out]; exact setB_list l q (fh r) i hi))
          have HK := Lib.hid hw5.kept
          clear hw5
          go_wp2
          go_ret
          exact ⟨rfl, HR.out, HK.out⟩
        · subst h3
          subst h2
          have h4i : ((((b : Int) + (S : Int)) % (2 * (S : Int))) != 0) = true := by rw [← Int.natCast_add, bne_iff_ne, emod_two]; omega
          clear h1 h4
          go_wp2_with fail
          refine (rFree0 HA.out b r false HF.out).mono ?_
          rintro e w3 ⟨rfl, rfl⟩
          go_wp2_with fail
          refine (rSet HW.out HCAP.out hn2 _ r S 0 0 hr HSS.out hq).mono ?_
          rintro e w5 ⟨rfl, hw5⟩
          have HR := Lib.hid (HA.out.came hw5 (freeL_length _ _) (fun i hi => by rw [HRES.out, HMN.out]; exact setB_list l _ (fh r) i hi))
          have HK := Lib.hid hw5.kept
          clear hw5
          go_wp2
          go_ret
          exact ⟨rfl, HR.out, HK.out⟩
    · obtain rfl : r = 10 := by omega
      have HMN : Hid (M = (q, 10)) := Lib.hid (by rw [← HMr.out]; rfl)
      go_wp2_with fail
      refine (rSet HW.out HCAP.out hn2 q 10 S 0 0 hr HSS.out hq).mono ?_
      rintro e w5 ⟨rfl, hw5⟩
      have HR := Lib.hid (HA.out.came hw5 (freeL_length _ _) (fun i hi => by rw [HRES.out, HMN.out]; exact setB_list l q (fh 10) i hi))
      have HK := Lib.hid hw5.kept
      clear hw5
      go_wp2
      go_ret
      exact ⟨rfl, HR.out, HK.out⟩
end
end Go.Proofs.Ytpohfecbogppkaa
