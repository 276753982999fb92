/-
  later, Lock, Unlock, Quiet, Done, Depth, Waits, Wanted of the document's answer.
-/
import Derived.Test.YtnnpclknlccmiaaRg
set_option linter.unusedVariables false
set_option linter.unusedSimpArgs false
namespace Go.Proofs.Ytnnpclknlccmiaa
open Go Go.RowKit

def R1 (w : World) (B d r m n : Nat) (g' : Gr) (er : Int) (e : Ending) (w' : World) : Prop := ∃ vs', e = .returned (.int .i64 er) ∧ RV w' B d r m n vs' g' (anyB g'.aw n) ∧ Kept (OwnR B d r m) w w'
section
variable {w w' : World} {B d r m n b : Nat} {vs : Nat → Value} {g g' : Gr} {q : Bool} {cpu er : Int}
theorem RV.own (h : RV w B d r m n vs g q) {i : Nat} (hi : i < n) : OwnW 0 w (vs i) (g.rs i) := h.row i hi
theorem RV.flag (h : RV w B d r m n vs g q) {q' : Bool} (e : q = q') : RV w B d r m n vs g q' := by subst e; exact h
set_option maxHeartbeats 2000000 in
set_option maxRecDepth 100000 in
theorem rLater (h : RV w B d r m n vs g q) (hn : n ≤ 8) (hk : ∀ i, i < n → chkF (g.rs i) = 0) (x : Bool) (hx : g.lat n g.nd = x) :
    Calls Try.prog 49 #[.pointer (some ⟨B, 0, none⟩)] w fun e w' => e = .returned (.bool x) ∧ Below w.heap.size w w' := by
  have HA := Lib.hid h
  have HK := Lib.hid hk
  have HX := Lib.hid hx
  obtain ⟨D, hD⟩ : ∃ D, g.nd = D := ⟨_, rfl⟩
  have HD := Lib.hid hD
  clear h hk hx hD
  go_enter Try.func49, Try.ntmps49
  go_wp2
  go_loopw [3] (fun i wr => ∃ k : Nat, k ≤ n ∧ i = .int .i64 k ∧ Hid (∀ j, j < k → ¬ cutN (g.nd : Int) (g.rs j) < (g.rs j).length) ∧ Below w.heap.size w wr) (fun i _ => n - (intOf i).toNat)
  case atStart => exact ⟨0, by omega, rfl, Lib.hid (fun j hj => by omega), Below.refl _ _⟩
  case round =>
    obtain ⟨k, hkn, rfl, HL, hb⟩ := hrel
    have hg := HA.out.below hb
    have c1 := hg.c1
    by_cases hlt : k < n
    · have c2 := hg.c2
      rw [HD.out] at c2
      have cr := hg.cr hlt
      have hown := hg.own hlt
      obtain ⟨ao, cap, hv, hcap, hat⟩ := hown.shows.form
      rw [hv] at cr
      have hlen := chk_len (HK.out k hlt)
      have HCL := Lib.hid (cut_last (d := D) (HK.out k hlt))
      have HT : Hid (cutN (g.nd : Int) (g.rs k) < (g.rs k).length → true = x) := Lib.hid (fun e => by rw [← HX.out]; exact (anyB_iff.2 ⟨k, hlt, by simpa using e⟩).symm)
      have HF : Hid (¬ cutN (g.nd : Int) (g.rs k) < (g.rs k).length → ∀ j, j < k + 1 → ¬ cutN (g.nd : Int) (g.rs j) < (g.rs j).length) := Lib.hid (fun e j hj => by
        by_cases ej : j = k
        · subst ej; exact e
        · exact HL.out j (by omega))
      rw [HD.out] at HT HF
      generalize g.rs k = l at *
      clear HL hg hown hv
      by_cases h0 : 0 < l.length
      · obtain ⟨M, hM⟩ : ∃ M, l.length = M + 1 := ⟨l.length - 1, by omega⟩
        obtain ⟨b1, o1, rfl, _, d2⟩ := hat M (by omega)
        rw [hM] at cr hcap
        obtain ⟨A, hA⟩ : ∃ A, (wt l M).due = A := ⟨_, rfl⟩
        rw [hA] at d2
        have hw1 : IntKind.i64.wrap ((M : Int) + 1 - 1) = M := by rw [show (M : Int) + 1 - 1 = M by omega]; exact IntWalk.i64_in _ (by omega)
        have hw2 : (M : Int) + 1 - 1 = M := by omega
        have hpos : decide ((0 : Int) < (M : Int) + 1) = true := decide_eq_true (by omega)
        have HM : Hid (cutN D l < l.length ↔ D < A) := Lib.hid (by rw [HCL.out, hM, Nat.add_sub_cancel, hA]; constructor <;> (intro h; first | exact h.2 | exact ⟨by omega, h⟩))
        clear HCL h0 hA hat hlen hM
        by_cases hc : (D : Int) < A
        · have HT2 := Lib.hid (HT.out (HM.out.2 hc))
          have hdc : decide ((D : Int) < A) = true := decide_eq_true hc
          clear HT HF HM
          go_wp2
          go_quiet (fail)
          go_wp2
          go_ret
          exact ⟨ret_bool HT2.out, below_drewN hb _⟩
        · have HF2 := Lib.hid (HF.out (fun e => hc (HM.out.1 e)))
          have hdc : decide ((D : Int) < A) = false := decide_eq_false hc
          clear HT HF HM
          go_wp2
          go_quiet (fail)
          go_wp2
          go_roundw
          case rel => exact ⟨k + 1, by omega, by go_num, by rw [HD.out]; exact HF2, below_drewN hb _⟩
          case measure => simp [intOf]; omega
      · have hl0 : l.length = 0 := by omega
        have HF2 := Lib.hid (HF.out (by omega))
        rw [hl0] at cr
        clear HCL h0 hat hl0 HT HF hlen hcap
        go_wp2
        go_quiet (fail)
        go_wp2
        go_roundw
        case rel => exact ⟨k + 1, by omega, by go_num, by rw [HD.out]; exact HF2, below_drewN hb _⟩
        case measure => simp [intOf]; omega
    · obtain rfl : k = n := by omega
      have HQ2 : Hid (false = x) := Lib.hid (by
        rw [← HX.out]
        exact (anyB_no.2 (fun i hi => by simpa using HL.out i hi)).symm)
      clear hg
      go_wp2
      go_ret
      exact ⟨ret_bool HQ2.out, hb⟩
theorem hasNo (hp : ¬ isP n cpu) : decide (isP n cpu) = false := decide_eq_false hp
theorem hasYes {c : Nat} (hc : c < n) : decide (isP n (c : Int)) = true := decide_eq_true (isP_mk hc)
set_option maxHeartbeats 1000000 in
set_option maxRecDepth 100000 in
theorem rLock (h : RV w B d r m n vs g (anyB g.aw n)) (hn : n ≤ 8) (hr : LockIs n g cpu er g') :
    Calls Try.prog 23 #[.pointer (some ⟨B, 0, none⟩), .int .i64 cpu] w (R1 w B d r m n g' er) := by
  have HA := Lib.hid h
  cases hr with
  | no _ hp =>
    clear h
    go_enter Try.func23, Try.ntmps23
    go_wp2_with fail
    refine (rHas HA.out _ false (hasNo hp)).mono ?_
    rintro e w1 ⟨rfl, rfl⟩
    go_wp2
    go_ret
    exact ⟨_, rfl, HA.out, Kept.refl _ _⟩
  | full c hc hd =>
    have c0 := h.c0
    have e1 := h.cd hc
    rw [hd] at e1
    clear h hd
    go_enter Try.func23, Try.ntmps23
    go_wp2_with fail
    refine (rHas HA.out _ true (hasYes hc)).mono ?_
    rintro e w1 ⟨rfl, rfl⟩
    go_wp2
    go_ret
    exact ⟨_, rfl, HA.out, Kept.refl _ _⟩
  | ok c hc hd =>
    have c0 := h.c0
    have e1 := h.cd hc
    have ef := h.fd c
    have HS := Lib.hid (rset_deep h hc (e := g.dp c + 1) (x := (g.dp c : Int) + 1) (by omega))
    obtain ⟨D, hdd⟩ : ∃ D, g.dp c = D := ⟨_, rfl⟩
    rw [hdd] at e1 hd HS ⊢
    have hne : ((D : Int) == 8) = false := by simp; omega
    clear h hdd
    go_enter Try.func23, Try.ntmps23
    go_wp2_with fail
    refine (rHas HA.out _ true (hasYes hc)).mono ?_
    rintro e w1 ⟨rfl, rfl⟩
    go_wp2
    go_region
    all_goals
      go_wp2
      go_ret
      exact ⟨_, rfl, HS.out.1.drewN 1, HS.out.2.drewN 1⟩
set_option maxHeartbeats 1000000 in
set_option maxRecDepth 100000 in
theorem rUnlock (h : RV w B d r m n vs g (anyB g.aw n)) (hn : n ≤ 8) (hb8 : ∀ i, i < n → g.dp i ≤ 8) (hr : UnlockIs n g cpu er g') :
    Calls Try.prog 24 #[.pointer (some ⟨B, 0, none⟩), .int .i64 cpu] w (R1 w B d r m n g' er) := by
  have HA := Lib.hid h
  cases hr with
  | no _ hp =>
    clear h hb8
    go_enter Try.func24, Try.ntmps24
    go_wp2_with fail
    refine (rHas HA.out _ false (hasNo hp)).mono ?_
    rintro e w1 ⟨rfl, rfl⟩
    go_wp2
    go_ret
    exact ⟨_, rfl, HA.out, Kept.refl _ _⟩
  | none c hc hd =>
    have c0 := h.c0
    have e1 := h.cd hc
    rw [hd] at e1
    clear h hd hb8
    go_enter Try.func24, Try.ntmps24
    go_wp2_with fail
    refine (rHas HA.out _ true (hasYes hc)).mono ?_
    rintro e w1 ⟨rfl, rfl⟩
    go_wp2
    go_ret
    exact ⟨_, rfl, HA.out, Kept.refl _ _⟩
  | ok c D2 hc hd =>
    have c0 := h.c0
    have e1 := h.cd hc
    have ef := h.fd c
    have h8 := hb8 c hc
    have HS := Lib.hid (rset_deep h hc (e := D2) (x := (g.dp c : Int) - 1) (by omega))
    obtain ⟨D, hdd⟩ : ∃ D, g.dp c = D := ⟨_, rfl⟩
    rw [hdd] at e1 hd HS h8
    have hne : ((D : Int) == 0) = false := by simp; omega
    have hD0 : 0 < D := by omega
    clear h hdd hb8 hd
    go_enter Try.func24, Try.ntmps24
    go_wp2_with fail
    refine (rHas HA.out _ true (hasYes hc)).mono ?_
    rintro e w1 ⟨rfl, rfl⟩
    go_wp2
    go_region
    all_goals
      go_wp2
      go_ret
      exact ⟨_, rfl, HS.out.1.drewN 1, HS.out.2.drewN 1⟩
end
end Go.Proofs.Ytnnpclknlccmiaa
