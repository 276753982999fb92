/-
  fitting, of the program: the first one of the smallest free blocks that are great enough.
-/
import Derived.Test.YtpohfecbogppkaaOps
set_option linter.unusedVariables false
set_option linter.unusedSimpArgs false
namespace Go.Proofs.Ytpohfecbogppkaa
open Go Go.RowKit

theorem isF_no {l : List Pg} {i o : Nat} (h : pg l i ≠ fh o) : isF l i o = false := by simp [isF, h]
theorem isF_yes {l : List Pg} {i o : Nat} (hi : i < l.length) (h : pg l i = fh o) : isF l i o = true := by simp [isF, h, hi]
theorem mod_add {a S : Nat} (h : a % S = 0) : (a + S) % S = 0 := by rw [Nat.add_mod_right]; exact h
section
variable {w : World} {B g cap : Nat} {l : List Pg}
set_option maxHeartbeats 4000000 in
set_option maxRecDepth 100000 in
theorem cFittingYes (h : BudAt w 56 B g cap l) (hc : Cov l) (order o p : Nat) (hf : Fit l order o p) :
    Calls Try.prog 29 #[.pointer (some ⟨B, 0, none⟩), .int .i64 order] w fun e w' => e = .returned (.tuple #[.int .i64 p, .bool true]) ∧ Below w.heap.size w w' := by
  have HA := Lib.hid h
  have h2 := h.n2
  have hcap := h.cap
  unfold maxLen at hcap
  obtain ⟨_, _, hpm, _, _⟩ := hc.free_at hf.lt hf.here
  have ho10 := hf.hi
  have hlo := hf.lo
  have HPM := Lib.hid hpm
  have HF := Lib.hid hf
  have hpl := hf.lt
  clear h hc hf hpm
  go_enter Try.func29, Try.ntmps29
  go_wp2
  go_step3
  go_wp2
  go_step3
  go_wp2
  go_loopw [4, 5, 6] (fun a b x wr => a = .int .i64 0 ∧ b = .bool false ∧ ∃ k : Nat, order ≤ k ∧ k ≤ o ∧ x = .int .i64 k ∧ Hid (Below w.heap.size w wr)) (fun a b x _ => o - (intOf x).toNat)
  case atStart => exact ⟨rfl, rfl, order, by omega, hlo, rfl, Lib.hid (Below.refl _ _)⟩
  case round =>
    obtain ⟨rfl, rfl, k, hk1, hk2, rfl, HB⟩ := hrel
    obtain ⟨S, hS⟩ : ∃ S, 2 ^ k = S := ⟨_, rfl⟩
    have hS1 : 1 ≤ S ∧ S ≤ 1024 := by rw [← hS]; exact pow_le k (by omega)
    have HS := Lib.hid hS
    have hk10 : k ≤ 10 := by omega
    have hk10i : (k : Int) ≤ 10 := by omega
    clear hS
    have HR := Lib.hid (HA.out.below HB.out).self
    have hself := HR.out
    go_wp2
    go_loopw [4, 5, 7] (fun a b x wx => a = .int .i64 0 ∧ b = .bool false ∧ ∃ t : Nat, x = .int .i64 t ∧ t ≤ 2047 ∧ (t ≤ l.length + 1023) ∧ (k = o → t ≤ p) ∧ Hid (t % S = 0) ∧ Hid (Below w.heap.size w wx)) (fun a b x _ => 2048 - (intOf x).toNat)
    case atStart => exact ⟨rfl, rfl, 0, by first | rfl | go_num, by omega, by omega, fun _ => by omega, Lib.hid (Nat.zero_mod _), HB⟩
    case round =>
      obtain ⟨rfl, rfl, t, rfl, ht1, ht2, htp, HM, HX⟩ := hrel
      have hself := (HA.out.below HX.out).self
      by_cases hlt : t < l.length
      · by_cases hhit : isF l t k = true
        · have hh := hhit
          simp only [isF, decide_eq_true_eq] at hh
          have hko : k = o := by
            apply Classical.byContradiction
            intro hne
            exact HF.out.less k hk1 (by omega) t hlt hh.2
          have htp2 : t = p := by
            apply Classical.byContradiction
            intro hne
            exact HF.out.first t (by have := htp hko; omega) (by rw [← hko]; exact hh.2)
          have HHIT := Lib.hid hhit
          clear hhit hh htp
          subst hko
          subst htp2
          go_wp2_with fail
          refine (cIsFree (HA.out.below HX.out) _ k true HHIT.out).mono ?_
          rintro e w3 ⟨rfl, h3⟩
          have hb4 := below_then HX.out h3
          go_wp2
          try rw [Exit.noGoto_ret]
          go_ret2
          exact ⟨rfl, hb4⟩
        · have HHIT : Hid (isF l t k = false) := Lib.hid (by simpa using hhit)
          have htp2 : k = o → t + S ≤ p := fun e => by
            have h1 := htp e
            by_cases e2 : t = p
            · exfalso
              exact hhit (by rw [e2, e]; exact isF_yes hpl HF.out.here)
            · apply Nat.le_of_not_lt
              intro h4
              have h5 := HPM.out
              have h6 := HM.out
              rw [← e, HS.out] at h5
              exact no_between h6 h5 (by omega) h4
          have HM2 := Lib.hid (mod_add HM.out)
          clear hhit htp
          go_wp2_with fail
          refine (cIsFree (HA.out.below HX.out) _ k false HHIT.out).mono ?_
          rintro e w3 ⟨rfl, h3⟩
          have HB4 := Lib.hid (below_then HX.out h3)
          go_wp2_with fail
          refine (cBPages k S hk10 HS.out _).mono ?_
          rintro e w4 ⟨rfl, rfl⟩
          go_wp2
          go_roundw
          case rel => exact ⟨rfl, rfl, t + S, by go_num, by omega, by omega, htp2, HM2, HB4⟩
          case measure => simp [intOf]; omega
      · have hko : k < o := by
          apply Classical.byContradiction
          intro hne
          have := htp (by omega)
          omega
        clear htp
        go_wp2
        go_roundw
        case rel => exact ⟨rfl, rfl, k + 1, by omega, by omega, by go_num, HX⟩
        case measure => simp [intOf]; omega
set_option maxHeartbeats 4000000 in
set_option maxRecDepth 100000 in
theorem cFittingNo (h : BudAt w 56 B g cap l) (order : Nat) (ho : order ≤ 10) (hf : NoFit l order) :
    Calls Try.prog 29 #[.pointer (some ⟨B, 0, none⟩), .int .i64 order] w fun e w' => e = .returned (.tuple #[.int .i64 0, .bool false]) ∧ Below w.heap.size w w' := by
  have HA := Lib.hid h
  have h2 := h.n2
  have hcap := h.cap
  unfold maxLen at hcap
  have HF := Lib.hid hf
  clear h hf
  go_enter Try.func29, Try.ntmps29
  go_wp2
  go_step3
  go_wp2
  go_step3
  go_wp2
  go_loopw [4, 5, 6] (fun a b x wr => a = .int .i64 0 ∧ b = .bool false ∧ ∃ k : Nat, order ≤ k ∧ k ≤ 11 ∧ x = .int .i64 k ∧ Hid (Below w.heap.size w wr)) (fun a b x _ => 11 - (intOf x).toNat)
  case atStart => exact ⟨rfl, rfl, order, by omega, by omega, rfl, Lib.hid (Below.refl _ _)⟩
  case round =>
    obtain ⟨rfl, rfl, k, hk1, hk2, rfl, HB⟩ := hrel
    by_cases hk10 : k ≤ 10
    · obtain ⟨S, hS⟩ : ∃ S, 2 ^ k = S := ⟨_, rfl⟩
      have hS1 : 1 ≤ S ∧ S ≤ 1024 := by rw [← hS]; exact pow_le k (by omega)
      have HS := Lib.hid hS
      have hk10i : (k : Int) ≤ 10 := by omega
      clear hS
      have HR := Lib.hid (HA.out.below HB.out).self
      have hself := HR.out
      go_wp2
      go_loopw [4, 5, 7] (fun a b x wx => a = .int .i64 0 ∧ b = .bool false ∧ ∃ t : Nat, x = .int .i64 t ∧ t ≤ 2047 ∧ (t ≤ l.length + 1023) ∧ Hid (Below w.heap.size w wx)) (fun a b x _ => 2048 - (intOf x).toNat)
      case atStart => exact ⟨rfl, rfl, 0, by first | rfl | go_num, by omega, by omega, HB⟩
      case round =>
        obtain ⟨rfl, rfl, t, rfl, ht1, ht2, HX⟩ := hrel
        have hself := (HA.out.below HX.out).self
        by_cases hlt : t < l.length
        · have HHIT : Hid (isF l t k = false) := Lib.hid (isF_no (HF.out k hk1 hk10 t hlt))
          go_wp2_with fail
          refine (cIsFree (HA.out.below HX.out) _ k false HHIT.out).mono ?_
          rintro e w3 ⟨rfl, h3⟩
          have HB4 := Lib.hid (below_then HX.out h3)
          go_wp2_with fail
          refine (cBPages k S hk10 HS.out _).mono ?_
          rintro e w4 ⟨rfl, rfl⟩
          go_wp2
          go_roundw
          case rel => exact ⟨rfl, rfl, t + S, by go_num, by omega, by omega, HB4⟩
          case measure => simp [intOf]; omega
        · go_wp2
          go_roundw
          case rel => exact ⟨rfl, rfl, k + 1, by omega, by omega, by go_num, HX⟩
          case measure => simp [intOf]; omega
    · obtain rfl : k = 11 := by omega
      go_wp2
      try rw [Exit.noGoto_ret]
      go_ret2
      exact ⟨rfl, HB.out⟩
end
end Go.Proofs.Ytpohfecbogppkaa
