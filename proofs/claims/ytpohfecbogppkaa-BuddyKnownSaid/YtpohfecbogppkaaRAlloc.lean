/-
  The document's answer: Alloc, Free.
-/
import Derived.Test.YtpohfecbogppkaaRBud
set_option linter.unusedVariables false
set_option linter.unusedSimpArgs false
namespace Go.Proofs.Ytpohfecbogppkaa
open Go Go.RowKit

section
variable {w : World} {B g cap : Nat} {l : List Pg}
set_option maxHeartbeats 2000000 in
theorem rAllocBad (order cache : Int) (hbad : ¬ ArgOk order cache) (w : World) :
    Calls Try.prog 12 #[.pointer (some ⟨B, 0, none⟩), .int .i64 order, .int .i64 cache] w fun e w' => e = .returned (.tuple #[.int .i64 0, .int .i64 2]) ∧ w' = w := by
  unfold ArgOk at hbad
  by_cases h1 : order < 0
  · clear hbad
    go_enter Try.func12, Try.ntmps12
    go_wp2
    go_ret2
    exact ⟨rfl, rfl⟩
  · by_cases h2 : 10 < order
    · clear hbad
      go_enter Try.func12, Try.ntmps12
      go_wp2
      go_ret2
      exact ⟨rfl, rfl⟩
    · by_cases h3 : cache < 0
      · clear hbad
        go_enter Try.func12, Try.ntmps12
        go_wp2
        go_ret2
        exact ⟨rfl, rfl⟩
      · have h4 : 8 < cache := by omega
        clear hbad
        go_enter Try.func12, Try.ntmps12
        go_wp2
        go_ret2
        exact ⟨rfl, rfl⟩
set_option maxHeartbeats 4000000 in
set_option maxRecDepth 100000 in
theorem rAllocNo (h : BudAt w 39 B g cap l) (order : Nat) (cache : Int) (h1 : order ≤ 10) (h2 : 0 ≤ cache) (h3 : cache ≤ 8) (hno : NoFit l order) :
    Calls Try.prog 12 #[.pointer (some ⟨B, 0, none⟩), .int .i64 order, .int .i64 cache] w fun e w' => e = .returned (.tuple #[.int .i64 0, .int .i64 7]) ∧ Below w.heap.size w w' := by
  have HN := Lib.hid hno
  have HA := Lib.hid h
  have hself := h.self
  have hn2 := h.n2
  clear hno h
  go_enter Try.func12, Try.ntmps12
  go_wp2
  go_loop [8] (fun x => ∃ k : Nat, order ≤ k ∧ k ≤ 11 ∧ x = .int .i64 k) (fun x => 11 - (intOf x).toNat)
  case atStart => exact ⟨order, Nat.le_refl _, by omega, rfl⟩
  case round =>
    obtain ⟨k, hk1, hk2, rfl⟩ := hrel
    by_cases hk10 : k ≤ 10
    · have hk10i : (k : Int) ≤ 10 := by omega
      go_wp2
      go_loop [8, 9] (fun x y => x = .int .i64 k ∧ ∃ t : Nat, y = .int .i64 t ∧ t ≤ l.length) (fun _ y => l.length - (intOf y).toNat)
      case atStart => exact ⟨rfl, 0, by first | rfl | go_num, by omega⟩
      case round =>
        obtain ⟨rfl, t, rfl, ht⟩ := hrel
        by_cases hlt : t < l.length
        · have HHIT : Hid (isF l t k = false) := Lib.hid (isF_no (HN.out k hk1 hk10 t hlt))
          go_wp2_with fail
          refine (rFree0 HA.out t k false HHIT.out).mono ?_
          rintro e w3 ⟨rfl, rfl⟩
          go_wp2
          go_round
          case rel => exact ⟨rfl, t + 1, by go_num, by omega⟩
          case measure => simp [intOf]; omega
        · obtain rfl : t = l.length := by omega
          go_wp2
          go_round
          case rel => exact ⟨k + 1, by omega, by omega, by go_num⟩
          case measure => simp [intOf]; omega
    · obtain rfl : k = 11 := by omega
      go_wp2
      go_ret2
      exact ⟨rfl, Below.refl _ _⟩
theorem setB_spl {l : List Pg} {p o m : Nat} (hins : ∀ j, p < j → j < p + 2 ^ o → pg l j = pin) (hm : m + 1 ≤ o) (i : Nat) :
    setB (spl (pg l) p o (o - (m + 1))) (p + 2 ^ m) (fh m) i = spl (pg l) p o (o - m) i := by
  have hup := pow_up m
  have hp := pow_two_pos m
  have hle := Nat.pow_le_pow_right (n := 2) (by decide) hm
  rw [show o - m = (o - (m + 1)) + 1 by omega]
  conv => rhs; unfold spl
  rw [show o - (o - (m + 1) + 1) = m by omega]
  unfold setB upd
  rw [fh_sz]
  by_cases h1 : i = p + 2 ^ m
  · rw [if_pos h1, if_pos h1]
  · rw [if_neg h1, if_neg h1]
    by_cases h2 : p + 2 ^ m < i ∧ i < p + 2 ^ m + 2 ^ m
    · rw [if_pos h2, spl_in _ _ _ _ (by omega) (by rw [show o - (o - (m + 1)) = m + 1 by omega]; omega)]
      exact (hins i (by omega) (by omega)).symm
    · rw [if_neg h2]
theorem setB_alloc {l : List Pg} {p o order : Nat} {c : Int} (hins : ∀ j, p < j → j < p + 2 ^ o → pg l j = pin) (hm : order ≤ o) (i : Nat) (hi : i < l.length) :
    setB (spl (pg l) p o (o - order)) p ⟨2, (order : Int), c⟩ i = pg (allocL l order o p c) i := by
  have hle := Nat.pow_le_pow_right (n := 2) (by decide) hm
  have hz : (⟨2, (order : Int), c⟩ : Pg).sz = 2 ^ order := by simp [Pg.sz]
  rw [alloc_at _ _ _ _ _ hi]
  unfold setB upd
  rw [hz]
  by_cases h1 : i = p
  · rw [if_pos h1, if_pos h1]
  · rw [if_neg h1, if_neg h1]
    by_cases h2 : p < i ∧ i < p + 2 ^ order
    · rw [if_pos h2, spl_in _ _ _ _ (by omega) (by rw [show o - (o - order) = order by omega]; omega)]
      exact (hins i (by omega) (by omega)).symm
    · rw [if_neg h2]
set_option maxHeartbeats 8000000 in
set_option maxRecDepth 100000 in
theorem rAllocYes (h : BudAt w 39 B g cap l) (hc : Cov l) (order o p : Nat) (c : Int) (h2 : 0 ≤ c) (h3 : c ≤ 8) (hf : Fit l order o p) :
    Calls Try.prog 12 #[.pointer (some ⟨B, 0, none⟩), .int .i64 order, .int .i64 c] w fun e w' => e = .returned (.tuple #[.int .i64 p, .int .i64 0]) ∧ BudAt w' 39 B g cap (allocL l order o p c) ∧ Kept (· = g) w w' := by
  have HA := Lib.hid h
  have hself := h.self
  have hn2 := h.n2
  have ho10 := hf.hi
  have hlo := hf.lo
  have hpl := hf.lt
  have h1 : order ≤ 10 := by omega
  have HF := Lib.hid hf
  have HW := Lib.hid h.way
  have HCAP := Lib.hid h.cap
  obtain ⟨hs, hz, hm, hfit, _⟩ := hc.free_at hf.lt hf.here
  have HFT := Lib.hid hfit
  have HIN : Hid (∀ j, p < j → j < p + 2 ^ o → pg l j = pin) := Lib.hid (fun j h1 h2 => hs.ins j h1 (by rw [hz]; exact h2))
  clear hf hm hfit hs hz h hc
  go_enter Try.func12, Try.ntmps12
  go_wp2
  go_loop [8] (fun x => ∃ k : Nat, order ≤ k ∧ k ≤ o ∧ x = .int .i64 k) (fun x => o - (intOf x).toNat)
  case atStart => exact ⟨order, Nat.le_refl _, hlo, rfl⟩
  case round =>
    obtain ⟨k, hk1, hk2, rfl⟩ := hrel
    have hk10 : k ≤ 10 := by omega
    have hk10i : (k : Int) ≤ 10 := by omega
    go_wp2
    go_loop [8, 9] (fun x y => x = .int .i64 k ∧ ∃ t : Nat, y = .int .i64 t ∧ t ≤ l.length ∧ (k = o → t ≤ p)) (fun _ y => l.length - (intOf y).toNat)
    case atStart => exact ⟨rfl, 0, by first | rfl | go_num, by omega, fun _ => by omega⟩
    case round =>
      obtain ⟨rfl, t, rfl, ht, htp⟩ := hrel
      by_cases hlt : t < l.length
      · by_cases hhit : isF l t k = true
        · have hh := hhit
          simp only [isF, decide_eq_true_eq] at hh
          have hko : k = o := by
            apply Classical.byContradiction
            intro hne
            exact HF.out.less k hk1 (by omega) t hlt hh.2
          have htp2 : t = p := by
            apply Classical.byContradiction
            intro hne
            exact HF.out.first t (by have := htp hko; omega) (by rw [← hko]; exact hh.2)
          have HHIT := Lib.hid hhit
          clear hhit hh htp
          subst hko
          subst htp2
          go_wp2_with fail
          refine (rFree0 HA.out _ k true HHIT.out).mono ?_
          rintro e w3 ⟨rfl, rfl⟩
          go_wp2
          go_loopw [8] (fun x wr => ∃ m : Nat, order ≤ m ∧ m ≤ k ∧ x = .int .i64 m ∧ Hid (Way w3 wr 39 B g cap l.length (spl (pg l) t k (k - m)))) (fun x _ => (intOf x).toNat)
          case atStart => exact ⟨k, hk1, Nat.le_refl _, rfl, by rw [Nat.sub_self]; exact HW⟩
          case round =>
            obtain ⟨m, hm1, hm2, rfl, HWr⟩ := hrel
            by_cases hmo : order < m
            · obtain ⟨j, rfl⟩ : ∃ j, m = j + 1 := ⟨m - 1, by omega⟩
              obtain ⟨S, hS⟩ : ∃ S, 2 ^ j = S := ⟨_, rfl⟩
              have hS1 : 1 ≤ S ∧ S ≤ 1024 := by rw [← hS]; exact pow_le j (by omega)
              have hSi : (2 : Int) ^ j = (S : Int) := pow_int j S hS
              have hle := Nat.pow_le_pow_right (n := 2) (by decide) hm2
              have hup := pow_up j
              have hfit := HFT.out
              have hTl : t + S + S ≤ l.length := by omega
              have HSS := Lib.hid hS
              have HE := Lib.hid (setB_spl (p := t) (o := k) (m := j) HIN.out hm2)
              clear hS hle hup hfit
              go_wp2_with fail
              refine (rSet HWr.out HCAP.out hn2 (t + S) j S 0 0 (by omega) HSS.out hTl).mono ?_
              rintro e w4 ⟨rfl, hw4⟩
              have HW4 : Hid (Way w3 w4 39 B g cap l.length (spl (pg l) t k (k - j))) := Lib.hid (hw4.congr (fun i _ => by rw [← HE.out i, HSS.out]; rfl))
              clear hw4
              go_wp2
              go_roundw
              case rel => exact ⟨j, by omega, by omega, by go_num, HW4⟩
              case measure => simp [intOf]
            · obtain rfl : m = order := by omega
              obtain ⟨S, hS⟩ : ∃ S, 2 ^ m = S := ⟨_, rfl⟩
              have HSS := Lib.hid hS
              have hTl : t + S ≤ l.length := by
                have hle := Nat.pow_le_pow_right (n := 2) (by decide) hm2
                have hfit := HFT.out
                omega
              have HE := Lib.hid (fun i hi => setB_alloc (l := l) (p := t) (o := k) (order := m) (c := c) HIN.out hm2 i hi)
              clear hS
              go_wp2_with fail
              refine (rSet HWr.out HCAP.out hn2 t m S 2 c h1 HSS.out hTl).mono ?_
              rintro e w4 ⟨rfl, hw4⟩
              have HR := Lib.hid (HA.out.came hw4 (allocL_length _ _ _ _ _) HE.out)
              have HK := Lib.hid hw4.kept
              clear hw4
              go_wp2
              go_ret2
              exact ⟨rfl, HR.out, HK.out⟩
        · have HHIT : Hid (isF l t k = false) := Lib.hid (by simpa using hhit)
          have htp2 : k = o → t + 1 ≤ p := fun e => by
            have h1 := htp e
            by_cases e2 : t = p
            · exfalso
              exact hhit (by rw [e2, e]; exact isF_yes hpl HF.out.here)
            · omega
          clear hhit htp
          go_wp2_with fail
          refine (rFree0 HA.out t k false HHIT.out).mono ?_
          rintro e w3 ⟨rfl, rfl⟩
          go_wp2
          go_round
          case rel => exact ⟨rfl, t + 1, by go_num, by omega, htp2⟩
          case measure => simp [intOf]; omega
      · have hko : k < o := by
          apply Classical.byContradiction
          intro hne
          have := htp (by omega)
          omega
        clear htp
        go_wp2
        go_round
        case rel => exact ⟨k + 1, by omega, by omega, by go_num⟩
        case measure => simp [intOf]; omega
end
end Go.Proofs.Ytpohfecbogppkaa
