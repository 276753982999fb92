/-
  unlocked and reported of what is noted.
-/
import Derived.Test.YtnnpclknlccmiaaBk
set_option linter.unusedVariables false
set_option linter.unusedSimpArgs false
namespace Go.Proofs.Ytnnpclknlccmiaa
open Go Go.RowKit

section
variable {w w' : World} {K : Nat} {vs : Nat → Value} {k : Bk} {c : Nat}
theorem upto_zero (f : Rc → Rc) (h : KV w K vs k) : KV w K vs (k.upto f 0) := h.congr (fun _ _ => rfl) (fun i hi => by simp [Bk.upto])
theorem upto_three (f : Rc → Rc) (h : KV w K vs (k.upto f 3)) : KV w K vs (k.each f) := h.congr (fun _ _ => rfl) (fun i hi => by simp [Bk.upto, Bk.each, hi])
theorem upto_in (f : Rc → Rc) {i : Nat} (h : KV w K vs (k.upto f i)) : KV w K vs ((k.upto f i).row i (turn f 0 (k.cs i))) := h.congr (fun _ _ => rfl) (fun a ha => by
  show upd (k.upto f i).cs i (turn f 0 (k.cs i)) a = (k.upto f i).cs a
  by_cases e : a = i
  · subst e
    rw [upd_same, turn_zero]
    show _ = (if a < a then _ else _)
    rw [if_neg (Nat.lt_irrefl a)]
  · rw [upd_other _ _ e])
theorem upto_out (f : Rc → Rc) {i : Nat} (h : KV w K vs ((k.upto f i).row i (turn f (k.cs i).length (k.cs i)))) : KV w K vs (k.upto f (i + 1)) := h.congr (fun _ _ => rfl) (fun a ha => by
  show (if a < i + 1 then (k.cs a).map f else k.cs a) = upd (k.upto f i).cs i (turn f (k.cs i).length (k.cs i)) a
  by_cases e : a = i
  · subst e
    rw [upd_same, turn_all, if_pos (Nat.lt_succ_self a)]
  · rw [upd_other _ _ e]
    show _ = (if a < i then _ else _)
    by_cases e2 : a < i
    · rw [if_pos e2, if_pos (by omega)]
    · rw [if_neg e2, if_neg (by omega)])
theorem turned_row (f : Rc → Rc) {i m : Nat} {L : List Rc} (h : KV w K vs (k.row i (turn f m L))) (hi : i < 3) : RowR w (vs i) (turn f m L) := by
  have := h.row i hi
  have e : (k.row i (turn f m L)).cs i = turn f m L := upd_same _ _ _
  rwa [e] at this
set_option maxHeartbeats 2000000 in
set_option maxRecDepth 100000 in
theorem cUnlocked (h : KV w K vs k) (hc : c < 3) :
    Calls Try.prog 35 #[.pointer (some ⟨K, 0, none⟩), .int .i64 c] w fun e w' => e = .returned (.tuple #[]) ∧ KV w' K vs (k.each (Rc.noIns c)) ∧ Kept (SB K vs) w w' := by
  have HA := Lib.hid h
  clear h
  go_enter Try.func35, Try.ntmps35
  go_wp2
  go_loopw [4] (fun x wr => ∃ i : Nat, i ≤ 3 ∧ x = .int .i64 i ∧ Hid (KV wr K vs (k.upto (Rc.noIns c) i) ∧ Kept (SB K vs) w wr)) (fun x _ => 3 - (intOf x).toNat)
  case atStart => exact ⟨0, by omega, rfl, Lib.hid ⟨upto_zero _ HA.out, Kept.refl _ _⟩⟩
  case round =>
    obtain ⟨i, hi3, rfl, HR⟩ := hrel
    by_cases hlt : i < 3
    · have hi : decide ((i : Int) < 3) = true := decide_eq_true (by omega)
      go_wp2
      go_loopw [5] (fun x wx => ∃ m : Nat, m ≤ (k.cs i).length ∧ x = .int .i64 m ∧ Hid (KV wx K vs ((k.upto (Rc.noIns c) i).row i (turn (Rc.noIns c) m (k.cs i))) ∧ Kept (SB K vs) w wx)) (fun x _ => (k.cs i).length - (intOf x).toNat)
      case atStart => exact ⟨0, by omega, rfl, Lib.hid ⟨upto_in _ HR.out.1, HR.out.2⟩⟩
      case round =>
        clear HR
        obtain ⟨m, hm, rfl, HX⟩ := hrel
        have cc := HX.out.1.cc hlt
        have hrow := turned_row _ HX.out.1 hlt
        by_cases hml : m < (k.cs i).length
        · obtain ⟨b, O, cap, cur, hv, hc1, hc2, hb, _, hat⟩ := hrow.some (by rw [turn_length]; omega)
          rw [turn_length] at hv hc1 hat
          have hcell := hat m hml (1 + c) (by omega)
          rw [rc_ins _ (by omega), ← Nat.add_assoc] at hcell
          have hfree := self_free hb (O + m * 17 + 1 + c)
          obtain ⟨s1, s2⟩ := HX.out.1.turn (off := 1 + c) (fun x j hj => noIns_cells (by omega) x j hj) (by omega) hlt hml hv
          rw [← Nat.add_assoc] at s1 s2
          have HS := Lib.hid (And.intro s1 (HX.out.2.trans s2))
          rw [hv] at cc
          have hc8 : c < 8 := by omega
          clear hat hrow hv s1 s2 hb HX
          go_wp2
          go_roundw
          case rel => exact ⟨m + 1, by omega, by go_num, HS⟩
          case measure => simp [intOf]; omega
        · obtain rfl : m = (k.cs i).length := by omega
          obtain ⟨a, cap, hv, _, _⟩ := hrow.shape
          rw [turn_length] at hv
          rw [hv] at cc
          have HO := Lib.hid (And.intro (upto_out _ HX.out.1) HX.out.2)
          clear hrow hv HX
          go_wp2
          go_roundw
          case rel => exact ⟨i + 1, by omega, by go_num, HO⟩
          case measure => simp [intOf]; omega
    · obtain rfl : i = 3 := by omega
      go_wp2
      go_end0
      exact ⟨rfl, upto_three _ HR.out.1, HR.out.2⟩
set_option maxHeartbeats 2000000 in
set_option maxRecDepth 100000 in
theorem cReported (h : KV w K vs k) (hc : c < 3) :
    Calls Try.prog 36 #[.pointer (some ⟨K, 0, none⟩), .int .i64 c] w fun e w' => e = .returned (.tuple #[]) ∧ KV w' K vs (k.each (Rc.noSil c)) ∧ Kept (SB K vs) w w' := by
  have HA := Lib.hid h
  clear h
  go_enter Try.func36, Try.ntmps36
  go_wp2
  go_loopw [4] (fun x wr => ∃ i : Nat, i ≤ 3 ∧ x = .int .i64 i ∧ Hid (KV wr K vs (k.upto (Rc.noSil c) i) ∧ Kept (SB K vs) w wr)) (fun x _ => 3 - (intOf x).toNat)
  case atStart => exact ⟨0, by omega, rfl, Lib.hid ⟨upto_zero _ HA.out, Kept.refl _ _⟩⟩
  case round =>
    obtain ⟨i, hi3, rfl, HR⟩ := hrel
    by_cases hlt : i < 3
    · have hi : decide ((i : Int) < 3) = true := decide_eq_true (by omega)
      go_wp2
      go_loopw [5] (fun x wx => ∃ m : Nat, m ≤ (k.cs i).length ∧ x = .int .i64 m ∧ Hid (KV wx K vs ((k.upto (Rc.noSil c) i).row i (turn (Rc.noSil c) m (k.cs i))) ∧ Kept (SB K vs) w wx)) (fun x _ => (k.cs i).length - (intOf x).toNat)
      case atStart => exact ⟨0, by omega, rfl, Lib.hid ⟨upto_in _ HR.out.1, HR.out.2⟩⟩
      case round =>
        clear HR
        obtain ⟨m, hm, rfl, HX⟩ := hrel
        have cc := HX.out.1.cc hlt
        have hrow := turned_row _ HX.out.1 hlt
        by_cases hml : m < (k.cs i).length
        · obtain ⟨b, O, cap, cur, hv, hc1, hc2, hb, _, hat⟩ := hrow.some (by rw [turn_length]; omega)
          rw [turn_length] at hv hc1 hat
          have hcell := hat m hml (9 + c) (by omega)
          rw [rc_sil _ (by omega), ← Nat.add_assoc] at hcell
          have hfree := self_free hb (O + m * 17 + 9 + c)
          obtain ⟨s1, s2⟩ := HX.out.1.turn (off := 9 + c) (fun x j hj => noSil_cells (by omega) x j hj) (by omega) hlt hml hv
          rw [← Nat.add_assoc] at s1 s2
          have HS := Lib.hid (And.intro s1 (HX.out.2.trans s2))
          rw [hv] at cc
          have hc8 : c < 8 := by omega
          clear hat hrow hv s1 s2 hb HX
          go_wp2
          go_roundw
          case rel => exact ⟨m + 1, by omega, by go_num, HS⟩
          case measure => simp [intOf]; omega
        · obtain rfl : m = (k.cs i).length := by omega
          obtain ⟨a, cap, hv, _, _⟩ := hrow.shape
          rw [turn_length] at hv
          rw [hv] at cc
          have HO := Lib.hid (And.intro (upto_out _ HX.out.1) HX.out.2)
          clear hrow hv HX
          go_wp2
          go_roundw
          case rel => exact ⟨i + 1, by omega, by go_num, HO⟩
          case measure => simp [intOf]; omega
    · obtain rfl : i = 3 := by omega
      go_wp2
      go_end0
      exact ⟨rfl, upto_three _ HR.out.1, HR.out.2⟩
end
end Go.Proofs.Ytnnpclknlccmiaa
