/-
  Head, Free, of the document's answer.
-/
import Derived.Test.YtpohfecbogppkaaRef
set_option linter.unusedVariables false
set_option linter.unusedSimpArgs false
namespace Go.Proofs.Ytpohfecbogppkaa
open Go Go.RowKit

set_option maxHeartbeats 4000000 in
set_option maxRecDepth 100000 in
theorem rFree (u : Value) (l : List Pg) (c : Nat) (hc : freeF l = c) (w : World) (hs : ShowP w u l) :
    Calls Try.prog 46 #[u] w fun e w' => e = .returned (.int .i64 (c : Int)) ∧ Below w.heap.size w w' := by
  obtain ⟨ao, cap, rfl, hcap, hat⟩ := id hs.form
  by_cases hv : Valid l
  rotate_left
  · have HC : Hid (c = 0) := Lib.hid (by rw [← hc]; exact free_no hv)
    have HK := Lib.hid (chk_no hv)
    clear hc hv
    go_enter Try.func46, Try.ntmps46
    go_wp2_with (go_at_call 50; refine (rCheck _ l 50 HK.out _ hs).mono ?_; rintro e w1 ⟨rfl, hb⟩)
    go_ret
    exact ⟨by rw [HC.out]; rfl, hb⟩
  have HC : Hid (freeTo l l.length = c) := Lib.hid (by rw [← hc]; exact (free_yes hv).symm)
  have HK := Lib.hid (chk_ok hv)
  have hl := hv.2.1
  have HAT := Lib.hid hat
  have HS := Lib.hid hs
  clear hc hv hat hs
  go_enter Try.func46, Try.ntmps46
  go_wp2_with fail
  refine (rCheck _ l 0 HK.out _ HS.out).mono ?_
  rintro e w1 ⟨rfl, hb⟩
  have HS1 := Lib.hid (HS.out.below hb)
  have HB := Lib.hid hb
  clear hb
  go_wp2
  go_loopw [3, 4] (fun n x wr => ∃ k : Nat, k ≤ l.length ∧ x = .int .i64 k ∧ n = .int .i64 (freeTo l k : Nat) ∧ wr = w1) (fun _ x _ => l.length - (intOf x).toNat)
  case atStart => exact ⟨0, by omega, rfl, rfl, rfl⟩
  case round =>
    obtain ⟨k, hk, rfl, rfl, rfl⟩ := hrel
    have hF := freeTo_le l k
    by_cases hlt : k < l.length
    · have hbl := beg_le l k
      have HT : Hid (freeTo l (k + 1) = freeTo l k + (if (pg l (beg l k)).kind = 0 then 1 else 0)) := Lib.hid rfl
      obtain ⟨b, hb⟩ : ∃ b, beg l k = b := ⟨_, rfl⟩
      have HBG := Lib.hid hb
      rw [hb] at hbl HT
      clear hb
      obtain ⟨b1, o1, rfl, c0, _, _⟩ := HAT.out b (by omega)
      replace c0 := cell_keep HB.out c0
      generalize freeTo l k = f at hF HT
      generalize (pg l b).kind = q at c0 HT
      by_cases hq : q = 0
      · have HT1 : Hid (freeTo l (k + 1) = f + 1) := Lib.hid (by rw [HT.out, if_pos hq])
        subst hq
        clear HT
        go_wp2_with (go_at_call 51; refine (rBegin _ l k b hl hlt HBG.out _ HS1.out).mono ?_; rintro e w2 ⟨rfl, rfl⟩)
        go_roundw
        case rel => exact ⟨k + 1, by omega, by go_num, by rw [HT1.out]; go_num, by first | trivial | rfl⟩
        case measure => simp [intOf]; omega
      · have HT1 : Hid (freeTo l (k + 1) = f) := Lib.hid (by rw [HT.out, if_neg hq]; rfl)
        have hqn : (q == 0) = false := by simpa using hq
        clear HT
        go_wp2_with (go_at_call 51; refine (rBegin _ l k b hl hlt HBG.out _ HS1.out).mono ?_; rintro e w2 ⟨rfl, rfl⟩)
        go_roundw
        case rel => exact ⟨k + 1, by omega, by go_num, by rw [HT1.out], by first | trivial | rfl⟩
        case measure => simp [intOf]; omega
    · obtain rfl : k = l.length := by omega
      have hc1 := HC.out
      rw [hc1]
      go_wp2
      go_ret
      exact ⟨rfl, HB.out⟩
end Go.Proofs.Ytpohfecbogppkaa
