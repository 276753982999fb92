/-
  BuddyBack: when all that was given out is back, the pages are whole.
-/
import Derived.Test.YtpohfecbogppkaaPlayed
set_option linter.unusedVariables false
set_option linter.unusedSimpArgs false
namespace Go.Proofs.Ytpohfecbogppkaa
open Go Go.RowKit

theorem heads_le (l : List Pg) (k : Nat) : heads l k ≤ k := by
  unfold heads
  induction k with
  | zero => simp [sumTo]
  | succ k ih =>
    simp only [sumTo]
    have : one (pg l k) ≤ 1 := by unfold one; split <;> omega
    omega
section
variable {W w : World} {B g n N : Nat} {L : List Pg} {f : Nat → Nat} {v : Value}
theorem Pl.free (h : Pl W w B g n L f N v) : freeF L + used L = n := by
  rw [free_yes h.std.valid, ← h.len]
  exact free_used h.std.cov
theorem Pl.whole0 (h : Pl W w B g n L f 0 v) : decide (L = ini L.length) = true ∧ freeF L = n := by
  have h0 := h.many
  refine ⟨decide_eq_true ((std_whole h.std).2 h0), ?_⟩
  have := h.free
  rw [none_used (none_out h0)] at this
  omega
theorem Pl.notWhole (h : Pl W w B g n L f N v) (h0 : 0 < N) : decide (L = ini L.length) = false := by
  refine decide_eq_false (fun e => ?_)
  have := (std_whole h.std).1 e
  rw [h.many] at this
  omega
theorem Pl.gains (h : Pl W w B g n L f N v) {k : Nat} (hk : k < N) : freeF L < freeF (freeL L (f k)) := by
  obtain ⟨h1, h2⟩ := h.outs k hk
  have h3 := free_used_less h.std.cov h1 h2
  have h4 := (pg L (f k)).sz_pos
  have h5 := h.free
  have hs := free_std h.std h1 h2
  have h6 : freeF (freeL L (f k)) + used (freeL L (f k)) = n := by
    rw [free_yes hs.valid, ← h.len, ← freeL_length L (f k)]
    exact free_used hs.cov
  omega
end
set_option maxHeartbeats 16000000 in
set_option maxRecDepth 100000 in
theorem walkBack (pages : Int) (u : Value) (l : List Pg) (turn : Int) (W : World) (hs : ShowP W u l) :
    Calls Try.prog 5 #[.int .i64 pages, u, .int .i64 turn] W fun e w' => e = .returned (.bool true) ∧ Below W.heap.size W w' := by
  have HS := Lib.hid hs
  have hbl := bring_lt pages 300 (by decide)
  obtain ⟨r, hr⟩ : ∃ r, bring pages 300 = r := ⟨_, rfl⟩
  have HR := Lib.hid hr
  have HN : Hid (1 + bring pages 300 = r + 1) := Lib.hid (by omega)
  rw [hr] at hbl
  clear hs hr
  go_enter Try.func5, Try.ntmps5
  go_wp2_with fail
  refine (works _).mono ?_
  rintro e w1 ⟨rfl, hb1⟩
  have HS1 := Lib.hid (HS.out.below hb1)
  have HB1 := Lib.hid hb1
  clear hb1 HS
  go_wp2_with fail
  refine (cPlayed pages _ l (r + 1) HN.out _ HS1.out).mono ?_
  rintro e w2 ⟨B, g, L, f, N, v, rfl, hpl⟩
  obtain ⟨F, hF⟩ : ∃ F, freeF L = F := ⟨_, rfl⟩
  have HF := Lib.hid hF
  have HP := Lib.hid hpl
  clear hpl hF HS1
  go_wp2_with fail
  refine (cLeft HP.out.a F HF.out).mono ?_
  rintro e w3 ⟨rfl, hb3⟩
  have HP3 := Lib.hid (HP.out.below hb3)
  clear hb3 HP
  go_wp2
  go_loopw [2, 8, 9] (fun tn v nn wr => ∃ (x : Int) (N F : Nat), tn = .int .i64 x ∧ nn = .int .i64 F ∧ (∃ a c, v = .slice a N c) ∧ N ≤ 9223372036854775807 ∧ Hid (∃ L f, Pl w1 wr B g (r + 1) L f N v ∧ freeF L = F)) (fun _ v _ _ => match v with | .slice _ k _ => k | _ => 0)
  case atStart =>
    obtain ⟨a, c, e, h1, h2⟩ := own_shape HP3.out.own
    exact ⟨turn, N, F, rfl, rfl, ⟨a, c, e⟩, by omega, Lib.hid ⟨L, f, HP3.out, HF.out⟩⟩
  case round =>
    obtain ⟨x, N, F, rfl, rfl, ⟨a, c, rfl⟩, hNm, HX⟩ := hrel
    obtain ⟨L, f, hpl, hF⟩ := HX.out
    have HP := Lib.hid hpl
    have HF := Lib.hid hF
    clear hpl hF HX
    by_cases h0 : 0 < N
    · obtain ⟨M, rfl⟩ : ∃ M, N = M + 1 := ⟨N - 1, by omega⟩
      obtain ⟨hb, cap, e, hcp, hcells, hfro, hbg⟩ := HP.out.form (by omega)
      cases e
      obtain ⟨k, hk⟩ : ∃ k, bring x (M + 1) = k := ⟨_, rfl⟩
      have hkl : k < M + 1 := by rw [← hk]; exact bring_lt x (M + 1) (by omega)
      have hMl : M + 1 ≤ 1099511627776 := by
        have h1 := HP.out.many
        have h2 : heads L L.length ≤ L.length := heads_le L L.length
        have h3 := HP.out.a.n2
        omega
      have hck := hcells k hkl
      have HNW := Lib.hid (HP.out.notWhole h0)
      have HGN := Lib.hid (HP.out.gains hkl)
      have hFI := HP.out.outs k hkl
      have HFI : Hid (FreeIs L (f k : Int) 0 (freeL L (f k))) := Lib.hid (.ok (f k) hFI.1 hFI.2)
      have HK := Lib.hid hk
      clear hk hFI hcells hfro
      go_wp2_with fail
      refine (cBringLit x (M + 1) _ rfl k HK.out _ (by omega) hMl).mono ?_
      rintro e w4 ⟨rfl, rfl⟩
      go_wp2_with fail
      refine (cWhole HP.out.a false HNW.out).mono ?_
      rintro e w5 ⟨rfl, hb5⟩
      have HP5 := Lib.hid (HP.out.below hb5)
      have hck5 := cell_keep hb5 hck
      clear hb5 HP hck
      go_wp2_with fail
      refine (cFreeB HP5.out.a HP5.out.std HFI.out).mono ?_
      rintro e w6 ⟨rfl, ha6, hk6⟩
      obtain ⟨F2, hF2⟩ : ∃ F2, freeF (freeL L (f k)) = F2 := ⟨_, rfl⟩
      have HF2 := Lib.hid hF2
      have hgt : F < F2 := by have h1 := HGN.out; have h2 := HF.out; omega
      have HA6 := Lib.hid ha6
      have HK6 := Lib.hid hk6
      clear hF2 ha6 hk6 hck5
      go_wp2_with fail
      refine (cLeft HA6.out F2 HF2.out).mono ?_
      rintro e w7 ⟨rfl, hb7⟩
      have HA7 := Lib.hid (HA6.out.below hb7)
      have HK7 := Lib.hid (HK6.out.trans (Kept.ofBelow hb7))
      clear hb7 HA6 HK6
      go_wp2_with fail
      refine (cLeft HA7.out F2 HF2.out).mono ?_
      rintro e w8 ⟨rfl, hb8⟩
      have HA8 := Lib.hid (HA7.out.below hb8)
      have HK8 := Lib.hid (HK7.out.trans (Kept.ofBelow hb8))
      clear hb8 HA7 HK7
      obtain ⟨hcells, hfro⟩ := own_cells (HP5.out.ownKept HK8.out)
      have e1 := hcells M (by omega)
      have e2 := hcells k hkl
      have e3 := hfro k
      have HP9 := Lib.hid (HP5.out.less hkl HA8.out HK8.out)
      clear hcells hfro
      go_wp2
      go_roundw
      case rel => exact ⟨_, M, F2, rfl, rfl, ⟨_, _, rfl⟩, by omega, Lib.hid ⟨_, _, HP9.out, HF2.out⟩⟩
      case measure => dsimp only; omega
    · obtain rfl : N = 0 := by omega
      obtain ⟨hw, hfn⟩ := HP.out.whole0
      have hFr : F = r + 1 := by have := HF.out; omega
      have HW := Lib.hid hw
      subst hFr
      clear hw hfn
      go_wp2_with fail
      refine (cWhole HP.out.a true HW.out).mono ?_
      rintro e w5 ⟨rfl, hb5⟩
      have HB5 := Lib.hid (below_then HB1.out (below_then HP.out.low hb5))
      clear hb5
      go_wp2_with fail
      refine (cBringLit pages 300 _ rfl r HR.out _ (by decide) (by decide)).mono ?_
      rintro e w6 ⟨rfl, rfl⟩
      have heq : (((r : Int) + 1) == 1 + (r : Int)) = true := by rw [beq_iff_eq]; omega
      go_wp2
      go_ret
      exact ⟨rfl, HB5.out⟩
end Go.Proofs.Ytpohfecbogppkaa
