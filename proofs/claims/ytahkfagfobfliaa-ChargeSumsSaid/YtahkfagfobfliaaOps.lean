/-
  Used, Most, Limit, Up, Down of the program's counters.
-/
import Derived.Test.YtahkfagfobfliaaCv
import Derived.BigQuiet
set_option linter.unusedVariables false
set_option linter.unusedSimpArgs false
namespace Go.Proofs.Ytahkfagfobfliaa
open Go Go.RowKit

def usedF (t : Ct) (x : Int) : Int := if isG x then t.us x.toNat else 0
def mostF (t : Ct) (x : Int) : Int := if isG x then t.mo x.toNat else 0
theorem askE_n0 (x : Int) : askE x 0 = if isG x then 0 else 110 := by
  unfold askE
  by_cases h : isG x
  · simp [h, isN]
  · simp [h]
theorem isG.nat' {g : Int} (h : isG g) : ∃ k : Nat, g = (k : Int) + 1 ∧ k < 16 ∧ g.toNat = k + 1 := ⟨g.toNat - 1, by unfold isG at h; omega, by unfold isG at h; omega, by unfold isG at h; omega⟩
theorem pos_nat {k : Nat} (h1 : 1 ≤ k) (h2 : k ≤ 16) : ∃ j, k = j + 1 ∧ j < 16 := ⟨k - 1, by omega, by omega⟩
theorem askE_ok {k : Nat} {n : Int} (hk : k < 16) (hn : isN n) : askE ((k : Int) + 1) n = 0 := by
  have h : isG ((k : Int) + 1) := by unfold isG; omega
  simp [askE, h, hn]
section
variable {S : Nat → Prop} {w w' : World} {B g : Nat} {t t' : Ct} {p : Option Addr} {x n e : Int} {Ts : List TypeId}
set_option maxHeartbeats 1000000 in
theorem cUsed (h : CV w B g t) (x u : Int) (hu : usedF t x = u) :
    Calls Try.prog 11 #[.pointer (some ⟨B, 0, none⟩), .int .i64 x] w fun e w' => e = .returned (.int .i64 u) ∧ w' = w := by
  have HA := Lib.hid h
  unfold usedF at hu
  by_cases hx : isG x
  · rw [if_pos hx] at hu
    obtain ⟨k, rfl, hk, e⟩ := hx.nat'
    rw [e] at hu
    have cu := h.cu hk
    rw [hu] at cu
    have HC := Lib.hid (askE_ok hk (n := 0) (by unfold isN; omega))
    clear h hx hu e
    go_enter Try.func11, Try.ntmps11
    go_wp2_with (first | (go_at_call 31; refine (cCheck HA.out _ _ _ HC.out).mono ?_; rintro e w1 ⟨rfl, rfl⟩) | (go_at_call 32; refine (cOf HA.out k hk).mono ?_; rintro e w1 ⟨rfl, rfl⟩))
    go_ret
    exact ⟨rfl, rfl⟩
  · rw [if_neg hx] at hu
    subst hu
    have HC : Hid (askE x 0 = 110) := Lib.hid (by rw [askE_n0, if_neg hx])
    clear h hx
    go_enter Try.func11, Try.ntmps11
    go_wp2_with (go_at_call 31; refine (cCheck HA.out _ _ _ HC.out).mono ?_; rintro e w1 ⟨rfl, rfl⟩)
    go_ret
    exact ⟨rfl, rfl⟩
set_option maxHeartbeats 1000000 in
theorem cMost (h : CV w B g t) (x u : Int) (hu : mostF t x = u) :
    Calls Try.prog 13 #[.pointer (some ⟨B, 0, none⟩), .int .i64 x] w fun e w' => e = .returned (.int .i64 u) ∧ w' = w := by
  have HA := Lib.hid h
  unfold mostF at hu
  by_cases hx : isG x
  · rw [if_pos hx] at hu
    obtain ⟨k, rfl, hk, e⟩ := hx.nat'
    rw [e] at hu
    have cu := h.cm hk
    rw [hu] at cu
    have HC := Lib.hid (askE_ok hk (n := 0) (by unfold isN; omega))
    clear h hx hu e
    go_enter Try.func13, Try.ntmps13
    go_wp2_with (first | (go_at_call 31; refine (cCheck HA.out _ _ _ HC.out).mono ?_; rintro e w1 ⟨rfl, rfl⟩) | (go_at_call 32; refine (cOf HA.out k hk).mono ?_; rintro e w1 ⟨rfl, rfl⟩))
    go_ret
    exact ⟨rfl, rfl⟩
  · rw [if_neg hx] at hu
    subst hu
    have HC : Hid (askE x 0 = 110) := Lib.hid (by rw [askE_n0, if_neg hx])
    clear h hx
    go_enter Try.func13, Try.ntmps13
    go_wp2_with (go_at_call 31; refine (cCheck HA.out _ _ _ HC.out).mono ?_; rintro e w1 ⟨rfl, rfl⟩)
    go_ret
    exact ⟨rfl, rfl⟩
theorem ask_ne {q : Int} (h : q ≠ 0) : (q != 0) = true := by simp [h]
set_option maxHeartbeats 1000000 in
theorem cLimit (h : CV w B g t) (hr : LmIs t x n e t') :
    Calls Try.prog 17 #[.pointer (some ⟨B, 0, none⟩), .int .i64 x, .int .i64 n] w fun e' w' => e' = .returned (.int .i64 e) ∧ CV w' B g t' ∧ Kept (· = g) w w' := by
  have HA := Lib.hid h
  cases hr with
  | bad hq =>
    have hne := ask_ne hq
    obtain ⟨q, hq2⟩ : ∃ q, askE x n = q := ⟨_, rfl⟩
    rw [hq2] at hne ⊢
    have HC := Lib.hid hq2
    clear h hq hq2
    go_enter Try.func17, Try.ntmps17
    go_wp2_with (go_at_call 31; refine (cCheck HA.out _ _ _ HC.out).mono ?_; rintro e w1 ⟨rfl, rfl⟩)
    go_ret
    exact ⟨rfl, HA.out, Kept.refl _ _⟩
  | ok k hg h1 h2 hn =>
    obtain ⟨k, rfl, hk⟩ := pos_nat h1 h2
    obtain rfl : x = (k : Int) + 1 := by omega
    have cm := h.cm hk
    have fm := h.fr (k * 2 + 1)
    have HC := Lib.hid (askE_ok hk hn)
    have HF := Lib.hid (h.setM hk n)
    have HK := Lib.hid (kept_one (w := w) (g := g) (.int .i64 n) (k * 2 + 1))
    clear h h1 h2 hg hn
    go_enter Try.func17, Try.ntmps17
    go_wp2_with (first | (go_at_call 31; refine (cCheck HA.out _ _ _ HC.out).mono ?_; rintro e w1 ⟨rfl, rfl⟩) | (go_at_call 32; refine (cOf HA.out k hk).mono ?_; rintro e w1 ⟨rfl, rfl⟩))
    go_ret
    exact ⟨rfl, HF.out, HK.out⟩
set_option maxHeartbeats 1000000 in
theorem cUp (h : CV w B g t) (hc : CI t) (hr : UpIs t x n e t') :
    Calls Try.prog 18 #[.pointer (some ⟨B, 0, none⟩), .int .i64 x, .int .i64 n] w fun e' w' => e' = .returned (.int .i64 e) ∧ CV w' B g t' ∧ Kept (· = g) w w' := by
  have HA := Lib.hid h
  cases hr with
  | bad hq =>
    have hne := ask_ne hq
    obtain ⟨q, hq2⟩ : ∃ q, askE x n = q := ⟨_, rfl⟩
    rw [hq2] at hne ⊢
    have HC := Lib.hid hq2
    clear h hq hq2
    go_enter Try.func18, Try.ntmps18
    go_wp2_with (go_at_call 31; refine (cCheck HA.out _ _ _ HC.out).mono ?_; rintro e w1 ⟨rfl, rfl⟩)
    go_ret
    exact ⟨rfl, HA.out, Kept.refl _ _⟩
  | full k hg h1 h2 hn hf =>
    obtain ⟨k, rfl, hk⟩ := pos_nat h1 h2
    obtain rfl : x = (k : Int) + 1 := by omega
    have cu := h.cu hk
    have cm := h.cm hk
    have HC := Lib.hid (askE_ok hk hn)
    have b1 := hc.u _ h1 h2
    have b2 := hc.m _ h1 h2
    have hw : IntKind.i64.wrap (t.us (k + 1) + n) = t.us (k + 1) + n := IntWalk.i64_in _ (by unfold isN at *; omega)
    generalize t.us (k + 1) = U at *
    generalize t.mo (k + 1) = M at *
    clear h h1 h2 hg hn b1 b2
    go_enter Try.func18, Try.ntmps18
    go_wp2_with (first | (go_at_call 31; refine (cCheck HA.out _ _ _ HC.out).mono ?_; rintro e w1 ⟨rfl, rfl⟩) | (go_at_call 32; refine (cOf HA.out k hk).mono ?_; rintro e w1 ⟨rfl, rfl⟩))
    go_quiet (fail)
    go_wp2
    go_ret
    exact ⟨rfl, HA.out.below (below_drewN (Below.refl _ _) _), (Kept.refl _ _).drewN _⟩
  | ok k hg h1 h2 hn hf =>
    obtain ⟨k, rfl, hk⟩ := pos_nat h1 h2
    obtain rfl : x = (k : Int) + 1 := by omega
    have cu := h.cu hk
    have cm := h.cm hk
    have fu := h.fr (k * 2)
    have HC := Lib.hid (askE_ok hk hn)
    have b1 := hc.u _ h1 h2
    have b2 := hc.m _ h1 h2
    have hw : IntKind.i64.wrap (t.us (k + 1) + n) = t.us (k + 1) + n := IntWalk.i64_in _ (by unfold isN at *; omega)
    have hnf : ¬ t.mo (k + 1) < t.us (k + 1) + n := by omega
    have HF : Hid (∀ m, CV ((w.drewN m).setCell ⟨g, k * 2, none⟩ (.int .i64 (t.us (k + 1) + n))) B g (t.up (k + 1) n)) := Lib.hid (fun m => (h.below (below_drewN (Below.refl _ _) m)).setU hk _)
    have HK : Hid (∀ m, Kept (· = g) w ((w.drewN m).setCell ⟨g, k * 2, none⟩ (.int .i64 (t.us (k + 1) + n)))) := Lib.hid (fun m => ((Kept.refl _ w).drewN m).trans (kept_one _ _))
    generalize t.us (k + 1) = U at *
    generalize t.mo (k + 1) = M at *
    clear h h1 h2 hg hn b1 b2 hf
    go_enter Try.func18, Try.ntmps18
    go_wp2_with (first | (go_at_call 31; refine (cCheck HA.out _ _ _ HC.out).mono ?_; rintro e w1 ⟨rfl, rfl⟩) | (go_at_call 32; refine (cOf HA.out k hk).mono ?_; rintro e w1 ⟨rfl, rfl⟩))
    go_quiet (fail)
    go_wp2
    go_ret
    exact ⟨rfl, HF.out _, HK.out _⟩
set_option maxHeartbeats 1000000 in
theorem cDown (h : CV w B g t) (hc : CI t) (hr : DnIs t x n e t') :
    Calls Try.prog 19 #[.pointer (some ⟨B, 0, none⟩), .int .i64 x, .int .i64 n] w fun e' w' => e' = .returned (.int .i64 e) ∧ CV w' B g t' ∧ Kept (· = g) w w' := by
  have HA := Lib.hid h
  cases hr with
  | bad hq =>
    have hne := ask_ne hq
    obtain ⟨q, hq2⟩ : ∃ q, askE x n = q := ⟨_, rfl⟩
    rw [hq2] at hne ⊢
    have HC := Lib.hid hq2
    clear h hq hq2
    go_enter Try.func19, Try.ntmps19
    go_wp2_with (go_at_call 31; refine (cCheck HA.out _ _ _ HC.out).mono ?_; rintro e w1 ⟨rfl, rfl⟩)
    go_ret
    exact ⟨rfl, HA.out, Kept.refl _ _⟩
  | few k hg h1 h2 hn hf =>
    obtain ⟨k, rfl, hk⟩ := pos_nat h1 h2
    obtain rfl : x = (k : Int) + 1 := by omega
    have cu := h.cu hk
    have HC := Lib.hid (askE_ok hk hn)
    generalize t.us (k + 1) = U at *
    clear h h1 h2 hg hn
    go_enter Try.func19, Try.ntmps19
    go_wp2_with (first | (go_at_call 31; refine (cCheck HA.out _ _ _ HC.out).mono ?_; rintro e w1 ⟨rfl, rfl⟩) | (go_at_call 32; refine (cOf HA.out k hk).mono ?_; rintro e w1 ⟨rfl, rfl⟩))
    go_ret
    exact ⟨rfl, HA.out, Kept.refl _ _⟩
  | ok k hg h1 h2 hn hf =>
    obtain ⟨k, rfl, hk⟩ := pos_nat h1 h2
    obtain rfl : x = (k : Int) + 1 := by omega
    have cu := h.cu hk
    have fu := h.fr (k * 2)
    have HC := Lib.hid (askE_ok hk hn)
    have b1 := hc.u _ h1 h2
    have hw : IntKind.i64.wrap (t.us (k + 1) - n) = t.us (k + 1) - n := IntWalk.i64_in _ (by unfold isN at *; omega)
    have hnf : ¬ t.us (k + 1) < n := by omega
    have HF : Hid (CV (w.setCell ⟨g, k * 2, none⟩ (.int .i64 (t.us (k + 1) - n))) B g (t.dn (k + 1) n)) := Lib.hid (h.setU hk _)
    have HK : Hid (Kept (· = g) w (w.setCell ⟨g, k * 2, none⟩ (.int .i64 (t.us (k + 1) - n)))) := Lib.hid (kept_one _ _)
    generalize t.us (k + 1) = U at *
    clear h h1 h2 hg hn b1 hf
    go_enter Try.func19, Try.ntmps19
    go_wp2_with (first | (go_at_call 31; refine (cCheck HA.out _ _ _ HC.out).mono ?_; rintro e w1 ⟨rfl, rfl⟩) | (go_at_call 32; refine (cOf HA.out k hk).mono ?_; rintro e w1 ⟨rfl, rfl⟩))
    go_ret
    exact ⟨rfl, HF.out, HK.out⟩
end
end Go.Proofs.Ytahkfagfobfliaa
