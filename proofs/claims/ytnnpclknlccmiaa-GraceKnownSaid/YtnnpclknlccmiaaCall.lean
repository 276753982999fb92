/-
  Call, Poll, New of the program.
-/
import Derived.Test.YtnnpclknlccmiaaLock
set_option linter.unusedVariables false
set_option linter.unusedSimpArgs false
namespace Go.Proofs.Ytnnpclknlccmiaa
open Go Go.RowKit

theorem lit_one' (w : World) (a d : Int) (K : Nat) (hK : w.heap.size = K) : ShowW (w.alloc (.cells #[.int .i64 a, .int .i64 d] 82)) (.slice (some ⟨K, 0, none⟩) 1 1) [Wt.mk a d] := by
  subst hK
  exact lit_one w a d
theorem key3 {w0 W : World} {p q r : Addr} {u v x : Value} (h : w0.cell? p = some u ∧ w0.cell? q = some v ∧ w0.cell? r = some x) (hb : Below w0.heap.size w0 W) : (W.cell? p = some u ∧ W.cell? q = some v ∧ W.cell? r = some x) ∧ Below w0.heap.size w0 W :=
  ⟨⟨cell_keep hb h.1, cell_keep hb h.2.1, cell_keep hb h.2.2⟩, hb⟩
/-- an error that no list goes with -/
def PollOut (w : World) (B p n : Nat) (g' : Gr) (l : List Int) (er : Int) (e : Ending) (w' : World) : Prop :=
  ∃ vs' ao m cap, m = l.length ∧ e = .returned (.tuple #[.slice ao m cap, .int .i64 er]) ∧ GV w' B p n vs' g' ∧ Kept (OwnG B p) w w' ∧ OwnI w.heap.size w' (.slice ao m cap) l
section
variable {w w' : World} {B p n b : Nat} {vs : Nat → Value} {g g' : Gr} {cpu id er : Int} {l : List Int}
set_option maxHeartbeats 2000000 in
set_option maxRecDepth 100000 in
theorem cPoll (h : GV w B p n vs g) (hI : GI n b g) (hr : PollIs n g cpu l er g') :
    Calls Try.prog 13 #[.pointer (some ⟨B, 0, none⟩), .int .i64 cpu] w (PollOut w B p n g' l er) := by
  have HA := Lib.hid h
  have h1 := hI.n1
  cases hr with
  | no _ hp =>
    clear h hI
    go_enter Try.func13, Try.ntmps13
    go_wp2_with fail
    refine (cAtNo HA.out h1 hp).mono ?_
    rintro e w1 ⟨rfl, rfl⟩
    go_wp2
    go_ret2
    exact ⟨_, none, 0, 0, rfl, rfl, HA.out, Kept.refl _ _, OwnI.nil _ _⟩
  | ok c hc =>
    have e1 := h.cr hc
    have ef := h.ff (c * 2 + 1)
    have e2 := h.c1
    have hown := h.own hc
    obtain ⟨va, vc, hv, _, _⟩ := own_shape hown
    rw [hv] at e1 hown
    have hlen := hI.len hc
    have HC := Lib.hid (hI.chk c hc)
    obtain ⟨D, hD⟩ : ∃ D, g.nd = D := ⟨_, rfl⟩
    rw [hD] at e2 ⊢
    have HSR : Hid (∀ (W : World) v r, GV W B p n vs g → OwnA 0 W v r → GV (W.setCell ⟨p, c * 2 + 1, none⟩ v) B p n (upd vs c v) (g.row c r) ∧ Kept (OwnG B p) W (W.setCell ⟨p, c * 2 + 1, none⟩ v)) :=
      Lib.hid (fun W v r hg ho => set_row hg hc ho)
    have HX := Lib.hid (And.intro e1 e2)
    generalize g.rs c = r at *
    have HO := Lib.hid hown
    clear h hI hv hown hD
    go_enter Try.func13, Try.ntmps13
    go_wp2_with fail
    refine (cAt HA.out h1 hc).mono ?_
    rintro e w1 ⟨rfl, rfl⟩
    go_wp2
    go_region_held3 (fun W => (W.cell? ⟨p, c * 2 + 1, none⟩ = some (.slice va r.length vc) ∧ W.cell? ⟨B, 1, none⟩ = some (.int .i64 D)) ∧ Below w1.heap.size w1 W)
      (first | exact key2 HX.out (by assumption) | exact key2 HX.out (Below.drew (Below.refl _ _)))
      (first
        | (go_at_call 40; refine (cQueueOf _ r _ (own_below HO.out (show _ ∧ Below w1.heap.size w1 _ from by assumption).2) hlen).mono ?_; rintro e w5 ⟨qa, qc, rfl, ho5, h5⟩; have hb5 : Below w1.heap.size w1 w5 := below_then (show _ ∧ Below w1.heap.size w1 _ from by assumption).2 h5)
        | (go_at_call 39; refine (cReady _ r D _ (OwnW.shows ho5)).mono ?_; rintro e w6 ⟨ia, ni, ic, ra, nr, rc, hni, hnr, rfl, hoi, how, h6⟩; have hb6 : Below w1.heap.size w1 w6 := below_then hb5 h6; have HN := Lib.hid (And.intro hni hnr); clear hni hnr))
    all_goals
      have HB5 := Lib.hid hb5
      have HB6 := Lib.hid hb6
      have HR := Lib.hid (And.intro hoi how)
      have HQ := Lib.hid (rdy_ok (d := D) HC.out)
      have HCL : Hid (nr ≤ 256) := Lib.hid (by rw [HN.out.2, HQ.out.2, List.length_drop]; omega)
      have hsz := hb5.size
      clear hoi how ho5 hb5 hb6 h5 h6
      rw [HC.out]
      have hf6 := (HA.out.below HB6.out).ff (c * 2 + 1)
      go_wp2_with fail
      refine (cRecordsOf _ (rdyR r D) _ (by have := (OwnW.shows HR.out.2); exact this) (by rw [← HN.out.2]; exact HCL.out)).mono ?_
      rintro e w7 ⟨qa2, qc2, rfl, ho7, h7⟩
      have HB7 := Lib.hid (below_then HB6.out h7)
      have HG7 := HA.out.below HB7.out
      have e7 := HG7.cr hc
      have f7 := HG7.ff (c * 2 + 1)
      have HS := Lib.hid (HSR.out _ _ _ HG7 (ho7.le (Nat.zero_le _)))
      have HI7 := Lib.hid (OwnI.below HR.out.1 h7)
      obtain ⟨m2, hm2⟩ : ∃ m2, (rdyR r D).length = m2 := ⟨_, rfl⟩
      rw [hm2] at HS ⊢
      clear ho7 h7 HG7 hm2 hf6
      go_wp2
      go_ret2
      refine ⟨_, ia, ni, ic, by rw [HN.out.1, HQ.out.1], rfl, (by have := HS.out.1; rw [HQ.out.2] at this; exact this), (Kept.ofBelow HB7.out).trans HS.out.2, ?_⟩
      have h9 := (HI7.out.le (B' := w1.heap.size) hsz)
      rw [HQ.out.1] at h9
      exact own_kept2 (Ts := [56, 75]) h9 HS.out.2 ((HA.out.below HB7.out).typ) (by decide)
end
end Go.Proofs.Ytnnpclknlccmiaa
