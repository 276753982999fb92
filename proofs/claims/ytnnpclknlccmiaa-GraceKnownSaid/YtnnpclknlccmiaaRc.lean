/-
  Call, Poll, New of the document's answer.
-/
import Derived.Test.YtnnpclknlccmiaaRq
set_option linter.unusedVariables false
set_option linter.unusedSimpArgs false
namespace Go.Proofs.Ytnnpclknlccmiaa
open Go Go.RowKit

def PollOutR (w : World) (B d r m n : Nat) (g' : Gr) (l : List Int) (er : Int) (e : Ending) (w' : World) : Prop :=
  ∃ vs' ao k cap, k = l.length ∧ e = .returned (.tuple #[.slice ao k cap, .int .i64 er]) ∧ RV w' B d r m n vs' g' (anyB g'.aw n) ∧ Kept (OwnR B d r m) w w' ∧ OwnI w.heap.size w' (.slice ao k cap) l
def Gr.beg (g : Gr) (n : Nat) : Gr := { g with aw := allT n }
theorem fine_id {id : Int} (h : 0 ≤ id ∧ id ≤ 9007199254740991) : ¬ id < 0 ∧ ¬ 9007199254740991 < id := by omega
theorem bad_id {id : Int} (h : ¬ (0 ≤ id ∧ id ≤ 9007199254740991)) : id < 0 ∨ (0 ≤ id ∧ ¬ id < 0 ∧ 9007199254740991 < id) := by omega
section
variable {w w' : World} {B d r m n b : Nat} {vs : Nat → Value} {g g' : Gr} {q : Bool} {cpu id er : Int} {l : List Int}
/-- a row that was answered is put in its place: a table of numbers is not it -/
theorem rset_row_ids (h : RV w B d r m n vs g q) {c : Nat} {v : Value} {k : List Wt} {a : Option Addr} {x y z : Nat} {l : List Int} (hc : c < n) (hv : OwnW 0 w v k) (hz : z ≤ w.heap.size) (ho : OwnI z w (.slice a x y) l) : OwnI z (w.setCell ⟨r, c, none⟩ v) (.slice a x y) l := by
  have hk : Kept (· = r) w (w.setCell ⟨r, c, none⟩ v) := Kept.setCell (S := (· = r)) (p := ⟨r, c, none⟩) (Kept.refl _ w) rfl _
  obtain ⟨cc, hb, _⟩ := h.rows
  refine own_kept2 (Ts := [76]) ho hk (fun k e => ?_) (by decide)
  subst e
  exact ⟨cc, _, _, hb, by decide⟩
set_option maxHeartbeats 2000000 in
set_option maxRecDepth 100000 in
theorem rPoll (h : RV w B d r m n vs g (anyB g.aw n)) (hI : GI n b g) (hr : PollIs n g cpu l er g') :
    Calls Try.prog 27 #[.pointer (some ⟨B, 0, none⟩), .int .i64 cpu] w (PollOutR w B d r m n g' l er) := by
  have HA := Lib.hid h
  have hn := hI.n1.2
  cases hr with
  | no _ hp =>
    clear h hI
    go_enter Try.func27, Try.ntmps27
    go_wp2_with fail
    refine (rHas HA.out _ false (hasNo hp)).mono ?_
    rintro e w1 ⟨rfl, rfl⟩
    go_wp2
    go_ret2
    exact ⟨_, none, 0, 0, rfl, rfl, HA.out, Kept.refl _ _, OwnI.nil _ _⟩
  | ok c hc =>
    have c1 := h.c1
    have c2 := h.c2
    have e1 := h.cr hc
    have hown := h.own hc
    obtain ⟨va, vc, hv, _, _⟩ := own_shape hown
    rw [hv] at e1 hown
    have hlen := hI.len hc
    have HC := Lib.hid (hI.chk c hc)
    obtain ⟨D, hD⟩ : ∃ D, g.nd = D := ⟨_, rfl⟩
    rw [hD] at c2 ⊢
    have HSR : Hid (∀ (W : World) v k, RV W B d r m n vs g (anyB g.aw n) → OwnW 0 W v k → RV (W.setCell ⟨r, c, none⟩ v) B d r m n (upd vs c v) (g.row c k) (anyB g.aw n) ∧ Kept (OwnR B d r m) W (W.setCell ⟨r, c, none⟩ v)) :=
      Lib.hid (fun W v k hg ho => rset_row hg hc ho)
    have HX := Lib.hid (And.intro c1 (And.intro e1 c2))
    have hdc : decide (c < n) = true := decide_eq_true hc
    generalize g.rs c = R at *
    have HO := Lib.hid hown.shows
    clear h hI hv hown hD
    go_enter Try.func27, Try.ntmps27
    go_wp2_with fail
    refine (rHas HA.out _ true (hasYes hc)).mono ?_
    rintro e w1 ⟨rfl, rfl⟩
    go_wp2
    go_region_held3 (fun W => (W.cell? ⟨B, 1, none⟩ = some (.slice (some ⟨r, 0, none⟩) n n) ∧ W.cell? ⟨r, c, none⟩ = some (.slice va R.length vc) ∧ W.cell? ⟨B, 2, none⟩ = some (.int .i64 D)) ∧ Below w1.heap.size w1 W)
      (first | exact key3 HX.out (by assumption) | exact key3 HX.out (Below.drew (Below.refl _ _)))
      (first
        | (go_at_call 52; refine (rReady _ R D _ (HO.out.below (show _ ∧ Below w1.heap.size w1 _ from by assumption).2)).mono ?_; rintro e w6 ⟨ia, ni, ic, ra, nr, rc, hni, hnr, rfl, hoi, how, h6⟩; have hb5 := (show _ ∧ Below w1.heap.size w1 _ from by assumption).2.size; have hb6 : Below w1.heap.size w1 w6 := below_then (show _ ∧ Below w1.heap.size w1 _ from by assumption).2 h6; have HN := Lib.hid (And.intro hni hnr); clear hni hnr))
    all_goals
      have HB6 := Lib.hid hb6
      have HR := Lib.hid (And.intro (OwnI.le hoi hb5) how)
      have HQ := Lib.hid (rdy_ok (d := D) HC.out)
      have HG6 := HA.out.below hb6
      have k1 := HG6.c1
      have k2 := HG6.cr hc
      have kf := HG6.fr c
      have HS := Lib.hid (HSR.out _ _ _ HG6 (how.le (Nat.zero_le _)))
      have HI9 := Lib.hid (rset_row_ids HG6 hc (how.le (Nat.zero_le _)) hb6.size (OwnI.le hoi hb5))
      clear hoi how hb6 h6 HG6 hb5
      rw [HC.out]
      go_wp2
      go_ret2
      have h9 := HS.out.1
      have h8 := HI9.out
      rw [HQ.out.2] at h9
      rw [HQ.out.1] at h8
      exact ⟨_, ia, ni, ic, by rw [HN.out.1, HQ.out.1], rfl, h9, (Kept.ofBelow HB6.out).trans HS.out.2, h8⟩
set_option maxHeartbeats 4000000 in
set_option maxRecDepth 100000 in
theorem rCall (h : RV w B d r m n vs g (anyB g.aw n)) (hI : GI n b g) (hb : b ≤ 1000) (hr : CallIs n g cpu id er g') :
    Calls Try.prog 26 #[.pointer (some ⟨B, 0, none⟩), .int .i64 cpu, .int .i64 id] w (R1 w B d r m n g' er) := by
  have HA := Lib.hid h
  have hn := hI.n1.2
  cases hr with
  | no _ _ hp =>
    clear h hI
    go_enter Try.func26, Try.ntmps26
    go_wp2_with fail
    refine (rHas HA.out _ false (hasNo hp)).mono ?_
    rintro e w1 ⟨rfl, rfl⟩
    go_wp2
    go_ret
    exact ⟨_, rfl, HA.out, Kept.refl _ _⟩
  | arg c _ hc hi =>
    clear h hI
    rcases bad_id hi with h0 | ⟨h0, h00, h2⟩
    · clear hi
      go_enter Try.func26, Try.ntmps26
      go_wp2_with fail
      refine (rHas HA.out _ true (hasYes hc)).mono ?_
      rintro e w1 ⟨rfl, rfl⟩
      go_wp2
      go_ret
      exact ⟨_, rfl, HA.out, Kept.refl _ _⟩
    · clear hi
      go_enter Try.func26, Try.ntmps26
      go_wp2_with fail
      refine (rHas HA.out _ true (hasYes hc)).mono ?_
      rintro e w1 ⟨rfl, rfl⟩
      go_wp2
      go_ret
      exact ⟨_, rfl, HA.out, Kept.refl _ _⟩
  | full c _ hc hi hl =>
    have c1 := h.c1
    have e1 := h.cr hc
    obtain ⟨va, vc, hv, _, _⟩ := own_shape (h.own hc)
    rw [hv, hl] at e1
    obtain ⟨i1, i2⟩ := fine_id hi
    clear h hI hv hl hi
    go_enter Try.func26, Try.ntmps26
    go_wp2_with fail
    refine (rHas HA.out _ true (hasYes hc)).mono ?_
    rintro e w1 ⟨rfl, rfl⟩
    go_wp2
    go_ret
    exact ⟨_, rfl, HA.out, Kept.refl _ _⟩
  | first c _ hc hi hl hq =>
    have c1 := h.c1
    have c2 := h.c2
    have c3 := h.c3
    rw [hq] at c3
    have e1 := h.cr hc
    have hown := h.own hc
    obtain ⟨va, vc, hv, _, _⟩ := own_shape hown
    rw [hv] at e1 hown
    have hlen := hI.len hc
    have HAD : Hid (addF (g.rs c) ⟨id, (g.nd : Int) + 1⟩ = 0 ∧ addL (g.rs c) ⟨id, (g.nd : Int) + 1⟩ = g.rs c ++ [⟨id, (g.nd : Int) + 1⟩]) := Lib.hid (add_yes (hI.chk c hc) (hI.snoc hb hc hi hl hq))
    obtain ⟨i1, i2⟩ := fine_id hi
    have hbig := hI.big
    have HT := Lib.hid (any_allT hI.n1.1)
    have HSR : Hid (∀ (W : World) v k, RV W B d r m n vs { g with aw := allT n } true → OwnW 0 W v k → RV (W.setCell ⟨r, c, none⟩ v) B d r m n (upd vs c v) (g.row2 n c k) true ∧ Kept (OwnR B d r m) W (W.setCell ⟨r, c, none⟩ v)) :=
      Lib.hid (fun W v k hg ho => rset_row hg hc ho)
    have HCR : Hid (∀ (W : World) q', RV W B d r m n vs (g.beg n) q' → W.cell? ⟨r, c, none⟩ = some (.slice va (g.rs c).length vc) ∧ W.cell? ⟨B, 2, none⟩ = some (.int .i64 g.nd) ∧ OwnW 0 W (.slice va (g.rs c).length vc) (g.rs c)) :=
      Lib.hid (fun W q' hg => ⟨by rw [hg.cr hc, hv], hg.c2, by have := hg.own hc; rw [hv] at this; exact this⟩)
    obtain ⟨D, hD⟩ : ∃ D, g.nd = D := ⟨_, rfl⟩
    rw [hD] at c2 hbig HAD HCR ⊢
    have hD1 : D ≤ 1000 := by omega
    obtain ⟨R, hrr⟩ : ∃ R, g.rs c = R := ⟨_, rfl⟩
    rw [hrr] at HAD hlen e1 HCR hl hown ⊢
    have hne : ((R.length : Int) == 256) = false := by simp; omega
    clear h hI hv hl hi hq hbig hD hrr hown
    go_enter Try.func26, Try.ntmps26
    go_wp2_with fail
    refine (rHas HA.out _ true (hasYes hc)).mono ?_
    rintro e w1 ⟨rfl, rfl⟩
    go_wp2_with fail
    refine (rBegin HA.out hn).mono ?_
    rintro e w2 ⟨rfl, hg2, hk2⟩
    have HB2 := Lib.hid (And.intro hg2 hk2)
    have k1 := hg2.c1
    obtain ⟨kr, k2, ko⟩ := HCR.out _ _ hg2
    have HO := Lib.hid ko.shows
    clear hg2 hk2 ko c1 c2 c3 e1
    go_wp2_with fail
    refine (rAdd _ R id ((D : Int) + 1) _ HO.out).mono ?_
    rintro e w3 ⟨la, ln, lc, hln, rfl, how, h3⟩
    rw [HAD.out.1]
    have HB3 := Lib.hid h3
    have HG3 := HB2.out.1.below h3
    have q1 := HG3.c1
    have qr := HG3.cr hc
    have qf := HG3.fr c
    have HS := Lib.hid (HSR.out _ _ _ HG3 (how.le (Nat.zero_le _)))
    clear hln how h3 HG3 k1 kr k2
    go_wp2
    go_ret
    have h9 := HS.out.1
    rw [HAD.out.2] at h9
    exact ⟨_, rfl, h9.flag HT.out.symm, (HB2.out.2.trans (Kept.ofBelow HB3.out)).trans HS.out.2⟩
  | later c _ hc hi hl hq =>
    have c1 := h.c1
    have c2 := h.c2
    have c3 := h.c3
    rw [hq] at c3
    have e1 := h.cr hc
    have hown := h.own hc
    obtain ⟨va, vc, hv, _, _⟩ := own_shape hown
    rw [hv] at e1 hown
    have hlen := hI.len hc
    have HAD : Hid (addF (g.rs c) ⟨id, (g.nd : Int) + 2⟩ = 0 ∧ addL (g.rs c) ⟨id, (g.nd : Int) + 2⟩ = g.rs c ++ [⟨id, (g.nd : Int) + 2⟩]) := Lib.hid (add_yes (hI.chk c hc) (hI.snoc2 hb hc hi hl))
    obtain ⟨i1, i2⟩ := fine_id hi
    have hbig := hI.big
    have HSR : Hid (∀ (W : World) v k, RV W B d r m n vs g (anyB g.aw n) → OwnW 0 W v k → RV (W.setCell ⟨r, c, none⟩ v) B d r m n (upd vs c v) (g.row c k) (anyB g.aw n) ∧ Kept (OwnR B d r m) W (W.setCell ⟨r, c, none⟩ v)) :=
      Lib.hid (fun W v k hg ho => rset_row hg hc ho)
    obtain ⟨D, hD⟩ : ∃ D, g.nd = D := ⟨_, rfl⟩
    rw [hD] at c2 hbig HAD ⊢
    have hD1 : D ≤ 1000 := by omega
    obtain ⟨R, hrr⟩ : ∃ R, g.rs c = R := ⟨_, rfl⟩
    rw [hrr] at HAD hlen e1 hl hown ⊢
    have hne : ((R.length : Int) == 256) = false := by simp; omega
    have HO := Lib.hid hown.shows
    clear h hI hv hl hi hq hbig hD hrr hown
    go_enter Try.func26, Try.ntmps26
    go_wp2_with fail
    refine (rHas HA.out _ true (hasYes hc)).mono ?_
    rintro e w1 ⟨rfl, rfl⟩
    go_wp2_with fail
    refine (rAdd _ R id ((D : Int) + 2) _ HO.out).mono ?_
    rintro e w3 ⟨la, ln, lc, hln, rfl, how, h3⟩
    rw [HAD.out.1]
    have HB3 := Lib.hid h3
    have HG3 := HA.out.below h3
    have q1 := HG3.c1
    have qr := HG3.cr hc
    have qf := HG3.fr c
    have HS := Lib.hid (HSR.out _ _ _ HG3 (how.le (Nat.zero_le _)))
    clear hln how h3 HG3 c1 c2 c3 e1
    go_wp2
    go_ret
    have h9 := HS.out.1
    rw [HAD.out.2] at h9
    exact ⟨_, rfl, h9, (Kept.ofBelow HB3.out).trans HS.out.2⟩
theorem rNewBad (x : Int) (w : World) (h : ¬ (1 ≤ x ∧ x ≤ 8)) : Calls Try.prog 7 #[.int .i64 x] w fun e w' => e = .returned (.tuple #[.pointer none, .int .i64 2]) ∧ w' = w := by
  by_cases h1 : x < 1
  · go_enter Try.func7, Try.ntmps7
    go_wp2
    go_ret2
    exact ⟨rfl, rfl⟩
  · have h2 : 8 < x := by omega
    go_enter Try.func7, Try.ntmps7
    go_wp2
    go_ret2
    exact ⟨rfl, rfl⟩
end
end Go.Proofs.Ytnnpclknlccmiaa
