/-
  Take of both; Drain of the document's answer.
-/
import Derived.Test.YtpmlmpkjmgebnaaPut
set_option linter.unusedVariables false
set_option linter.unusedSimpArgs false
namespace Go.Proofs.Ytpmlmpkjmgebnaa
open Go Go.RowKit

section
variable {w w' w1 : World} {T : TypeId} {B g n lim : Nat} {vs vs1 vs' : Nat → Value} {f : F}
theorem NearG.drew (h : NearG w T B g vs n lim f) : NearG w.drew T B g vs n lim f := h.below ((Below.refl _ w).drew)
theorem Goes.drew (h : Goes w w' n B g vs vs') : Goes w w'.drew n B g vs vs' := ⟨h.1.drew, h.2⟩
/-- the last one of a list that is not empty -/
theorem NearG.last {c : Nat} {l : List Int} {x : Int} (h : NearG w T B g vs n lim f) (hc : c < n) (hl : f c = l ++ [x]) : ∃ b cap M, l.length = M ∧ M ≤ 64 ∧ vs c = .slice (some ⟨b, 0, none⟩) (M + 1) cap ∧ M + 1 ≤ cap ∧ cap ≤ 9223372036854775807 ∧ b ≠ g ∧
    w.cell? ⟨b, M, none⟩ = some (.int .i64 x) ∧
    NearG (w.setCell ⟨g, c, none⟩ (.slice (some ⟨b, 0, none⟩) M cap)) T B g (updV vs c (.slice (some ⟨b, 0, none⟩) M cap)) n lim (upd f c l) ∧
    Goes w (w.setCell ⟨g, c, none⟩ (.slice (some ⟨b, 0, none⟩) M cap)) n B g vs (updV vs c (.slice (some ⟨b, 0, none⟩) M cap)) := by
  have hrow := h.row c hc
  have hlen := h.len c hc
  have hL : (f c).length = l.length + 1 := by rw [hl]; simp
  rcases hrow.2 with ⟨_, e⟩ | ⟨b, cap, cur, e, _, hb, h1, h2, hs, ht⟩
  · omega
  · rw [hL] at e h1 hlen
    rw [e] at hrow
    have hbg : b ≠ g := fun e2 => h.ownG hc (by rw [e, e2]; rfl)
    have hcut := own_cut (cap' := cap) (m := l.length) hrow (by omega) (by simp)
    rw [hl, List.take_left] at hcut
    obtain ⟨w1, w2⟩ := h.write (S := fun _ => False) (l := l) (v' := .slice (some ⟨b, 0, none⟩) l.length cap) (Kept.refl _ _) (fun _ e => e.elim) hc hcut (by omega) (fun k e2 => .inl (by rw [e]; exact e2))
    refine ⟨b, cap, l.length, rfl, by omega, e, h1, by unfold maxLen at h2; omega, hbg, ?_, w1, w2⟩
    have h3 := (h.shows hc).form
    obtain ⟨_, _, e3, _, hat⟩ := h3
    obtain ⟨b', o', e4, h5⟩ := hat l.length (by omega)
    rw [e, hL] at e3
    cases e4
    cases e3
    rw [Nat.zero_add] at h5
    rw [h5, ← pk_at (f c) l.length (by omega)]
    simp [hl]
set_option maxHeartbeats 4000000 in
set_option maxRecDepth 100000 in
theorem cTake (h : NearG w 48 B g vs n lim f) {cpu x : Int} {q : Bool} {f' : F} (hr : TakeIs n f cpu x q f') :
    Calls Try.prog 16 #[.pointer (some ⟨B, 0, none⟩), .int .i64 cpu] w (Take2 w 48 B g n lim vs f' x q) := by
  have HA := Lib.hid h
  obtain ⟨c0, c1⟩ := h.self
  have hn := h.n1
  cases hr with
  | no _ hno =>
    have HQ := Lib.hid (decide_eq_false hno)
    clear h hno
    go_enter Try.func16, Try.ntmps16
    go_wp2_with fail
    refine (cIsCpu HA.out cpu false HQ.out).mono ?_
    rintro e w1 ⟨rfl, rfl⟩
    go_wp2
    go_ret2
    exact ⟨_, rfl, HA.out, Goes.of_below (Below.refl _ _)⟩
  | none c hc he =>
    have HQ := Lib.hid (decide_eq_true (show (0 : Int) ≤ (c : Int) ∧ (c : Int) < (n : Int) by omega))
    have c2 := h.tab.cell hc
    have hrow := h.row c hc
    rw [he] at hrow
    obtain ⟨a, cap, hv, hcap1, hcap2⟩ := own_shape hrow
    rw [hv] at c2
    rw [List.length_nil] at c2
    clear h hrow hv he
    go_enter Try.func16, Try.ntmps16
    go_wp2_with fail
    refine (cIsCpu HA.out c true HQ.out).mono ?_
    rintro e w1 ⟨rfl, rfl⟩
    go_wp2
    go_ret2
    exact ⟨_, rfl, HA.out, Goes.of_below (Below.refl _ _)⟩
  | yes c l _ hc he =>
    have HQ := Lib.hid (decide_eq_true (show (0 : Int) ≤ (c : Int) ∧ (c : Int) < (n : Int) by omega))
    have c2 := h.tab.cell hc
    have cf := h.tab.frozen c
    obtain ⟨b, cap, M, hM, hM64, hv, hcap1, hcap2, hbg, hx, w1, w2⟩ := h.last hc he
    have hgb : ¬ g = b := fun e => hbg e.symm
    rw [hv] at c2
    have H5 := Lib.hid (And.intro w1 w2)
    clear h hv he w1 w2 hM
    go_enter Try.func16, Try.ntmps16
    go_wp2_with fail
    refine (cIsCpu HA.out c true HQ.out).mono ?_
    rintro e w1 ⟨rfl, rfl⟩
    go_wp2
    go_region
    all_goals
      go_wp2
      go_ret2
      exact ⟨_, rfl, H5.out.1.drew, H5.out.2.drew⟩
set_option maxHeartbeats 4000000 in
set_option maxRecDepth 100000 in
theorem rTake (h : NearG w 50 B g vs n lim f) {cpu x : Int} {q : Bool} {f' : F} (hr : TakeIs n f cpu x q f') :
    Calls Try.prog 20 #[.pointer (some ⟨B, 0, none⟩), .int .i64 cpu] w (Take2 w 50 B g n lim vs f' x q) := by
  have HA := Lib.hid h
  obtain ⟨c0, c1⟩ := h.self
  have hn := h.n1
  cases hr with
  | no _ hno =>
    have HQ := Lib.hid (decide_eq_false hno)
    clear h hno
    go_enter Try.func20, Try.ntmps20
    go_wp2_with fail
    refine (rHasCpu HA.out cpu false HQ.out).mono ?_
    rintro e w1 ⟨rfl, rfl⟩
    go_wp2
    go_ret2
    exact ⟨_, rfl, HA.out, Goes.of_below (Below.refl _ _)⟩
  | none c hc he =>
    have HQ := Lib.hid (decide_eq_true (show (0 : Int) ≤ (c : Int) ∧ (c : Int) < (n : Int) by omega))
    have c2 := h.tab.cell hc
    have hrow := h.row c hc
    rw [he] at hrow
    obtain ⟨a, cap, hv, hcap1, hcap2⟩ := own_shape hrow
    rw [hv] at c2
    rw [List.length_nil] at c2
    clear h hrow hv he
    go_enter Try.func20, Try.ntmps20
    go_wp2_with fail
    refine (rHasCpu HA.out c true HQ.out).mono ?_
    rintro e w1 ⟨rfl, rfl⟩
    go_wp2
    go_ret2
    exact ⟨_, rfl, HA.out, Goes.of_below (Below.refl _ _)⟩
  | yes c l _ hc he =>
    have HQ := Lib.hid (decide_eq_true (show (0 : Int) ≤ (c : Int) ∧ (c : Int) < (n : Int) by omega))
    have c2 := h.tab.cell hc
    have cf := h.tab.frozen c
    obtain ⟨b, cap, M, hM, hM64, hv, hcap1, hcap2, hbg, hx, w1, w2⟩ := h.last hc he
    have hgb : ¬ g = b := fun e => hbg e.symm
    rw [hv] at c2
    have H5 := Lib.hid (And.intro w1 w2)
    clear h hv he w1 w2 hM
    go_enter Try.func20, Try.ntmps20
    go_wp2_with fail
    refine (rHasCpu HA.out c true HQ.out).mono ?_
    rintro e w1 ⟨rfl, rfl⟩
    go_wp2
    go_region
    all_goals
      go_wp2
      go_ret2
      exact ⟨_, rfl, H5.out.1.drew, H5.out.2.drew⟩
/-- a list is put away -/
theorem NearG.emptied {c : Nat} (h : NearG w T B g vs n lim f) (hc : c < n) : NearG (w.setCell ⟨g, c, none⟩ (.slice none 0 0)) T B g (updV vs c (.slice none 0 0)) n lim (upd f c []) ∧ Goes w (w.setCell ⟨g, c, none⟩ (.slice none 0 0)) n B g vs (updV vs c (.slice none 0 0)) ∧
    Out w (w.setCell ⟨g, c, none⟩ (.slice none 0 0)) n B g vs (updV vs c (.slice none 0 0)) (vs c) (f c) := by
  obtain ⟨w1, w2⟩ := h.write (S := fun _ => False) (l := []) (v' := .slice none 0 0) (Kept.refl _ _) (fun _ e => e.elim) hc (World.ownsRow_nil _ _ _ _) (by simp) (fun k e2 => by simp [Value.ownBlock] at e2)
  refine ⟨w1, w2, ?_⟩
  have hres := Res.ofOwn (h.row c hc)
  have hset : Kept (· = g) w (w.setCell ⟨g, c, none⟩ (.slice none 0 0)) := Kept.setCell (S := (· = g)) (p := ⟨g, c, none⟩) (Kept.refl _ w) rfl _
  exact (hres.kept hset (fun k e1 e2 => h.ownG hc (by rw [e1, e2]))).mono (fun k e => ⟨h.freed hc e (by simp [Value.ownBlock]), .inl (.inr (.inr ⟨c, hc, e⟩))⟩)
set_option maxHeartbeats 4000000 in
set_option maxRecDepth 100000 in
theorem rDrain (h : NearG w 50 B g vs n lim f) {cpu : Int} {l : List Int} {f' : F} (hr : DrainIs n f cpu l f') :
    Calls Try.prog 21 #[.pointer (some ⟨B, 0, none⟩), .int .i64 cpu] w fun e w' => ∃ v vs', e = .returned v ∧ NearG w' 50 B g vs' n lim f' ∧ Goes w w' n B g vs vs' ∧ Out w w' n B g vs vs' v l := by
  have HA := Lib.hid h
  cases hr with
  | no _ hno =>
    go_enter Try.func21, Try.ntmps21
    go_wp2_with fail
    refine (rHasCpu h cpu false (decide_eq_false hno)).mono ?_
    rintro e w1 ⟨rfl, rfl⟩
    clear h
    go_wp2
    go_ret
    exact ⟨_, _, rfl, HA.out, Goes.of_below (Below.refl _ _), Out.nil _ _ _ _ _ _ _⟩
  | yes c hc =>
    obtain ⟨c0, c1⟩ := h.self
    have c2 := h.tab.cell hc
    have cf := h.tab.frozen c
    have hn := h.n1
    have HQ := Lib.hid (decide_eq_true (show (0 : Int) ≤ (c : Int) ∧ (c : Int) < (n : Int) by omega))
    have H5 := Lib.hid (h.emptied hc)
    obtain ⟨v, hv⟩ : ∃ v, vs c = v := ⟨_, rfl⟩
    rw [hv] at c2
    have HV := Lib.hid hv
    clear h hv
    go_enter Try.func21, Try.ntmps21
    go_wp2_with fail
    refine (rHasCpu HA.out c true HQ.out).mono ?_
    rintro e w1 ⟨rfl, rfl⟩
    go_wp2
    go_ret
    exact ⟨_, _, rfl, H5.out.1, H5.out.2.1, by rw [← HV.out]; exact H5.out.2.2⟩
set_option maxHeartbeats 4000000 in
set_option maxRecDepth 100000 in
theorem rList (h : NearG w 50 B g vs n lim f) (cpu : Int) :
    Calls Try.prog 12 #[.pointer (some ⟨B, 0, none⟩), .int .i64 cpu] w fun e w' => ∃ v, e = .returned v ∧ Fresh w w' v (listOf f n cpu) ∧ Below w.heap.size w w' := by
  have HA := Lib.hid h
  by_cases hy : 0 ≤ cpu ∧ cpu < n
  · obtain ⟨c, rfl⟩ : ∃ c : Nat, cpu = c := ⟨cpu.toNat, by omega⟩
    have hc : c < n := by omega
    obtain ⟨c0, c1⟩ := h.self
    have c2 := h.tab.cell hc
    have hs := h.shows hc
    have hlen := h.len c hc
    have hn := h.n1
    have HS := Lib.hid (And.intro hs hlen)
    have HE := Lib.hid (listOf_yes f hc)
    generalize vs c = v at c2 HS
    generalize f c = l at HS HE
    clear h hs hlen
    go_enter Try.func12, Try.ntmps12
    go_wp2_with fail
    refine (rHasCpu HA.out c true (decide_eq_true hy)).mono ?_
    rintro e w1 ⟨rfl, rfl⟩
    clear hy
    go_wp2_with fail
    refine (cCopyInts v l _ HS.out.1 (by have := HS.out.2; omega)).mono ?_
    rintro e w1 ⟨ao, cap, rfl, hown, hb⟩
    have H := Lib.hid (And.intro hown hb)
    clear hown hb
    go_wp2
    go_ret
    exact ⟨_, rfl, by rw [HE.out]; exact Fresh.of H.out.1, H.out.2⟩
  · have HE := Lib.hid (listOf_no f hy)
    go_enter Try.func12, Try.ntmps12
    go_wp2_with fail
    refine (rHasCpu h cpu false (decide_eq_false hy)).mono ?_
    rintro e w1 ⟨rfl, rfl⟩
    clear h hy
    go_wp2
    go_ret
    exact ⟨_, rfl, by rw [HE.out]; exact Res.nil _ _, Below.refl _ _⟩
end
end Go.Proofs.Ytpmlmpkjmgebnaa
