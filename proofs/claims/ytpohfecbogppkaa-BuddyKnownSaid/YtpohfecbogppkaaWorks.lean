/-
  The chapter's pages: works.
-/
import Derived.Test.YtpohfecbogppkaaSame6
set_option linter.unusedVariables false
set_option linter.unusedSimpArgs false
namespace Go.Proofs.Ytpohfecbogppkaa
open Go Go.RowKit

/-! by program: is it a fit, are the pages whole -/
def fitB (l : List Pg) (order o p : Nat) : Bool :=
  decide (order ≤ o) && decide (o ≤ 10) && decide (p < l.length) && decide (pg l p = fh o) &&
  (List.range o).all (fun k => decide (k < order) || (List.range l.length).all (fun i => decide (pg l i ≠ fh k))) && (List.range p).all (fun i => decide (pg l i ≠ fh o))
theorem fitB_sound {l : List Pg} {order o p : Nat} (h : fitB l order o p = true) : Fit l order o p := by
  simp only [fitB, Bool.and_eq_true, decide_eq_true_eq, List.all_eq_true, List.mem_range, Bool.or_eq_true] at h
  obtain ⟨⟨⟨⟨⟨h1, h2⟩, h3⟩, h4⟩, h5⟩, h6⟩ := h
  exact ⟨h1, h2, h3, h4, fun o' h7 h8 i hi => by
    rcases h5 o' h8 with h | h
    · omega
    · exact h i hi, h6⟩
def startsB (l : List Pg) (a : Nat) : Bool :=
  (pg l a).ok && decide (a % (pg l a).sz = 0) && decide (a + (pg l a).sz ≤ l.length) && (List.range l.length).all (fun j => decide (j ≤ a) || decide (a + (pg l a).sz ≤ j) || decide (pg l j = pin))
theorem startsB_sound {l : List Pg} {a : Nat} (h : startsB l a = true) : Starts l a := by
  simp only [startsB, Bool.and_eq_true, decide_eq_true_eq, List.all_eq_true, List.mem_range, Bool.or_eq_true] at h
  obtain ⟨⟨⟨h1, h2⟩, h3⟩, h4⟩ := h
  exact ⟨h1, h2, h3, fun j h5 h6 => by
    rcases h4 j (by omega) with (h | h) | h
    · omega
    · omega
    · exact h⟩
def iniB (n : Nat) (l : List Pg) : Bool :=
  decide (l.length = n) && (List.range n).all (fun i => (List.range n).any (fun a => startsB l a && decide (a ≤ i) && decide (i < a + (pg l a).sz))) &&
  (List.range n).all (fun i => decide ((pg l i).kind ≠ 2)) &&
  (List.range n).all (fun a => !(pg l a).ok || decide ((pg l a).order = 10) || decide (a % 2 ^ ((pg l a).order.toNat + 1) ≠ 0) || decide (n < a + 2 ^ ((pg l a).order.toNat + 1)))
theorem iniB_sound {n : Nat} {l : List Pg} (h : iniB n l = true) : l = ini n := by
  simp only [iniB, Bool.and_eq_true, decide_eq_true_eq, List.all_eq_true, List.any_eq_true, List.mem_range, Bool.or_eq_true, Bool.not_eq_true'] at h
  obtain ⟨⟨⟨h1, h2⟩, h3⟩, h4⟩ := h
  have hi : Ini n l := ⟨h1, fun i hi => by
    obtain ⟨a, _, ⟨h5, h6⟩, h7⟩ := h2 i (by omega)
    exact ⟨a, startsB_sound h5, h6, h7⟩, h3, fun a hs => by
    have := hs.fits
    have := (pg l a).sz_pos
    rcases h4 a (by omega) with ((h | h) | h) | h
    · rw [hs.head] at h; cases h
    · exact .inl h
    · exact .inr (.inl h)
    · exact .inr (.inr h)⟩
  exact hi.eq
section
variable {w : World} {B g cap : Nat} {l m : List Pg}
theorem cAllocLit (h : BudAt w 56 B g cap l) (hs : Std l) (order o p : Nat) (c oi pi : Int) (hoi : (order : Int) = oi) (hpi : (p : Int) = pi) (h2 : 0 ≤ c) (h3 : c ≤ 8) (hf : fitB l order o p = true) (hm : allocL l order o p c = m) :
    Calls Try.prog 11 #[.pointer (some ⟨B, 0, none⟩), .int .i64 oi, .int .i64 c] w fun e w' => e = .returned (.tuple #[.int .i64 pi, .int .i64 0]) ∧ BudAt w' 56 B g cap m ∧ Std m ∧ Kept (· = g) w w' := by
  subst hoi hpi hm
  exact (cAllocYes h hs.cov order o p c h2 h3 (fitB_sound hf)).mono fun e w' ⟨h4, h5, h6⟩ => ⟨h4, h5, (fitB_sound hf).std hs h2 h3, h6⟩
theorem cFreeLit (h : BudAt w 56 B g cap l) (hs : Std l) (p : Nat) (pi : Int) (hpi : (p : Int) = pi) (hp : p < l.length) (hk : (pg l p).kind = 2) (hm : freeL l p = m) :
    Calls Try.prog 14 #[.pointer (some ⟨B, 0, none⟩), .int .i64 pi] w fun e w' => e = .returned (.int .i64 0) ∧ BudAt w' 56 B g cap m ∧ Std m ∧ Kept (· = g) w w' := by
  subst hpi hm
  exact (cFreeYes h hs.cov p hp hk).mono fun e w' ⟨h4, h5, h6⟩ => ⟨h4, h5, free_std hs hp hk, h6⟩
theorem cNewLit (n : Nat) (ni : Int) (hni : (n : Int) = ni) (h1 : 1 ≤ n) (h2 : n ≤ 1024) (hl : iniB n l = true) (w : World) : Calls Try.prog 8 #[.int .i64 ni] w fun e w' => ∃ B g, e = .returned (.tuple #[.pointer (some ⟨B, 0, none⟩), .int .i64 0]) ∧ BudAt w' 56 B g n l ∧ Std l ∧ (w.heap.size ≤ B ∧ w.heap.size ≤ g) ∧ Below w.heap.size w w' := by
  subst hni
  have e := iniB_sound hl
  subst e
  exact (cNew n h1 h2 w).mono fun e w' ⟨B, g, h3, h4, h5, h6⟩ => ⟨B, g, h3, h4, ini_std h1 h2, h5, h6⟩
end
def oA : Pg := ⟨2, 0, 1⟩
def T7 : List Pg := [fh 2, pin, pin, pin, fh 1, pin, fh 0]
def T7a : List Pg := [fh 2, pin, pin, pin, fh 1, pin, oA]
def T7b : List Pg := [fh 2, pin, pin, pin, oA, fh 0, oA]
def T7c : List Pg := [fh 2, pin, pin, pin, oA, oA, oA]
def T7d : List Pg := [fh 2, pin, pin, pin, fh 0, oA, oA]
def T7e : List Pg := [fh 2, pin, pin, pin, fh 1, pin, oA]
def T8 : List Pg := [fh 3, pin, pin, pin, pin, pin, pin, pin]
def T8a : List Pg := [⟨2, 1, 0⟩, pin, fh 1, pin, fh 2, pin, pin, pin]
theorem alloc1 : allocL T7 0 0 6 1 = T7a := by kernel_rfl
theorem alloc2 : allocL T7a 0 1 4 1 = T7b := by kernel_rfl
theorem alloc3 : allocL T7b 0 0 5 1 = T7c := by kernel_rfl
theorem free1 : freeL T7c 4 = T7d := by kernel_rfl
theorem free2 : freeL T7d 5 = T7e := by kernel_rfl
theorem alloc4 : allocL T8 1 3 0 0 = T8a := by kernel_rfl
theorem frsIs {l : List Pg} {o : Int} {m : List Int} (h : decide (frs l o = m) = true) : frs l o = m := of_decide_eq_true h
theorem five_in : ¬ (pg T7e (5 : Int).toNat).kind = 2 := of_decide_eq_false (by kernel_rfl)
set_option maxHeartbeats 8000000 in
set_option maxRecDepth 100000 in
theorem works (w : World) : Calls Try.prog 17 #[] w fun e w' => e = .returned (.bool true) ∧ Below w.heap.size w w' := by
  go_enter Try.func17, Try.ntmps17
  go_wp2_with fail
  refine (cNewLit 7 _ rfl (by decide) (by decide) (l := T7) (by kernel_rfl) _).mono ?_
  rintro e w1 ⟨B, g, rfl, ha, hstd, hBg, hb⟩
  have HA := Lib.hid ha
  have HST := Lib.hid hstd
  have HB := Lib.hid hb
  clear ha hstd hb
  go_wp2_with fail
  refine (cFrees HA.out 2).mono ?_
  rintro e wx ⟨v, rfl, hv, hb⟩
  rw [frsIs (l := T7) (o := 2) (m := [0]) (by kernel_rfl)] at hv
  replace HB := Lib.hid (below_then HB.out hb)
  replace HA := Lib.hid (HA.out.below hb)
  have HV := Lib.hid hv
  clear hb hv
  go_wp2_with fail
  refine (cEqInts _ _ [0] [0] _ (HV.out.below (below_one (Below.refl _ _) _)) (lit_i _ _ [0] 1 rfl (by decide))).mono ?_
  rintro e wy ⟨rfl, hb⟩
  rw [decide_eq_true rfl]
  replace HB := Lib.hid (below_then (below_one HB.out _) hb)
  replace HA := Lib.hid (HA.out.below (below_then (below_one (Below.refl _ _) _) hb))
  clear hb HV
  go_wp2_with fail
  refine (cFrees HA.out 1).mono ?_
  rintro e wx ⟨v, rfl, hv, hb⟩
  rw [frsIs (l := T7) (o := 1) (m := [4]) (by kernel_rfl)] at hv
  replace HB := Lib.hid (below_then HB.out hb)
  replace HA := Lib.hid (HA.out.below hb)
  have HV := Lib.hid hv
  clear hb hv
  go_wp2_with fail
  refine (cEqInts _ _ [4] [4] _ (HV.out.below (below_one (Below.refl _ _) _)) (lit_i _ _ [4] 1 rfl (by decide))).mono ?_
  rintro e wy ⟨rfl, hb⟩
  rw [decide_eq_true rfl]
  replace HB := Lib.hid (below_then (below_one HB.out _) hb)
  replace HA := Lib.hid (HA.out.below (below_then (below_one (Below.refl _ _) _) hb))
  clear hb HV
  go_wp2_with fail
  refine (cFrees HA.out 0).mono ?_
  rintro e wx ⟨v, rfl, hv, hb⟩
  rw [frsIs (l := T7) (o := 0) (m := [6]) (by kernel_rfl)] at hv
  replace HB := Lib.hid (below_then HB.out hb)
  replace HA := Lib.hid (HA.out.below hb)
  have HV := Lib.hid hv
  clear hb hv
  go_wp2_with fail
  refine (cEqInts _ _ [6] [6] _ (HV.out.below (below_one (Below.refl _ _) _)) (lit_i _ _ [6] 1 rfl (by decide))).mono ?_
  rintro e wy ⟨rfl, hb⟩
  rw [decide_eq_true rfl]
  replace HB := Lib.hid (below_then (below_one HB.out _) hb)
  replace HA := Lib.hid (HA.out.below (below_then (below_one (Below.refl _ _) _) hb))
  clear hb HV
  go_wp2_with fail
  refine (cAllocLit HA.out HST.out 0 0 6 1 0 6 rfl rfl (by decide) (by decide) (by kernel_rfl) alloc1).mono ?_
  rintro e wx ⟨rfl, ha, hstd, hk⟩
  replace HA := Lib.hid ha
  replace HST := Lib.hid hstd
  replace HB := Lib.hid (below_kept HB.out hk (fun k e => by omega))
  clear ha hstd hk
  go_wp2_with fail
  refine (cAllocLit HA.out HST.out 0 1 4 1 0 4 rfl rfl (by decide) (by decide) (by kernel_rfl) alloc2).mono ?_
  rintro e wx ⟨rfl, ha, hstd, hk⟩
  replace HA := Lib.hid ha
  replace HST := Lib.hid hstd
  replace HB := Lib.hid (below_kept HB.out hk (fun k e => by omega))
  clear ha hstd hk
  go_wp2_with fail
  refine (cAllocLit HA.out HST.out 0 0 5 1 0 5 rfl rfl (by decide) (by decide) (by kernel_rfl) alloc3).mono ?_
  rintro e wx ⟨rfl, ha, hstd, hk⟩
  replace HA := Lib.hid ha
  replace HST := Lib.hid hstd
  replace HB := Lib.hid (below_kept HB.out hk (fun k e => by omega))
  clear ha hstd hk
  go_wp2_with fail
  refine (cFrees HA.out 1).mono ?_
  rintro e wx ⟨v, rfl, hv, hb⟩
  rw [frsIs (l := T7c) (o := 1) (m := []) (by kernel_rfl)] at hv
  obtain ⟨ao, cp, rfl, _, _⟩ := hv.form
  replace HB := Lib.hid (below_then HB.out hb)
  replace HA := Lib.hid (HA.out.below hb)
  clear hb hv
  simp only [List.length_nil]
  go_wp2_with fail
  refine (cFreeLit HA.out HST.out 4 4 rfl (by decide) (by kernel_rfl) free1).mono ?_
  rintro e wx ⟨rfl, ha, hstd, hk⟩
  replace HA := Lib.hid ha
  replace HST := Lib.hid hstd
  replace HB := Lib.hid (below_kept HB.out hk (fun k e => by omega))
  clear ha hstd hk
  go_wp2_with fail
  refine (cFreeLit HA.out HST.out 5 5 rfl (by decide) (by kernel_rfl) free2).mono ?_
  rintro e wx ⟨rfl, ha, hstd, hk⟩
  replace HA := Lib.hid ha
  replace HST := Lib.hid hstd
  replace HB := Lib.hid (below_kept HB.out hk (fun k e => by omega))
  clear ha hstd hk
  go_wp2_with fail
  refine (cFrees HA.out 1).mono ?_
  rintro e wx ⟨v, rfl, hv, hb⟩
  rw [frsIs (l := T7e) (o := 1) (m := [4]) (by kernel_rfl)] at hv
  replace HB := Lib.hid (below_then HB.out hb)
  replace HA := Lib.hid (HA.out.below hb)
  have HV := Lib.hid hv
  clear hb hv
  go_wp2_with fail
  refine (cEqInts _ _ [4] [4] _ (HV.out.below (below_one (Below.refl _ _) _)) (lit_i _ _ [4] 1 rfl (by decide))).mono ?_
  rintro e wy ⟨rfl, hb⟩
  rw [decide_eq_true rfl]
  replace HB := Lib.hid (below_then (below_one HB.out _) hb)
  replace HA := Lib.hid (HA.out.below (below_then (below_one (Below.refl _ _) _) hb))
  clear hb HV
  go_wp2_with fail
  refine (cFreeBad HA.out 5 (fun h => absurd h.2.2 five_in)).mono ?_
  rintro e wx ⟨rfl, rfl⟩
  clear HA HST hBg
  go_wp2_with fail
  refine (cNewLit 8 _ rfl (by decide) (by decide) (l := T8) (by kernel_rfl) _).mono ?_
  rintro e w2 ⟨B, g, rfl, ha, hstd, hBg, hb⟩
  have HA := Lib.hid ha
  have HST := Lib.hid hstd
  have hsz := HB.out.size
  replace HB := Lib.hid (below_then HB.out hb)
  clear ha hstd hb
  go_wp2_with fail
  refine (cAllocLit HA.out HST.out 1 3 0 0 1 0 rfl rfl (by decide) (by decide) (by kernel_rfl) alloc4).mono ?_
  rintro e wx ⟨rfl, ha, hstd, hk⟩
  replace HA := Lib.hid ha
  replace HST := Lib.hid hstd
  replace HB := Lib.hid (below_kept HB.out hk (fun k e => by omega))
  clear ha hstd hk
  go_wp2_with fail
  refine (cFrees HA.out 2).mono ?_
  rintro e wx ⟨v, rfl, hv, hb⟩
  rw [frsIs (l := T8a) (o := 2) (m := [4]) (by kernel_rfl)] at hv
  replace HB := Lib.hid (below_then HB.out hb)
  replace HA := Lib.hid (HA.out.below hb)
  have HV := Lib.hid hv
  clear hb hv
  go_wp2_with fail
  refine (cEqInts _ _ [4] [4] _ (HV.out.below (below_one (Below.refl _ _) _)) (lit_i _ _ [4] 1 rfl (by decide))).mono ?_
  rintro e wy ⟨rfl, hb⟩
  rw [decide_eq_true rfl]
  replace HB := Lib.hid (below_then (below_one HB.out _) hb)
  replace HA := Lib.hid (HA.out.below (below_then (below_one (Below.refl _ _) _) hb))
  clear hb HV
  go_wp2_with fail
  refine (cFrees HA.out 1).mono ?_
  rintro e wx ⟨v, rfl, hv, hb⟩
  rw [frsIs (l := T8a) (o := 1) (m := [2]) (by kernel_rfl)] at hv
  replace HB := Lib.hid (below_then HB.out hb)
  replace HA := Lib.hid (HA.out.below hb)
  have HV := Lib.hid hv
  clear hb hv
  go_wp2_with fail
  refine (cEqInts _ _ [2] [2] _ (HV.out.below (below_one (Below.refl _ _) _)) (lit_i _ _ [2] 1 rfl (by decide))).mono ?_
  rintro e wy ⟨rfl, hb⟩
  rw [decide_eq_true rfl]
  replace HB := Lib.hid (below_then (below_one HB.out _) hb)
  replace HA := Lib.hid (HA.out.below (below_then (below_one (Below.refl _ _) _) hb))
  clear hb HV
  go_wp2
  go_ret
  exact ⟨rfl, HB.out⟩
end Go.Proofs.Ytpohfecbogppkaa
