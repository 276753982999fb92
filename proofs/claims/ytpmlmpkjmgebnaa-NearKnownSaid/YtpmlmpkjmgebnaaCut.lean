/-
  cutOff, Drain, List of the program.
-/
import Derived.Test.YtpmlmpkjmgebnaaIs
set_option linter.unusedVariables false
set_option linter.unusedSimpArgs false
namespace Go.Proofs.Ytpmlmpkjmgebnaa
open Go Go.RowKit

theorem undrew {w w' : World} (h : Below w.drew.heap.size w.drew w') : Below w.heap.size w w' := ⟨h.os, h.tape, h.output, h.size, h.block⟩
/-- a list that leaves with nothing of what stays -/
def Out (w w' : World) (n B g : Nat) (vs vs' : Nat → Value) (v : Value) (l : List Int) : Prop := Res w' v l (fun k => ¬ Own n B g vs' k ∧ (Own n B g vs k ∨ w.heap.size ≤ k))
theorem Out.nil (w w' : World) (n B g : Nat) (vs vs' : Nat → Value) : Out w w' n B g vs vs' (.slice none 0 0) [] := Res.nil _ _
section
variable {w w' : World} {T : TypeId} {B g n lim : Nat} {vs : Nat → Value} {f : F}
theorem ShowI.drop {b L cap m : Nat} {l : List Int} (h : ShowI w (.slice (some ⟨b, 0, none⟩) L cap) l) (hm : m ≤ l.length) : ShowI w (.slice (some ⟨b, m, none⟩) (L - m) (cap - m)) (l.drop m) := by
  obtain ⟨ao, cp, e, hc, hat⟩ := h.form
  cases e
  refine ⟨by simp, _, _, by rw [List.length_drop], ⟨by simp; omega, by unfold maxLen; omega⟩, fun hn => ⟨b, m, rfl, fun j hj => ?_⟩⟩
  simp only [List.length_drop] at hn hj
  obtain ⟨b', o', e, c⟩ := hat (m + j) (by omega)
  cases e
  rw [Nat.zero_add] at c
  have hj' : j < (l.drop m).length := by simp; omega
  rw [c, nms_at hj', ← pk_at l (m + j) (by omega), ← pk_at _ j hj', List.getElem_drop]
theorem ShowI.zero (a : Option Addr) (cap : Nat) (h : cap ≤ 9223372036854775807) : ShowI w (.slice a 0 cap) [] := ⟨rfl, a, cap, rfl, ⟨Nat.zero_le _, by unfold maxLen; omega⟩, fun h => absurd h (Nat.lt_irrefl _)⟩
theorem updV_read (h : w.rowIs g 33 n vs) {c : Nat} (hc : c < n) : w.cell? ⟨g, c, none⟩ = some (vs c) ∧ w.frozen? ⟨g, c, none⟩ = false := ⟨h.cell hc, h.frozen c⟩
theorem NearG.cutDone {wC : World} {c m L cap : Nat} {a : Option Addr} {v' : Value} (h : NearG w T B g vs n lim f) (hc : c < n) (hm : m ≤ (f c).length) (hv : vs c = .slice a L cap) (hb : Below w.heap.size w wC)
    (hown : wC.ownsRow w.heap.size 3 1 v' ((f c).drop m).length (nms ((f c).drop m))) :
    NearG (wC.setCell ⟨g, c, none⟩ v') T B g (updV vs c v') n lim (upd f c ((f c).drop m)) ∧ Goes w (wC.setCell ⟨g, c, none⟩ v') n B g vs (updV vs c v') ∧ (a ≠ none → Out w (wC.setCell ⟨g, c, none⟩ v') n B g vs (updV vs c v') (.slice a m m) ((f c).take m)) := by
  have hown0 : wC.ownsRow 0 3 1 v' ((f c).drop m).length (nms ((f c).drop m)) := by
    refine ⟨hown.1, ?_⟩
    rcases hown.2 with e | ⟨r, cp, cur, e, _, h1⟩
    · exact .inl e
    · exact .inr ⟨r, cp, cur, e, Nat.zero_le _, h1⟩
  have hge := own_ge hown
  obtain ⟨h1, h2⟩ := h.write (S := fun _ => False) (v' := v') (Kept.ofBelow hb) (fun _ e => e.elim) hc hown0 (by have := h.len c hc; simp; omega) (fun k e => .inr (hge k e))
  refine ⟨h1, h2, fun ha => ?_⟩
  have hr := h.row c hc
  rw [hv] at hr
  have hres := Res.cut hr hm ha
  have hset : Kept (· = g) wC (wC.setCell ⟨g, c, none⟩ v') := Kept.setCell (S := (· = g)) (p := ⟨g, c, none⟩) (Kept.refl _ wC) rfl v'
  refine ((hres.below hb).kept hset (fun k e1 e2 => h.ownG hc (by rw [hv, e1, e2]))).mono (fun k e => ⟨h.freed hc (by rw [hv, e]) (fun e2 => ?_), .inl (.inr (.inr ⟨c, hc, by rw [hv, e]⟩))⟩)
  have := (hr.lt k e).2
  have := hge k e2
  omega
set_option maxHeartbeats 8000000 in
set_option maxRecDepth 100000 in
theorem cCutOff (h : NearG w 48 B g vs n lim f) (c m : Nat) (hc : c < n) (hm : m ≤ (f c).length) :
    Calls Try.prog 27 #[.pointer (some ⟨B, 0, none⟩), .int .i64 c, .int .i64 m] w fun e w' => ∃ v vs', e = .returned v ∧ NearG w' 48 B g vs' n lim (upd f c ((f c).drop m)) ∧ Goes w w' n B g vs vs' ∧ Out w w' n B g vs vs' v ((f c).take m) := by
  have HA := Lib.hid h
  obtain ⟨c0, c1⟩ := h.self
  have c2 := h.tab.cell hc
  have hn := h.n1
  have hrow := h.row c hc
  have hL := h.len c hc
  obtain ⟨a, cap, hv, hcap1, hcap2⟩ := own_shape hrow
  have HV := Lib.hid hv
  have HM := Lib.hid hm
  rw [hv] at c2 hrow
  obtain ⟨r, hr⟩ : ∃ r, (f c).drop m = r := ⟨_, rfl⟩
  obtain ⟨L, hLe⟩ : ∃ L, (f c).length = L := ⟨_, rfl⟩
  rw [hLe] at c2 hm hcap1 hL
  have hrl : r.length = L - m := by rw [← hr, ← hLe, List.length_drop]
  have HR := Lib.hid hr
  have HRL := Lib.hid hrl
  have hgB := h.ne
  clear h
  cases a with
  | none =>
    obtain ⟨rfl, rfl⟩ : L = 0 ∧ cap = 0 := by
      rcases hrow.2 with ⟨e, _⟩ | ⟨_, _, _, e, _⟩
      · exact ⟨hLe.symm.trans (Value.slice.inj e).2.1, (Value.slice.inj e).2.2⟩
      · exact absurd (Value.slice.inj e).1 (by simp)
    obtain rfl : m = 0 := by omega
    have hs : ShowI w.drew (.slice none 0 0) r := by
      obtain rfl : r = [] := List.length_eq_zero_iff.1 (by omega)
      exact ShowI.nil _
    have HS := Lib.hid hs
    clear hs hrow hv hr hrl hLe
    go_enter Try.func27, Try.ntmps27
    go_wp2_with fail
    go_region_law (go_simp; go_at_call 24; refine (cCopyOf _ r _ HS.out (by have := HRL.out; omega)).mono ?_; rintro e wC ⟨aC, capC, rfl, ownC, hbC'⟩; have hbC := undrew hbC'; have hsC := (HA.out.below hbC).self.1; obtain ⟨d2, df⟩ := updV_read (HA.out.below hbC).tab hc)
    all_goals
      have H3 := Lib.hid (HA.out.cutDone hc HM.out HV.out hbC (by rw [HR.out]; exact ownC))
      clear hbC hbC' ownC hsC d2 df
      go_wp2
      go_ret
      exact ⟨_, _, rfl, H3.out.1, H3.out.2.1, Out.nil _ _ _ _ _ _ _⟩
  | some ad =>
    obtain ⟨b, rfl⟩ : ∃ b, ad = ⟨b, 0, none⟩ := by
      rcases hrow.2 with ⟨e, _⟩ | ⟨b, _, _, e, _⟩
      · exact absurd (Value.slice.inj e).1 (by simp)
      · exact ⟨b, Option.some.inj (Value.slice.inj e).1⟩
    have hs : ShowI w (.slice (some ⟨b, 0, none⟩) L cap) (f c) := by
      have := own_i hrow
      rwa [hLe] at this
    have hd := hs.drop (m := m) (by omega)
    rw [hr] at hd
    by_cases hmc : m = cap
    · have hmL : m = L := by omega
      have hs0 : ShowI w.drew (.slice (some ⟨b, 0, none⟩) 0 0) r := by
        obtain rfl : r = [] := List.length_eq_zero_iff.1 (by omega)
        exact ShowI.zero _ _ (by omega)
      have HS := Lib.hid hs0
      obtain rfl : L = m := hmL.symm
      obtain rfl : L = cap := hmc
      clear hd hs hs0 hrow hv hr hrl hLe
      go_enter Try.func27, Try.ntmps27
      go_wp2_with fail
      go_region_law (go_simp; go_at_call 24; refine (cCopyOf _ r _ HS.out (by have := HRL.out; omega)).mono ?_; rintro e wC ⟨aC, capC, rfl, ownC, hbC'⟩; have hbC := undrew hbC'; have hsC := (HA.out.below hbC).self.1; obtain ⟨d2, df⟩ := updV_read (HA.out.below hbC).tab hc)
      all_goals
        have H3 := Lib.hid (HA.out.cutDone hc HM.out HV.out hbC (by rw [HR.out]; exact ownC))
        clear hbC hbC' ownC hsC d2 df
        go_wp2
        go_ret
        exact ⟨_, _, rfl, H3.out.1, H3.out.2.1, H3.out.2.2 (by simp)⟩
    · have hml : m < cap := by omega
      have hcm : ¬ cap = m := by omega
      have hs0 : ShowI w.drew (.slice (some ⟨b, m, none⟩) (L - m) (cap - m)) r := hd
      have HS := Lib.hid hs0
      clear hd hs hs0 hrow hv hr hrl hLe hmc
      go_enter Try.func27, Try.ntmps27
      go_wp2_with fail
      go_region_law (go_simp; go_at_call 24; refine (cCopyOf _ r _ HS.out (by have := HRL.out; omega)).mono ?_; rintro e wC ⟨aC, capC, rfl, ownC, hbC'⟩; have hbC := undrew hbC'; have hsC := (HA.out.below hbC).self.1; obtain ⟨d2, df⟩ := updV_read (HA.out.below hbC).tab hc)
      all_goals
        have H3 := Lib.hid (HA.out.cutDone hc HM.out HV.out hbC (by rw [HR.out]; exact ownC))
        clear hbC hbC' ownC hsC d2 df
        go_wp2
        go_ret
        exact ⟨_, _, rfl, H3.out.1, H3.out.2.1, H3.out.2.2 (by simp)⟩
set_option maxHeartbeats 4000000 in
set_option maxRecDepth 100000 in
theorem cDrain (h : NearG w 48 B g vs n lim f) {cpu : Int} {l : List Int} {f' : F} (hr : DrainIs n f cpu l f') :
    Calls Try.prog 17 #[.pointer (some ⟨B, 0, none⟩), .int .i64 cpu] w fun e w' => ∃ v vs', e = .returned v ∧ NearG w' 48 B g vs' n lim f' ∧ Goes w w' n B g vs vs' ∧ Out w w' n B g vs vs' v l := by
  have HA := Lib.hid h
  cases hr with
  | no _ hno =>
    go_enter Try.func17, Try.ntmps17
    go_wp2_with fail
    refine (cIsCpu h cpu false (decide_eq_false hno)).mono ?_
    rintro e w1 ⟨rfl, rfl⟩
    clear h
    go_wp2
    go_ret
    exact ⟨_, _, rfl, HA.out, Goes.of_below (Below.refl _ _), Out.nil _ _ _ _ _ _ _⟩
  | yes c hc =>
    obtain ⟨c0, c1⟩ := h.self
    have c2 := h.tab.cell hc
    have hn := h.n1
    have hrow := h.row c hc
    obtain ⟨a, cap, hv, hcap1, hcap2⟩ := own_shape hrow
    have hlen := h.len c hc
    rw [hv] at c2
    obtain ⟨L, hLe⟩ : ∃ L, (f c).length = L := ⟨_, rfl⟩
    rw [hLe] at c2 hcap1 hlen
    have HL := Lib.hid hLe
    have hq : decide ((0 : Int) ≤ c ∧ (c : Int) < (n : Int)) = true := decide_eq_true (by omega)
    have HQ := Lib.hid hq
    clear h hrow hv hLe hq
    go_enter Try.func17, Try.ntmps17
    go_wp2_with fail
    refine (cIsCpu HA.out c true HQ.out).mono ?_
    rintro e w1 ⟨rfl, rfl⟩
    go_wp2_with fail
    refine (cCutOff HA.out c L hc (by rw [HL.out]; exact Nat.le_refl _)).mono ?_
    rintro e w1 ⟨v, vs', rfl, h1, h2, h3⟩
    have H := Lib.hid (And.intro h1 (And.intro h2 h3))
    clear h1 h2 h3
    go_wp2
    go_ret
    refine ⟨_, _, rfl, ?_, H.out.2.1, ?_⟩
    · have := H.out.1
      rwa [← HL.out, List.drop_length] at this
    · have := H.out.2.2
      rwa [← HL.out, List.take_length] at this
/-- a list of one's own, fresh -/
def Fresh (w w' : World) (v : Value) (l : List Int) : Prop := Res w' v l (fun k => w.heap.size ≤ k)
theorem Fresh.of {ao : Option Addr} {cap : Nat} {l : List Int} (h : w'.ownsRow w.heap.size 3 1 (.slice ao l.length cap) l.length (nms l)) : Fresh w w' (.slice ao l.length cap) l := (Res.ofOwn h).mono fun k e => own_ge h k e
set_option maxHeartbeats 4000000 in
set_option maxRecDepth 100000 in
theorem cList (h : NearG w 48 B g vs n lim f) (cpu : Int) :
    Calls Try.prog 10 #[.pointer (some ⟨B, 0, none⟩), .int .i64 cpu] w fun e w' => ∃ v, e = .returned v ∧ Fresh w w' v (listOf f n cpu) ∧ Below w.heap.size w w' := by
  have HA := Lib.hid h
  by_cases hy : 0 ≤ cpu ∧ cpu < n
  · obtain ⟨c, rfl⟩ : ∃ c : Nat, cpu = c := ⟨cpu.toNat, by omega⟩
    have hc : c < n := by omega
    obtain ⟨c0, c1⟩ := h.self
    have c2 := h.tab.cell hc
    have hs := h.shows hc
    have hlen := h.len c hc
    have hn := h.n1
    have HS := Lib.hid (And.intro hs hlen)
    have HE := Lib.hid (listOf_yes f hc)
    generalize vs c = v at c2 HS
    generalize f c = l at HS HE
    clear h hs hlen
    go_enter Try.func10, Try.ntmps10
    go_wp2_with fail
    refine (cIsCpu HA.out c true (decide_eq_true hy)).mono ?_
    rintro e w1 ⟨rfl, rfl⟩
    clear hy
    go_wp2_with fail
    refine (cCopyOf v l _ HS.out.1 (by have := HS.out.2; omega)).mono ?_
    rintro e w1 ⟨ao, cap, rfl, hown, hb⟩
    have H := Lib.hid (And.intro hown hb)
    clear hown hb
    go_wp2
    go_ret
    exact ⟨_, rfl, by rw [HE.out]; exact Fresh.of H.out.1, H.out.2⟩
  · have HE := Lib.hid (listOf_no f hy)
    go_enter Try.func10, Try.ntmps10
    go_wp2_with fail
    refine (cIsCpu h cpu false (decide_eq_false hy)).mono ?_
    rintro e w1 ⟨rfl, rfl⟩
    clear h hy
    go_wp2
    go_ret
    exact ⟨_, rfl, by rw [HE.out]; exact Res.nil _ _, Below.refl _ _⟩
end
end Go.Proofs.Ytpmlmpkjmgebnaa
