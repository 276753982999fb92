/-
  cutOff, Drain, List, Put of the program's near pages.
-/
import Derived.Test.YtlljomnpdgmifaaCopies
import Derived.Deep.Cut
import Derived.Deep.CutRange
set_option linter.unusedVariables false
set_option linter.unusedSimpArgs false
namespace Go.Proofs.Ytlljomnpdgmifaa
open Go Go.RowKit

theorem undrew {w w' : World} (h : Below w.drew.heap.size w.drew w') : Below w.heap.size w w' := ⟨h.os, h.tape, h.output, h.size, h.block⟩
/-- a list that leaves with nothing of what stays -/
def Out (w w' : World) (n B g : Nat) (vs vs' : Nat → Value) (v : Value) (l : List Int) : Prop := Res w' v l (fun k => ¬ Own n B g vs' k ∧ (Own n B g vs k ∨ w.heap.size ≤ k))
theorem Out.nil (w w' : World) (n B g : Nat) (vs vs' : Nat → Value) : Out w w' n B g vs vs' (.slice none 0 0) [] := Res.nil _ _
section
variable {w w' : World} {T : TypeId} {B g n lim : Nat} {vs : Nat → Value} {f : F}
theorem ShowI.drop {b L cap m : Nat} {l : List Int} (h : ShowI w (.slice (some ⟨b, 0, none⟩) L cap) l) (hm : m ≤ l.length) : ShowI w (.slice (some ⟨b, m, none⟩) (L - m) (cap - m)) (l.drop m) := by
  obtain ⟨ao, cp, e, hc, hat⟩ := h.form
  cases e
  refine ⟨by simp, _, _, by rw [List.length_drop], ⟨by simp; omega, by unfold maxLen; omega⟩, fun hn => ⟨b, m, rfl, fun j hj => ?_⟩⟩
  simp only [List.length_drop] at hn hj
  obtain ⟨b', o', e, c⟩ := hat (m + j) (by omega)
  cases e
  rw [Nat.zero_add] at c
  have hj' : j < (l.drop m).length := by simp; omega
  rw [c, nms_at hj', ← pk_at l (m + j) (by omega), ← pk_at _ j hj', List.getElem_drop]
theorem ShowI.zero (a : Option Addr) (cap : Nat) (h : cap ≤ 9223372036854775807) : ShowI w (.slice a 0 cap) [] := ⟨rfl, a, cap, rfl, ⟨Nat.zero_le _, by unfold maxLen; omega⟩, fun h => absurd h (Nat.lt_irrefl _)⟩
theorem updV_read (h : w.rowIs g 73 n vs) {c : Nat} (hc : c < n) : w.cell? ⟨g, c, none⟩ = some (vs c) ∧ w.frozen? ⟨g, c, none⟩ = false := ⟨h.cell hc, h.frozen c⟩
theorem NearG.cutDone {wC : World} {c m L cap : Nat} {a : Option Addr} {v' : Value} (h : NearG w T B g vs n lim f) (hc : c < n) (hm : m ≤ (f c).length) (hv : vs c = .slice a L cap) (hb : Below w.heap.size w wC)
    (hown : wC.ownsRow w.heap.size 3 1 v' ((f c).drop m).length (nms ((f c).drop m))) :
    NearG (wC.setCell ⟨g, c, none⟩ v') T B g (updV vs c v') n lim (nUpd f c ((f c).drop m)) ∧ Goes w (wC.setCell ⟨g, c, none⟩ v') n B g vs (updV vs c v') ∧ (a ≠ none → Out w (wC.setCell ⟨g, c, none⟩ v') n B g vs (updV vs c v') (.slice a m m) ((f c).take m)) := by
  have hown0 : wC.ownsRow 0 3 1 v' ((f c).drop m).length (nms ((f c).drop m)) := by
    refine ⟨hown.1, ?_⟩
    rcases hown.2 with e | ⟨r, cp, cur, e, _, h1⟩
    · exact .inl e
    · exact .inr ⟨r, cp, cur, e, Nat.zero_le _, h1⟩
  have hge := own_ge hown
  obtain ⟨h1, h2⟩ := h.write (S := fun _ => False) (v' := v') (Kept.ofBelow hb) (fun _ e => e.elim) hc hown0 (by have := h.len c hc; simp; omega) (fun k e => .inr (hge k e))
  refine ⟨h1, h2, fun ha => ?_⟩
  have hr := h.row c hc
  rw [hv] at hr
  have hres := Res.cut hr hm ha
  have hset : Kept (· = g) wC (wC.setCell ⟨g, c, none⟩ v') := Kept.setCell (S := (· = g)) (p := ⟨g, c, none⟩) (Kept.refl _ wC) rfl v'
  refine ((hres.below hb).kept hset (fun k e1 e2 => h.ownG hc (by rw [hv, e1, e2]))).mono (fun k e => ⟨h.freed hc (by rw [hv, e]) (fun e2 => ?_), .inl (.inr (.inr ⟨c, hc, by rw [hv, e]⟩))⟩)
  have := (hr.lt k e).2
  have := hge k e2
  omega
set_option maxHeartbeats 8000000 in
set_option maxRecDepth 100000 in
theorem cCutOff (h : NearG w 89 B g vs n lim f) (c m : Nat) (hc : c < n) (hm : m ≤ (f c).length) :
    Calls Try.prog 68 #[.pointer (some ⟨B, 0, none⟩), .int .i64 c, .int .i64 m] w fun e w' => ∃ v vs', e = .returned v ∧ NearG w' 89 B g vs' n lim (nUpd f c ((f c).drop m)) ∧ Goes w w' n B g vs vs' ∧ Out w w' n B g vs vs' v ((f c).take m) := by
  have HA := Lib.hid h
  obtain ⟨c0, c1⟩ := h.self
  have c2 := h.tab.cell hc
  have hn := h.n1
  have hrow := h.row c hc
  have hL := h.len c hc
  obtain ⟨a, cap, hv, hcap1, hcap2⟩ := own_shape hrow
  have HV := Lib.hid hv
  have HM := Lib.hid hm
  rw [hv] at c2 hrow
  obtain ⟨r, hr⟩ : ∃ r, (f c).drop m = r := ⟨_, rfl⟩
  obtain ⟨L, hLe⟩ : ∃ L, (f c).length = L := ⟨_, rfl⟩
  rw [hLe] at c2 hm hcap1 hL
  have hrl : r.length = L - m := by rw [← hr, ← hLe, List.length_drop]
  have HR := Lib.hid hr
  have HRL := Lib.hid hrl
  have hgB := h.ne
  clear h
  cases a with
  | none =>
    obtain ⟨rfl, rfl⟩ : L = 0 ∧ cap = 0 := by
      rcases hrow.2 with ⟨e, _⟩ | ⟨_, _, _, e, _⟩
      · exact ⟨hLe.symm.trans (Value.slice.inj e).2.1, (Value.slice.inj e).2.2⟩
      · exact absurd (Value.slice.inj e).1 (by simp)
    obtain rfl : m = 0 := by omega
    have hs : ShowI w.drew (.slice none 0 0) r := by
      obtain rfl : r = [] := List.length_eq_zero_iff.1 (by omega)
      exact ShowI.nil _
    have HS := Lib.hid hs
    clear hs hrow hv hr hrl hLe
    go_enter Try.func68, Try.ntmps68
    go_wp2_with fail
    go_region_law (go_simp; go_at_call 69; refine (cCopyOf _ r _ HS.out (by have := HRL.out; omega)).mono ?_; rintro e wC ⟨aC, capC, rfl, ownC, hbC'⟩; have hbC := undrew hbC'; have hsC := (HA.out.below hbC).self.1; obtain ⟨d2, df⟩ := updV_read (HA.out.below hbC).tab hc)
    all_goals
      have H3 := Lib.hid (HA.out.cutDone hc HM.out HV.out hbC (by rw [HR.out]; exact ownC))
      clear hbC hbC' ownC hsC d2 df
      go_wp2
      go_ret
      exact ⟨_, _, rfl, H3.out.1, H3.out.2.1, Out.nil _ _ _ _ _ _ _⟩
  | some ad =>
    obtain ⟨b, rfl⟩ : ∃ b, ad = ⟨b, 0, none⟩ := by
      rcases hrow.2 with ⟨e, _⟩ | ⟨b, _, _, e, _⟩
      · exact absurd (Value.slice.inj e).1 (by simp)
      · exact ⟨b, Option.some.inj (Value.slice.inj e).1⟩
    have hs : ShowI w (.slice (some ⟨b, 0, none⟩) L cap) (f c) := by
      have := own_i hrow
      rwa [hLe] at this
    have hd := hs.drop (m := m) (by omega)
    rw [hr] at hd
    by_cases hmc : m = cap
    · have hmL : m = L := by omega
      have hs0 : ShowI w.drew (.slice (some ⟨b, 0, none⟩) 0 0) r := by
        obtain rfl : r = [] := List.length_eq_zero_iff.1 (by omega)
        exact ShowI.zero _ _ (by omega)
      have HS := Lib.hid hs0
      obtain rfl : L = m := hmL.symm
      obtain rfl : L = cap := hmc
      clear hd hs hs0 hrow hv hr hrl hLe
      go_enter Try.func68, Try.ntmps68
      go_wp2_with fail
      go_region_law (go_simp; go_at_call 69; refine (cCopyOf _ r _ HS.out (by have := HRL.out; omega)).mono ?_; rintro e wC ⟨aC, capC, rfl, ownC, hbC'⟩; have hbC := undrew hbC'; have hsC := (HA.out.below hbC).self.1; obtain ⟨d2, df⟩ := updV_read (HA.out.below hbC).tab hc)
      all_goals
        have H3 := Lib.hid (HA.out.cutDone hc HM.out HV.out hbC (by rw [HR.out]; exact ownC))
        clear hbC hbC' ownC hsC d2 df
        go_wp2
        go_ret
        exact ⟨_, _, rfl, H3.out.1, H3.out.2.1, H3.out.2.2 (by simp)⟩
    · have hml : m < cap := by omega
      have hcm : ¬ cap = m := by omega
      have hs0 : ShowI w.drew (.slice (some ⟨b, m, none⟩) (L - m) (cap - m)) r := hd
      have HS := Lib.hid hs0
      clear hd hs hs0 hrow hv hr hrl hLe hmc
      go_enter Try.func68, Try.ntmps68
      go_wp2_with fail
      go_region_law (go_simp; go_at_call 69; refine (cCopyOf _ r _ HS.out (by have := HRL.out; omega)).mono ?_; rintro e wC ⟨aC, capC, rfl, ownC, hbC'⟩; have hbC := undrew hbC'; have hsC := (HA.out.below hbC).self.1; obtain ⟨d2, df⟩ := updV_read (HA.out.below hbC).tab hc)
      all_goals
        have H3 := Lib.hid (HA.out.cutDone hc HM.out HV.out hbC (by rw [HR.out]; exact ownC))
        clear hbC hbC' ownC hsC d2 df
        go_wp2
        go_ret
        exact ⟨_, _, rfl, H3.out.1, H3.out.2.1, H3.out.2.2 (by simp)⟩
set_option maxHeartbeats 4000000 in
set_option maxRecDepth 100000 in
theorem cDrain (h : NearG w 89 B g vs n lim f) {cpu : Int} {l : List Int} {f' : F} (hr : DrainIs n f cpu l f') :
    Calls Try.prog 43 #[.pointer (some ⟨B, 0, none⟩), .int .i64 cpu] w fun e w' => ∃ v vs', e = .returned v ∧ NearG w' 89 B g vs' n lim f' ∧ Goes w w' n B g vs vs' ∧ Out w w' n B g vs vs' v l := by
  have HA := Lib.hid h
  cases hr with
  | no _ hno =>
    go_enter Try.func43, Try.ntmps43
    go_wp2_with fail
    refine (cIsCpu h cpu false (decide_eq_false hno)).mono ?_
    rintro e w1 ⟨rfl, rfl⟩
    clear h
    go_wp2
    go_ret
    exact ⟨_, _, rfl, HA.out, Goes.of_below (Below.refl _ _), Out.nil _ _ _ _ _ _ _⟩
  | yes c hc =>
    obtain ⟨c0, c1⟩ := h.self
    have c2 := h.tab.cell hc
    have hn := h.n1
    have hrow := h.row c hc
    obtain ⟨a, cap, hv, hcap1, hcap2⟩ := own_shape hrow
    have hlen := h.len c hc
    rw [hv] at c2
    obtain ⟨L, hLe⟩ : ∃ L, (f c).length = L := ⟨_, rfl⟩
    rw [hLe] at c2 hcap1 hlen
    have HL := Lib.hid hLe
    have hq : decide ((0 : Int) ≤ c ∧ (c : Int) < (n : Int)) = true := decide_eq_true (by omega)
    have HQ := Lib.hid hq
    clear h hrow hv hLe hq
    go_enter Try.func43, Try.ntmps43
    go_wp2_with fail
    refine (cIsCpu HA.out c true HQ.out).mono ?_
    rintro e w1 ⟨rfl, rfl⟩
    go_wp2_with fail
    refine (cCutOff HA.out c L hc (by rw [HL.out]; exact Nat.le_refl _)).mono ?_
    rintro e w1 ⟨v, vs', rfl, h1, h2, h3⟩
    have H := Lib.hid (And.intro h1 (And.intro h2 h3))
    clear h1 h2 h3
    go_wp2
    go_ret
    refine ⟨_, _, rfl, ?_, H.out.2.1, ?_⟩
    · have := H.out.1
      rwa [← HL.out, List.drop_length] at this
    · have := H.out.2.2
      rwa [← HL.out, List.take_length] at this
/-- a list of one's own, fresh -/
def Fresh (w w' : World) (v : Value) (l : List Int) : Prop := Res w' v l (fun k => w.heap.size ≤ k)
theorem Fresh.of {ao : Option Addr} {cap : Nat} {l : List Int} (h : w'.ownsRow w.heap.size 3 1 (.slice ao l.length cap) l.length (nms l)) : Fresh w w' (.slice ao l.length cap) l := (Res.ofOwn h).mono fun k e => own_ge h k e
set_option maxHeartbeats 4000000 in
set_option maxRecDepth 100000 in
theorem cList (h : NearG w 89 B g vs n lim f) (cpu : Int) :
    Calls Try.prog 42 #[.pointer (some ⟨B, 0, none⟩), .int .i64 cpu] w fun e w' => ∃ v, e = .returned v ∧ Fresh w w' v (listOf f n cpu) ∧ Below w.heap.size w w' := by
  have HA := Lib.hid h
  by_cases hy : 0 ≤ cpu ∧ cpu < n
  · obtain ⟨c, rfl⟩ : ∃ c : Nat, cpu = c := ⟨cpu.toNat, by omega⟩
    have hc : c < n := by omega
    obtain ⟨c0, c1⟩ := h.self
    have c2 := h.tab.cell hc
    have hs := h.shows hc
    have hlen := h.len c hc
    have hn := h.n1
    have HS := Lib.hid (And.intro hs hlen)
    have HE := Lib.hid (listOf_yes f hc)
    generalize vs c = v at c2 HS
    generalize f c = l at HS HE
    clear h hs hlen
    go_enter Try.func42, Try.ntmps42
    go_wp2_with fail
    refine (cIsCpu HA.out c true (decide_eq_true hy)).mono ?_
    rintro e w1 ⟨rfl, rfl⟩
    clear hy
    go_wp2_with fail
    refine (cCopyOf v l _ HS.out.1 (by have := HS.out.2; omega)).mono ?_
    rintro e w1 ⟨ao, cap, rfl, hown, hb⟩
    have H := Lib.hid (And.intro hown hb)
    clear hown hb
    go_wp2
    go_ret
    exact ⟨_, rfl, by rw [HE.out]; exact Fresh.of H.out.1, H.out.2⟩
  · have HE := Lib.hid (listOf_no f hy)
    go_enter Try.func42, Try.ntmps42
    go_wp2_with fail
    refine (cIsCpu h cpu false (decide_eq_false hy)).mono ?_
    rintro e w1 ⟨rfl, rfl⟩
    clear h hy
    go_wp2
    go_ret
    exact ⟨_, rfl, by rw [HE.out]; exact Res.nil _ _, Below.refl _ _⟩
end

/-- a call that answers two things has come back -/
def Put2 (w : World) (T : TypeId) (B g n lim : Nat) (vs : Nat → Value) (f' : F) (out : List Int) (er : Int) (e : Ending) (w' : World) : Prop :=
  ∃ v vs', e = .returned (.tuple #[v, .int .i64 er]) ∧ NearG w' T B g vs' n lim f' ∧ Goes w w' n B g vs vs' ∧ Out w w' n B g vs vs' v out
def Take2 (w : World) (T : TypeId) (B g n lim : Nat) (vs : Nat → Value) (f' : F) (x : Int) (q : Bool) (e : Ending) (w' : World) : Prop :=
  ∃ vs', e = .returned (.tuple #[.int .i64 x, .bool q]) ∧ NearG w' T B g vs' n lim f' ∧ Goes w w' n B g vs vs'
theorem upd_upd (f : F) (c : Nat) (l m : List Int) : nUpd (nUpd f c l) c m = nUpd f c m := by
  funext i
  by_cases e : i = c
  · subst e; rw [upd_same, upd_same]
  · rw [nUpd_other _ _ e, nUpd_other _ _ e, nUpd_other _ _ e]
theorem nms_snoc (l : List Int) (x : Int) : nms (l ++ [x]) = nms l ++ [.int .i64 x] := by simp [nms]
theorem tdiv2 (N k : Nat) (h : k = (N + 1) / 2) : ((N : Int) + 1).tdiv 2 = (k : Int) := by
  rw [Int.tdiv_eq_ediv_of_nonneg (by omega)]
  omega
section
variable {w w' w1 : World} {T : TypeId} {B g n lim : Nat} {vs vs1 vs' : Nat → Value} {f : F}
theorem Out.pre {v : Value} {l : List Int} (h : Goes w w1 n B g vs vs1) (o : Out w1 w' n B g vs1 vs' v l) : Out w w' n B g vs vs' v l :=
  o.mono fun k ⟨h1, h2⟩ => ⟨h1, by
    rcases h2 with h2 | h2
    · exact h.2 k h2
    · exact .inr (Nat.le_trans h.1.size h2)⟩
theorem NearG.appended {wD wA : World} {c L gD capD : Nat} {v : Value} {xs : List Value} {x : Int} (h : NearG w T B g vs n lim f) (hc : c < n) (hv : vs c = v) (hL : (f c).length = L) (hx : nms (f c) = xs) (hl : L ≤ 64)
    (hown : wD.ownsRow 0 3 1 (.slice (some ⟨gD, 0, none⟩) (L + 1) capD) (L + 1) (xs ++ [.int .i64 x])) (hA : Kept (fun _ => False) w wA) (hg : wA.grownBy wD v.ownBlock) (hat : v.ownBlock = some gD ∨ gD = wA.heap.size) :
    (wD.cell? ⟨B, 0, none⟩ = some (.slice (some ⟨g, 0, none⟩) n n) ∧ wD.cell? ⟨g, c, none⟩ = some v ∧ wD.frozen? ⟨g, c, none⟩ = false) ∧
    NearG (wD.setCell ⟨g, c, none⟩ (.slice (some ⟨gD, 0, none⟩) (L + 1) capD)) T B g (updV vs c (.slice (some ⟨gD, 0, none⟩) (L + 1) capD)) n lim (nUpd f c (f c ++ [x])) ∧
    Goes w (wD.setCell ⟨g, c, none⟩ (.slice (some ⟨gD, 0, none⟩) (L + 1) capD)) n B g vs (updV vs c (.slice (some ⟨gD, 0, none⟩) (L + 1) capD)) := by
  subst hv hL hx
  have hsz := hA.size
  have hk : Kept (fun k => (vs c).ownBlock = some k) w wD := by
    refine ⟨hg.os.trans hA.os, hg.tape.trans hA.tape, hg.output.trans hA.output, by have := hg.size; omega, fun k h1 h2 => ?_⟩
    rw [hg.block k (by omega) (fun e => h2 e.symm)]
    exact hA.block k h1 id
  have hl2 : (f c ++ [x]).length = (f c).length + 1 := by simp
  obtain ⟨h1, h2⟩ := h.write (l := f c ++ [x]) (v' := .slice (some ⟨gD, 0, none⟩) ((f c).length + 1) capD) hk (fun k e => e) hc (by rw [hl2, nms_snoc]; exact hown) (by omega) (fun k e => by
    obtain rfl : gD = k := by simpa [Value.ownBlock] using e
    rcases hat with e | e
    · exact .inl e
    · exact .inr (by omega))
  refine ⟨⟨cell_kept h.self.1 hk (h.ownB hc), cell_kept (h.tab.cell hc) hk (h.ownG hc), ?_⟩, h1, h2⟩
  exact (row_kept h.tab hk (h.ownG hc)).frozen c
set_option maxHeartbeats 16000000 in
set_option maxRecDepth 100000 in
theorem cPutIn (h : NearG w 89 B g vs n lim f) (hf : Fine n lim f) {c : Nat} {page : Int} (hc : c < n) (hp1 : 0 ≤ page) (hp2 : page < 1024) (hb : hasB f n page = false) :
    Calls Try.prog 40 #[.pointer (some ⟨B, 0, none⟩), .int .i64 c, .int .i64 page] w fun e w' => ((f c).length + 1 ≤ lim → Put2 w 89 B g n lim vs (nUpd f c (f c ++ [page])) [] 0 e w') ∧
      (lim < (f c).length + 1 → ∀ k, k = ((f c).length + 1 + 1) / 2 → Put2 w 89 B g n lim vs (nUpd f c ((f c ++ [page]).drop k)) ((f c ++ [page]).take k) 0 e w') := by
  have HA := Lib.hid h
  obtain ⟨c0, c1⟩ := h.self
  have hn := h.n1
  have hl64 := h.lim64
  obtain ⟨i0, hi, hz0, hz1, hz2⟩ := info_parts infoI
  have HQ := Lib.hid (decide_eq_true (show (0 : Int) ≤ (c : Int) ∧ (c : Int) < (n : Int) by omega))
  have HB := Lib.hid hb
  obtain ⟨v, hv⟩ : ∃ v, vs c = v := ⟨_, rfl⟩
  obtain ⟨L, hL⟩ : ∃ L, (f c).length = L := ⟨_, rfl⟩
  obtain ⟨xs, hxs⟩ : ∃ xs, nms (f c) = xs := ⟨_, rfl⟩
  have hL64 : L ≤ 64 := by have := hf c hc; omega
  have HV := Lib.hid (And.intro hv (And.intro hL hxs))
  rw [hL]
  obtain ⟨N, hN⟩ : ∃ N, L + 1 = N := ⟨_, rfl⟩
  have hNL : N ≤ 65 := by omega
  have HLN := Lib.hid hN
  rw [hN]
  clear hN
  clear h hb hv hL hxs hf
  go_enter Try.func40, Try.ntmps40
  go_wp2_with fail
  refine (cIsCpu HA.out c true HQ.out).mono ?_
  rintro e w1 ⟨rfl, rfl⟩
  go_wp2_with fail
  refine (cHas HA.out page false HB.out).mono ?_
  rintro e w2 ⟨rfl, hb⟩
  have HA2 := Lib.hid (HA.out.below hb)
  have HB2 := Lib.hid hb
  obtain ⟨k0, k1⟩ := HA2.out.self
  have k2 := HA2.out.tab.cell hc
  have hown := HA2.out.row c hc
  rw [HV.out.1] at k2 hown
  rw [HV.out.2.1, HV.out.2.2] at hown
  have HO := Lib.hid hown
  obtain ⟨hltB, hltg⟩ := HA2.out.lt
  clear hb hown c0 c1
  go_upto_region 7 with fail
  go_cut [] from 34 (fun wx => ∃ gD capD, NearG wx 89 B g (updV vs c (.slice (some ⟨gD, 0, none⟩) N capD)) n lim (nUpd f c (f c ++ [page])) ∧ Goes w1 wx n B g vs (updV vs c (.slice (some ⟨gD, 0, none⟩) N capD)))
  case first =>
    go_region_law (refine step_append_lies _ (by rfl) _ _ 73 (by rfl) 0 3 i0 (.int .i64 0) 1 8 Try.underlying73 hi hz0 hz1 hz2 rfl (by decide) v L xs (by rfl) (HO.out.alloc _).drew ⟨w2.heap.size, 0, none⟩ 1 1 [.int .i64 page] (by rfl) (by rfl) (cell_one_new w2 _ _) (by intro u hu; simp at hu; subst hu; rfl) (by decide) (by unfold maxLen; omega) (by omega) (Nat.zero_le _) _ rfl ?_; intro gD capD wD ownD growD hatD hltD; have HD := Lib.hid (HA2.out.appended hc HV.out.1 HV.out.2.1 HV.out.2.2 hL64 ownD ((Kept.refl _ w2).alloc _).drew growD hatD); obtain ⟨q0, q1, q2⟩ := HD.out.1)
    all_goals
      have hN0 := HD.out.2.1
      have hG0 := (Goes.of_below (n := n) (B := B) (g := g) (vs := vs) HB2.out).trans HD.out.2.2
      rw [HLN.out] at hN0 hG0
      have H5 := Lib.hid (And.intro hN0 hG0)
      clear hN0 hG0 HD q0 q1 q2 growD hatD hltD ownD
      go_wp2_with fail
      go_meet
      case rel => exact ⟨gD, capD, by rw [HLN.out]; exact H5.out.1, by rw [HLN.out]; exact H5.out.2⟩
  case rest =>
    obtain ⟨gD, capD, hN0, hG0⟩ := hcut
    have hcell := hN0.tab.cell hc
    rw [updV_same] at hcell
    obtain ⟨e0, e1⟩ := hN0.self
    have HN := Lib.hid hN0
    have HG := Lib.hid hG0
    clear hN0 hG0 k0 k1 k2 hltB hltg
    by_cases hle : N ≤ lim
    · go_wp2
      go_ret2
      exact ⟨fun _ => ⟨_, _, rfl, HN.out, HG.out, Out.nil _ _ _ _ _ _ _⟩, fun e => absurd e (by omega)⟩
    · obtain ⟨k, hk⟩ : ∃ k, k = (N + 1) / 2 := ⟨_, rfl⟩
      have hkt := tdiv2 N k hk
      have HK := Lib.hid hk
      have hkb : k ≤ 100 := by omega
      have hkl : Hid (k ≤ (nUpd f c (f c ++ [page]) c).length) := Lib.hid (by rw [upd_same, List.length_append, HV.out.2.1]; have := HLN.out; simp; omega)
      clear hk
      go_wp2_with fail
      refine (cCutOff HN.out c k hc hkl.out).mono ?_
      rintro e w5 ⟨v5, vs5, rfl, h1, h2, h3⟩
      rw [upd_same] at h1 h3
      rw [upd_upd] at h1
      have HC := Lib.hid (And.intro h1 (And.intro (HG.out.trans h2) (Out.pre HG.out h3)))
      clear h1 h2 h3
      go_wp2
      go_ret2
      exact ⟨fun e => absurd e (by omega), fun _ k' hk' => by rw [show k' = k by rw [hk', HK.out]]; exact ⟨_, _, rfl, HC.out.1, HC.out.2.1, HC.out.2.2⟩⟩
set_option maxHeartbeats 16000000 in
set_option maxRecDepth 100000 in
theorem cPut (h : NearG w 89 B g vs n lim f) (hf : Fine n lim f) {cpu page er : Int} {out : List Int} {f' : F} (hr : PutIs n lim f cpu page out er f') :
    Calls Try.prog 40 #[.pointer (some ⟨B, 0, none⟩), .int .i64 cpu, .int .i64 page] w (Put2 w 89 B g n lim vs f' out er) := by
  have HA := Lib.hid h
  obtain ⟨c0, c1⟩ := h.self
  have hn := h.n1
  have hl64 := h.lim64
  have HF := Lib.hid hf
  clear hf
  cases hr with
  | range _ _ hno =>
    by_cases hcpu : 0 ≤ cpu ∧ cpu < n
    · have HQ := Lib.hid (decide_eq_true hcpu)
      by_cases hp : 0 ≤ page
      · have hp2 : ¬ page < 1024 := fun e => hno ⟨hcpu, hp, e⟩
        clear h hno hcpu
        go_enter Try.func40, Try.ntmps40
        go_wp2_with fail
        refine (cIsCpu HA.out cpu true HQ.out).mono ?_
        rintro e w1 ⟨rfl, rfl⟩
        go_wp2
        go_ret2
        exact ⟨_, _, rfl, HA.out, Goes.of_below (Below.refl _ _), Out.nil _ _ _ _ _ _ _⟩
      · clear h hno hcpu
        go_enter Try.func40, Try.ntmps40
        go_wp2_with fail
        refine (cIsCpu HA.out cpu true HQ.out).mono ?_
        rintro e w1 ⟨rfl, rfl⟩
        go_wp2
        go_ret2
        exact ⟨_, _, rfl, HA.out, Goes.of_below (Below.refl _ _), Out.nil _ _ _ _ _ _ _⟩
    · have HQ := Lib.hid (decide_eq_false hcpu)
      clear h hno hcpu
      go_enter Try.func40, Try.ntmps40
      go_wp2_with fail
      refine (cIsCpu HA.out cpu false HQ.out).mono ?_
      rintro e w1 ⟨rfl, rfl⟩
      go_wp2
      go_ret2
      exact ⟨_, _, rfl, HA.out, Goes.of_below (Below.refl _ _), Out.nil _ _ _ _ _ _ _⟩
  | block c _ hc hp1 hp2 hb =>
    have HQ := Lib.hid (decide_eq_true (show (0 : Int) ≤ (c : Int) ∧ (c : Int) < (n : Int) by omega))
    have HB := Lib.hid hb
    clear h hb
    go_enter Try.func40, Try.ntmps40
    go_wp2_with fail
    refine (cIsCpu HA.out c true HQ.out).mono ?_
    rintro e w1 ⟨rfl, rfl⟩
    go_wp2_with fail
    refine (cHas HA.out page true HB.out).mono ?_
    rintro e w2 ⟨rfl, hb⟩
    have H := Lib.hid hb
    clear hb
    go_wp2
    go_ret2
    exact ⟨_, _, rfl, HA.out.below H.out, Goes.of_below H.out, Out.nil _ _ _ _ _ _ _⟩
  | ok c _ hc hp1 hp2 hb hle => exact (cPutIn HA.out HF.out hc hp1 hp2 hb).mono fun e w' h => h.1 hle
  | cut c _ k hc hp1 hp2 hb hgt hk => exact (cPutIn HA.out HF.out hc hp1 hp2 hb).mono fun e w' h => h.2 hgt k hk
end
end Go.Proofs.Ytlljomnpdgmifaa
