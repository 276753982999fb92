/-
  parts and shelf of the document.
-/
import Derived.Test.YtnnfmlbgoplnaaaRli
set_option linter.unusedVariables false
set_option linter.unusedSimpArgs false
namespace Go.Proofs.Ytnnfmlbgoplnaaa
open Go Go.RowKit

/-- words -/
def Wordy (l : List Int) : Prop := ∀ i, okW (pk l i)
theorem next_in {c : Ch} (ho : c.ok) {s : Int} (h0 : 0 ≤ s) (h1 : s < c.slabs) : c.next s = c.s0 + 4 * s + 2 := by
  unfold Ch.next
  rw [show inB s c.slabs = true by simp [inB]; omega, Ch.at_yes ho]
theorem first_in {c : Ch} (ho : c.ok) {s : Int} (h0 : 0 ≤ s) (h1 : s < c.slabs) : c.first s = c.s0 + 4 * s := by
  unfold Ch.first
  rw [show inB s c.slabs = true by simp [inB]; omega, Ch.at_yes ho]
/-- a word of a slab is within -/
theorem slab_at {c : Ch} (ho : c.ok) {s : Int} (h0 : 0 ≤ s) (h1 : s < c.slabs) (j : Nat) (hj : j < 4) : ∃ P : Nat, c.s0 + 4 * s + j = P ∧ (P : Int) < c.n := by
  have hp := Ch.prod ho
  obtain ⟨⟨o1, o2⟩, ⟨o3, o4⟩, ⟨o5, o6⟩, _⟩ := ho
  refine ⟨(c.s0 + 4 * s + j).toNat, ?_, ?_⟩
  · unfold Ch.s0; omega
  · unfold Ch.s0 Ch.n; omega
/-- no slab, none that there is, or one that has been -/
def badP (c : Ch) (b : Bool) (s : Int) (seen : List Int) : Prop := b = false ∨ c.slabs ≤ s ∨ s ∈ seen
/-- under way: what has been found, its row -/
structure Way (w0 : World) (c : Ch) (seen : List Int) (n : Nat) (v : Value) (wr : World) : Prop where
  len : seen.length = n
  ok : SeenS c seen
  own : OwnI w0.heap.size wr v seen
  low : Below w0.heap.size w0 wr
theorem gives_way {w : World} {c : Ch} {seen : List Int} {n : Nat} {ao : Option Addr} {cp : Nat} {wr : World} (h : Way (w.alloc (chO c)) c seen n (.slice ao n cp) wr) : Gives w (seen, 0) (.returned (.tuple #[.slice ao n cp, .int .i64 0])) wr := by
  have hs : w.heap.size ≤ (w.alloc (chO c)).heap.size := by rw [size_alloc]; omega
  obtain ⟨rfl, h2, h3, h4⟩ := h
  exact ⟨ao, cp, rfl, h3.le hs, (below_one (Below.refl _ _) _).trans (h4.mono hs)⟩
theorem Way.one {w : World} {c : Ch} {seen : List Int} {n : Nat} {v : Value} {wr : World} (h : Way (w.alloc (chO c)) c seen n v wr) : One w w.heap.size c wr := (one_new w c).next h.low
set_option maxHeartbeats 4000000 in
set_option maxRecDepth 100000 in
theorem rParts (u : Value) (l : List Int) (c : Ch) (hw : c.wf) (ho : c.ok) (hl : (l.length : Int) = c.n) (hy : Wordy l) (v : Int) (hv : okW v) (w : World) (hu : ShowU w u l) :
    Calls Try.prog 66 #[u, c.agg, .int .u64 v] w (Gives w (prW l c [] v)) := by
  obtain ⟨ao, cap, rfl, ⟨hc1, hc2⟩, hat⟩ := hu.form
  obtain ⟨R, hR⟩ : ∃ R, prW l c [] v = R := ⟨_, rfl⟩
  rw [hR]
  have HR := Lib.hid hR
  have HV := Lib.hid hv
  have HAT := Lib.hid hat
  have HY := Lib.hid hy
  have HO := Lib.hid ho
  have HN := Lib.hid (fun s w => dNext c hw s w)
  have HLN := Lib.hid hl
  obtain ⟨_, ⟨o3, o4⟩, _⟩ := ho
  clear hu hat hR hv hy hw hl
  go_enter Try.func66, Try.ntmps66
  go_wp2
  go_loopw [2, 8] (fun x o wr => ∃ (seen : List Int) (V : Int) (ao' : Option Addr) (n cp : Nat), x = .int .u64 V ∧ o = .slice ao' n cp ∧ n ≤ 32 ∧ cp ≤ 9223372036854775807 ∧ Hid (okW V) ∧ Hid (prW l c seen V = R) ∧ Hid (Way (w.alloc (chO c)) c seen n (.slice ao' n cp) wr)) (fun _ o _ => 33 - (match o with | .slice _ n _ => n | _ => 0))
  case atStart => exact ⟨[], v, none, 0, 0, rfl, rfl, by omega, by omega, HV, HR, Lib.hid ⟨rfl, SeenS.nil c, OwnI.nil _ _, Below.refl _ _⟩⟩
  case round =>
    clear HR HV
    obtain ⟨seen, V, ao', n, cp, rfl, rfl, hn, hcp, HV, HR, HW⟩ := hrel
    have HPO := Lib.hid (fun w => rPartOf V HV.out w)
    have hlen : seen.length ≤ 32 := by rw [HW.out.len]; exact hn
    obtain ⟨b, hb⟩ : ∃ b, decide (isP V) = b := ⟨_, rfl⟩
    have hbi : (¬ isP V ∨ c.slabs ≤ pS V ∨ pS V ∈ seen) ↔ badP c b (pS V) seen := by unfold badP; rw [← hb]; simp
    have HB : Hid (badP c b (pS V) seen → R = ([], 150)) := Lib.hid (fun h => by rw [← HR.out, pr_bad hlen (hbi.2 h)])
    have HE : Hid (¬ badP c b (pS V) seen → pS V < 0 → R = (seen, 0)) := Lib.hid (fun h h2 => by rw [← HR.out, pr_end hlen (fun e => h (hbi.1 e)) h2])
    have HS : Hid (¬ badP c b (pS V) seen → 0 ≤ pS V → prW l c (seen ++ [pS V]) (nxW l c (pS V)) = R) := Lib.hid (fun h h2 => by rw [← HR.out, pr_step hlen (fun e => h (hbi.1 e)) (by omega)])
    rw [hb] at HPO
    clear HR hlen hb hbi
    generalize pS V = s at *
    generalize pM V = m at *
    obtain ⟨e0, e1, e2, e3, e4, e5, _⟩ := HW.out.one.six
    have HCL : Hid (One w w.heap.size c wr) := Lib.hid HW.out.one
    go_wp2_with fail
    refine (HPO.out _).mono ?_
    rintro e wr ⟨rfl, rfl⟩
    cases b with
    | false =>
      have HX := Lib.hid (HB.out (.inl rfl))
      clear HB HE HS HPO
      obtain rfl := HX.out
      go_wp2
      try rw [Exit.noGoto_ret]
      go_ret2
      exact gives_none HCL.out.low _
    | true =>
      by_cases h2 : c.slabs ≤ s
      · have HX := Lib.hid (HB.out (.inr (.inl h2)))
        clear HB HE HS HPO
        obtain rfl := HX.out
        go_wp2
        try rw [Exit.noGoto_ret]
        go_ret2
        exact gives_none HCL.out.low _
      · obtain ⟨q, hq⟩ : ∃ q, decide (s ∈ seen) = q := ⟨_, rfl⟩
        have hshow : ShowI wr (.slice ao' n cp) seen := HW.out.own.shows
        have HH := Lib.hid (rHas _ seen s q hq wr hshow)
        have HQ := Lib.hid hq
        clear hq hshow HPO
        go_wp2_with fail
        refine HH.out.mono ?_
        rintro e wr ⟨rfl, rfl⟩
        clear HH
        cases q with
        | true =>
          have HX := Lib.hid (HB.out (.inr (.inr (of_decide_eq_true HQ.out))))
          clear HB HE HS HQ
          obtain rfl := HX.out
          go_wp2
          try rw [Exit.noGoto_ret]
          go_ret2
          exact gives_none HCL.out.low _
        | false =>
          have hns := of_decide_eq_false HQ.out
          have HNB : Hid (¬ badP c true s seen) := Lib.hid (by rintro (h | h | h); cases h; omega; exact hns h)
          clear HB HQ
          by_cases h3 : s < 0
          · have HX := Lib.hid (HE.out HNB.out h3)
            clear HE HS HNB hns
            obtain rfl := HX.out
            go_wp2
            try rw [Exit.noGoto_ret]
            go_ret2
            exact gives_way HW.out
          · have HX := Lib.hid (HS.out HNB.out (by omega))
            have hadd := HW.out.ok.add (by omega) (by omega) hns
            have HADD := Lib.hid hadd
            have hl2 := hadd.len HO.out
            rw [List.length_append, List.length_singleton, HW.out.len] at hl2
            obtain ⟨P, hP, hPn⟩ := slab_at HO.out (s := s) (by omega) (by omega) 2 (by omega)
            have hnx : c.next s = (P : Int) := by rw [next_in HO.out (by omega) (by omega)]; exact hP
            have hPl : P < l.length := by have := HLN.out; omega
            obtain ⟨b1, o1, rfl, c1⟩ := HAT.out P hPl
            have hpw : nxW l c s = pk l P := by unfold nxW; rw [show c.s0 + 4 * s + 2 = (P : Int) from hP]; rfl
            rw [hpw] at HX
            have HN2 := fun w => HN.out s w
            rw [hnx] at HN2
            have HN2 := Lib.hid HN2
            have HVN := Lib.hid (HY.out P)
            generalize pk l P = V2 at *
            have hown := OwnI.below HW.out.own (below_one (Below.refl _ _) (.cells #[.int .i64 s] 3))
            have hlit : ShowI (wr.alloc (.cells #[.int .i64 s] 3)) (.slice (some ⟨wr.heap.size, 0, none⟩) 1 1) [s] := lit_i wr 3 [s] 1 rfl (by omega)
            have hg : (w.alloc (chO c)).heap.size ≤ (wr.alloc (.cells #[.int .i64 s] 3)).heap.size := by rw [size_alloc wr]; have := HW.out.low.size; omega
            have hln : seen.length + [s].length ≤ 1000 := by rw [HW.out.len]; simp; omega
            have hln2 : (seen ++ [s]).length = n + 1 := by rw [List.length_append, HW.out.len]; rfl
            have HLW := Lib.hid (HW.out.low.trans ((below_one (Below.refl wr.heap.size wr) (.cells #[.int .i64 s] 3)).mono HW.out.low.size))
            have HC1 := Lib.hid c1
            clear HE HS HNB hns hadd hP hPn hnx hpw HW c1 HCL e0 e1 e2 e3 e4 e5
            go_wp2_with (at_builtin; refine wpList_appendI (by rfl) _ _ (by rfl) (w.alloc (chO c)).heap.size _ _ seen [s] (n + 1) (by rfl) (by rfl) hown hlit hln hg hln2 ?_; intro ao2 cp2 w2 ho2 hb2; have HW2 : Hid (Way (w.alloc (chO c)) c (seen ++ [s]) (n + 1) (.slice ao2 (n + 1) cp2) w2) := Lib.hid ⟨hln2, HADD.out, ho2, HLW.out.trans hb2⟩; clear ho2 hb2 hown hlit hg hln hln2 HLW HADD; refine Stop.mk ?_)
            unfold Stop
            obtain ⟨e0, e1, e2, e3, e4, e5, _⟩ := HW2.out.one.six
            have d1 := cell_keep HW2.out.one.low HC1.out
            have HD1 := Lib.hid d1
            have hcp2 : cp2 ≤ 9223372036854775807 := by
              obtain ⟨_, _, hsl, _, hm⟩ := own_shape HW2.out.own
              obtain ⟨_, _, hc⟩ := Value.slice.inj hsl
              rw [hc]
              exact hm
            clear HC1
            go_wp2_with fail
            refine (HN2.out _).mono ?_
            rintro e w3 ⟨rfl, hb3⟩
            have HW3 : Hid (Way (w.alloc (chO c)) c (seen ++ [s]) (n + 1) (.slice ao2 (n + 1) cp2) w3) := Lib.hid ⟨HW2.out.len, HW2.out.ok, HW2.out.own.below hb3, HW2.out.low.trans (hb3.mono HW2.out.low.size)⟩
            have d3 := cell_keep hb3 HD1.out
            clear hb3 d1 HD1 e0 e1 e2 e3 e4 e5 HW2 HN2
            generalize seen ++ [s] = seen2 at *
            go_wp2
            go_roundw
            case rel => exact ⟨seen2, V2, ao2, n + 1, cp2, rfl, rfl, by omega, hcp2, HVN, HX, HW3⟩
            case measure => simp; omega
set_option maxHeartbeats 4000000 in
set_option maxRecDepth 100000 in
theorem rShelf (u : Value) (l : List Int) (c : Ch) (hw : c.wf) (ho : c.ok) (hl : (l.length : Int) = c.n) (hy : Wordy l) (w : World) (hu : ShowU w u l) :
    Calls Try.prog 53 #[u, c.agg] w (Gives w (shelfF l c)) := by
  obtain ⟨ao, cap, rfl, ⟨hc1, hc2⟩, hat⟩ := hu.form
  obtain ⟨P0, hP0, hP0n⟩ : ∃ P0 : Nat, 4 * c.cpus + 1 = P0 ∧ (P0 : Int) < c.n := by
    have hp := Ch.prod ho
    obtain ⟨⟨o1, o2⟩, ⟨o3, o4⟩, ⟨o5, o6⟩, _⟩ := ho
    exact ⟨(4 * c.cpus + 1).toNat, by omega, by unfold Ch.n; omega⟩
  obtain ⟨b0, q0, rfl, g0⟩ := hat P0 (by omega)
  have hsv : shelfF l c = shW l c [] (pk l P0) := by unfold shelfF; rw [hP0]; rfl
  rw [hsv]
  obtain ⟨R, hR⟩ : ∃ R, shW l c [] (pk l P0) = R := ⟨_, rfl⟩
  rw [hR]
  have HR := Lib.hid hR
  have HV := Lib.hid (hy P0)
  have hS0 := fun w => dShelf c hw w
  rw [show c.shelf = (P0 : Int) by rw [← hP0]; exact Ch.at_yes ho] at hS0
  have HS0 := Lib.hid hS0
  have HG0 := Lib.hid g0
  generalize pk l P0 = v at *
  have HAT := Lib.hid hat
  have HY := Lib.hid hy
  have HO := Lib.hid ho
  have HN := Lib.hid (fun s w => dNext c hw s w)
  have HLN := Lib.hid hl
  have hPl0 : P0 < l.length := by omega
  obtain ⟨_, ⟨o3, o4⟩, _⟩ := ho
  have hwu : IntKind.u64.wrap c.slabs = c.slabs := by rw [IntKind.wrap_u64]; omega
  have HT0 := Lib.hid (one_new w c)
  clear hu hat hR hy hw hl hsv hS0 g0 hP0 hP0n
  go_enter Try.func53, Try.ntmps53
  go_wp2_with fail
  refine (HS0.out _).mono ?_
  rintro e w1 ⟨rfl, hb1⟩
  have HW1 : Hid (Way (w.alloc (chO c)) c [] 0 (.slice none 0 0) w1) := Lib.hid ⟨rfl, SeenS.nil c, OwnI.nil _ _, hb1⟩
  have d0 := cell_keep HW1.out.one.low HG0.out
  clear hb1 HS0 HG0 HT0
  go_wp2
  go_loopw [6, 7] (fun o x wr => ∃ (seen : List Int) (V : Int) (ao' : Option Addr) (n cp : Nat), x = .int .u64 V ∧ o = .slice ao' n cp ∧ n ≤ 32 ∧ cp ≤ 9223372036854775807 ∧ Hid (okW V) ∧ Hid (shW l c seen V = R) ∧ Hid (Way (w.alloc (chO c)) c seen n (.slice ao' n cp) wr)) (fun o _ _ => 33 - (match o with | .slice _ n _ => n | _ => 0))
  case atStart => exact ⟨[], v, none, 0, 0, rfl, rfl, by omega, by omega, HV, HR, HW1⟩
  case round =>
    clear HR HV HW1 d0
    obtain ⟨seen, V, ao', n, cp, rfl, rfl, hn, hcp, HV, HR, HW⟩ := hrel
    have hlen : seen.length ≤ 32 := by rw [HW.out.len]; exact hn
    have HV0 := HV.out
    obtain ⟨hv0, hv1⟩ := HV0
    have HCL : Hid (One w w.heap.size c wr) := Lib.hid HW.out.one
    obtain ⟨e0, e1, e2, e3, e4, e5, _⟩ := HW.out.one.six
    by_cases hz : V = 0
    · subst hz
      have HX : Hid (R = (seen, 0)) := Lib.hid (by rw [← HR.out, sh_end hlen])
      clear HR
      obtain rfl := HX.out
      go_wp2
      go_ret2
      exact gives_way HW.out
    · by_cases h2 : c.slabs < V
      · have HX : Hid (R = ([], 150)) := Lib.hid (by rw [← HR.out, sh_bad hlen hz (.inl h2)])
        clear HR
        obtain rfl := HX.out
        have hz2 : (V != 0) = true := by simpa using hz
        go_wp2
        try rw [Exit.noGoto_ret]
        go_ret2
        exact gives_none HCL.out.low _
      · have hz2 : (V != 0) = true := by simpa using hz
        have hwi : IntKind.i64.wrap V = V := IntWalk.i64_in _ (by omega)
        obtain ⟨s, hs⟩ : ∃ s, V - 1 = s := ⟨_, rfl⟩
        have HB : Hid (s ∈ seen → R = ([], 150)) := Lib.hid (fun h => by rw [← HR.out, sh_bad hlen hz (.inr (by rw [hs]; exact h))])
        have HS : Hid (¬ s ∈ seen → shW l c (seen ++ [s]) (nxW l c s) = R) := Lib.hid (fun h => by rw [← HR.out, sh_step hlen hz (by rintro (e | e); exact h2 e; rw [hs] at e; exact h e), hs])
        have hs0 : 0 ≤ s := by omega
        have hs1 : s < c.slabs := by omega
        have hwm : IntKind.i64.wrap (V - 1) = s := by rw [hs]; exact IntWalk.i64_in _ (by omega)
        obtain ⟨q, hq⟩ : ∃ q, decide (s ∈ seen) = q := ⟨_, rfl⟩
        have hshow : ShowI wr (.slice ao' n cp) seen := HW.out.own.shows
        have HH := Lib.hid (rHas _ seen s q hq wr hshow)
        have HQ := Lib.hid hq
        clear hq hshow HR hz hlen
        go_wp2_with fail
        refine HH.out.mono ?_
        rintro e wr ⟨rfl, rfl⟩
        clear HH
        cases q with
        | true =>
          have HX := Lib.hid (HB.out (of_decide_eq_true HQ.out))
          clear HB HS HQ
          obtain rfl := HX.out
          go_wp2
          try rw [Exit.noGoto_ret]
          go_ret2
          exact gives_none HCL.out.low _
        | false =>
          have hns := of_decide_eq_false HQ.out
          clear HB HQ
          · have HX := Lib.hid (HS.out hns)
            have hadd := HW.out.ok.add (by omega) (by omega) hns
            have HADD := Lib.hid hadd
            have hl2 := hadd.len HO.out
            rw [List.length_append, List.length_singleton, HW.out.len] at hl2
            obtain ⟨P, hP, hPn⟩ := slab_at HO.out (s := s) (by omega) (by omega) 2 (by omega)
            have hnx : c.next s = (P : Int) := by rw [next_in HO.out (by omega) (by omega)]; exact hP
            have hPl : P < l.length := by have := HLN.out; omega
            obtain ⟨b1, o1, e1', c1⟩ := HAT.out P hPl
            obtain ⟨rfl, rfl⟩ : b0 = b1 ∧ q0 = o1 := by cases e1'; exact ⟨rfl, rfl⟩
            have hpw : nxW l c s = pk l P := by unfold nxW; rw [show c.s0 + 4 * s + 2 = (P : Int) from hP]; rfl
            rw [hpw] at HX
            have HN2 := fun w => HN.out s w
            rw [hnx] at HN2
            have HN2 := Lib.hid HN2
            have HVN := Lib.hid (HY.out P)
            generalize pk l P = V2 at *
            have hown := OwnI.below HW.out.own (below_one (Below.refl _ _) (.cells #[.int .i64 s] 3))
            have hlit : ShowI (wr.alloc (.cells #[.int .i64 s] 3)) (.slice (some ⟨wr.heap.size, 0, none⟩) 1 1) [s] := lit_i wr 3 [s] 1 rfl (by omega)
            have hg : (w.alloc (chO c)).heap.size ≤ (wr.alloc (.cells #[.int .i64 s] 3)).heap.size := by rw [size_alloc wr]; have := HW.out.low.size; omega
            have hln : seen.length + [s].length ≤ 1000 := by rw [HW.out.len]; simp; omega
            have hln2 : (seen ++ [s]).length = n + 1 := by rw [List.length_append, HW.out.len]; rfl
            have HLW := Lib.hid (HW.out.low.trans ((below_one (Below.refl wr.heap.size wr) (.cells #[.int .i64 s] 3)).mono HW.out.low.size))
            have HC1 := Lib.hid c1
            clear e1' HS hns hadd hP hPn hnx hpw HW c1 HCL e0 e1 e2 e3 e4 e5
            go_wp2_with (at_builtin; refine wpList_appendI (by rfl) _ _ (by rfl) (w.alloc (chO c)).heap.size _ _ seen [s] (n + 1) (by rfl) (by rfl) hown hlit hln hg hln2 ?_; intro ao2 cp2 w2 ho2 hb2; have HW2 : Hid (Way (w.alloc (chO c)) c (seen ++ [s]) (n + 1) (.slice ao2 (n + 1) cp2) w2) := Lib.hid ⟨hln2, HADD.out, ho2, HLW.out.trans hb2⟩; clear ho2 hb2 hown hlit hg hln hln2 HLW HADD; refine Stop.mk ?_)
            unfold Stop
            obtain ⟨e0, e1, e2, e3, e4, e5, _⟩ := HW2.out.one.six
            have d1 := cell_keep HW2.out.one.low HC1.out
            have HD1 := Lib.hid d1
            have hcp2 : cp2 ≤ 9223372036854775807 := by
              obtain ⟨_, _, hsl, _, hm⟩ := own_shape HW2.out.own
              obtain ⟨_, _, hc⟩ := Value.slice.inj hsl
              rw [hc]
              exact hm
            clear HC1
            go_wp2_with fail
            refine (HN2.out _).mono ?_
            rintro e w3 ⟨rfl, hb3⟩
            have HW3 : Hid (Way (w.alloc (chO c)) c (seen ++ [s]) (n + 1) (.slice ao2 (n + 1) cp2) w3) := Lib.hid ⟨HW2.out.len, HW2.out.ok, HW2.out.own.below hb3, HW2.out.low.trans (hb3.mono HW2.out.low.size)⟩
            have d3 := cell_keep hb3 HD1.out
            clear hb3 d1 HD1 e0 e1 e2 e3 e4 e5 HW2 HN2
            generalize seen ++ [s] = seen2 at *
            go_wp2
            go_roundw
            case rel => exact ⟨seen2, V2, ao2, n + 1, cp2, rfl, rfl, by omega, hcp2, HVN, HX, HW3⟩
            case measure => simp; omega
end Go.Proofs.Ytnnfmlbgoplnaaa
