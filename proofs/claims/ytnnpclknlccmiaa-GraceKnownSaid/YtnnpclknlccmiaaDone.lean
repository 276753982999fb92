/-
  done of what is noted: a call of the machine, and what is noted of it.
-/
import Derived.Test.YtnnpclknlccmiaaPld
set_option linter.unusedVariables false
set_option linter.unusedSimpArgs false
namespace Go.Proofs.Ytnnpclknlccmiaa
open Go Go.RowKit

/-- the machine and what is noted of it, in one world -/
structure GK (W w : World) (B p K : Nat) (g : Gr) (k : Bk) : Prop where
  ma : G0 W w B p 3 g
  bk : ∃ vs, KV w K vs k ∧ ∀ b, SB K vs b → W.heap.size ≤ b
section
variable {W w w' : World} {B p K : Nat} {g g' : Gr} {k k' : Bk} {c : Nat} {er : Int}
theorem GK.mach (h : GK W w B p K g k) {vs : Nat → Value} (ha : GV w' B p 3 vs g') (hk : Kept (OwnG B p) w w') : GK W w' B p K g' k := by
  obtain ⟨va, ga⟩ := h.ma.pa
  obtain ⟨vb, hb, hl⟩ := h.bk
  exact ⟨h.ma.go ha hk, vb, hb.kept hk ga.typ (by decide), hl⟩
theorem GK.book (h : GK W w B p K g k) {vs vs' : Nat → Value} (hv : KV w K vs k) (hl : ∀ b, SB K vs b → W.heap.size ≤ b) (hv' : KV w' K vs' k') (hk : Kept (SB K vs) w w') (hl' : ∀ b, SB K vs' b → W.heap.size ≤ b) : GK W w' B p K g k' := by
  obtain ⟨va, ga⟩ := h.ma.pa
  exact ⟨⟨⟨va, ga.kept hk hv.tys (by decide)⟩, below_kept h.ma.low hk hl, h.ma.ge⟩, vs', hv', hl'⟩
theorem GK.below (h : GK W w B p K g k) (hb : Below w.heap.size w w') : GK W w' B p K g k := by
  obtain ⟨va, ga⟩ := h.ma.pa
  exact h.mach (ga.below hb) (Kept.ofBelow hb)
theorem GK.gv (h : GK W w B p K g k) : ∃ vs, GV w B p 3 vs g := h.ma.pa
theorem GK.cd (h : GK W w B p K g k) (hc : c < 3) : w.cell? ⟨K, c, none⟩ = some (.int .i64 (k.dp c)) := by
  obtain ⟨vb, hb, _⟩ := h.bk
  exact hb.cd hc
theorem GK.fr (h : GK W w B p K g k) (i : Nat) : w.frozen? ⟨K, i, none⟩ = false := by
  obtain ⟨vb, hb, _⟩ := h.bk
  exact hb.fr i
theorem GK.deep (h : GK W w B p K g k) (hc : c < 3) {d : Nat} {x : Int} (hx : x = d) : GK W (w.setCell ⟨K, c, none⟩ (.int .i64 x)) B p K g (k.deep c d) := by
  obtain ⟨vb, hb, hl⟩ := h.bk
  obtain ⟨s1, s2⟩ := kset_deep hb hc hx
  exact h.book hb hl s1 s2 hl
theorem GK.dep (h : GK W w B p K g k) (hB : BI g k) (hc : c < 3) : ∃ x : Int, depF 3 g c = x ∧ w.cell? ⟨K, c, none⟩ = some (.int .i64 x) := ⟨_, by rw [dep_yes _ hc, ← hB.dp c hc], h.cd hc⟩
/-- what done leaves -/
def DoneOk (W : World) (B p K b : Nat) (e : Ending) (w' : World) : Prop := e = .returned (.bool true) ∧ ∃ g' k', GK W w' B p K g' k' ∧ BI g' k' ∧ GI 3 (b + 1) g'
theorem quiet_err {n : Nat} (h : QuietIs n g c er g') (hc : c < n) : (er = 292 ∧ 0 < g.dp c ∧ g = g') ∨ (er = 0 ∧ g.dp c = 0) := by
  generalize hcc : (c : Int) = cc at h
  cases h with
  | no _ hp => exact absurd (hcc ▸ isP_mk hc) hp
  | deep c' _ hd => obtain rfl : c = c' := by omega
                    exact .inl ⟨rfl, hd, rfl⟩
  | idle c' _ hd _ => obtain rfl : c = c' := by omega
                      exact .inr ⟨rfl, hd⟩
  | more c' _ hd _ _ => obtain rfl : c = c' := by omega
                        exact .inr ⟨rfl, hd⟩
  | last c' _ hd _ _ _ => obtain rfl : c = c' := by omega
                          exact .inr ⟨rfl, hd⟩
  | next c' _ hd _ _ _ => obtain rfl : c = c' := by omega
                          exact .inr ⟨rfl, hd⟩
theorem call_err {n : Nat} {id : Int} (h : CallIs n g c id er g') (hc : c < n) (hi : 0 ≤ id ∧ id ≤ 9007199254740991) : (er = 5 ∧ g = g') ∨ er = 0 := by
  generalize hcc : (c : Int) = cc at h
  cases h with
  | no _ _ hp => exact absurd (hcc ▸ isP_mk hc) hp
  | arg _ _ _ hn => exact absurd hi hn
  | full _ _ _ _ _ => exact .inl ⟨rfl, rfl⟩
  | first _ _ _ _ _ _ => exact .inr rfl
  | later _ _ _ _ _ _ => exact .inr rfl
/-- the record, as far as it is written -/
def pre (id : Int) (dp : Nat → Nat) (m : Nat) : Rc := ⟨id, fun p => if p < m then decide (0 < dp p) else false, fun p => decide (p < m)⟩
theorem pre_three (id : Int) (dp : Nat → Nat) : pre id dp 3 = newRc id dp := rfl
theorem pre_step (id : Int) (dp : Nat → Nat) {m : Nat} (hm : m < 3) : ((pre id dp m).cells.toArray.setIfInBounds (1 + m) (.bool (decide (0 < dp m)))).setIfInBounds (9 + m) (.bool true) = (pre id dp (m + 1)).cells.toArray := by
  have : m = 0 ∨ m = 1 ∨ m = 2 := by omega
  rcases this with rfl | rfl | rfl <;> rfl
/-- its block -/
theorem pre_block {X : Nat} {id : Int} {dp : Nat → Nat} {m : Nat} (h : w.heap[X]? = some (.cells (pre id dp m).cells.toArray 68 (0, 0))) (hm : m < 3) :
    ((w.setCell ⟨X, 1 + m, none⟩ (.bool (decide (0 < dp m)))).setCell ⟨X, 9 + m, none⟩ (.bool true)).heap[X]? = some (.cells (pre id dp (m + 1)).cells.toArray 68 (0, 0)) := by
  rw [← pre_step id dp hm]
  exact cells_set (cells_set h _ _) _ _
theorem pre_cell {X : Nat} {x : Rc} (h : w.heap[X]? = some (.cells x.cells.toArray 68 (0, 0))) {j : Nat} (hj : j < 17) : ∃ u, w.cell? ⟨X, j, none⟩ = some u := ⟨_, self_cell h j _ (by rw [List.getElem?_toArray]; exact List.getElem?_eq_getElem (by rw [rcells_length]; exact hj))⟩
theorem GK.ltK (h : GK W w B p K g k) : K < w.heap.size := by
  obtain ⟨vb, hb, _⟩ := h.bk
  exact hb.box.lt
theorem RowR.below {v : Value} {l : List Rc} (h : RowR w v l) (hb : Below w.heap.size w w') : RowR w' v l := h.of_block fun b _ ⟨_, e⟩ => hb.block b (lt_of_block e)
theorem step_appendR {ops : Array Oper} {o : Oper} {a : Act} {KK : Act → World → Prop} {Q : Exit → Act → World → Prop} {E : Prop} (hgd : o.guard = none) (s x : Operand)
    (ho : o.op = .call { callee := .builtin .append, args := #[s, x], argTypes := #[38, 38] })
    (v : Value) (l : List Rc) (y : Rc) (X : Nat) (hs : a.eval s = v) (hx : a.eval x = .slice (some ⟨X, 0, none⟩) 1 1) (h : RowR w v l) (hl : l.length ≤ 1000) (hcells : ∀ j u, y.cells[j]? = some u → w.cell? ⟨X, j, none⟩ = some u) (H : Nat) (hH : w.heap.size = H)
    (hk : ∀ g off cap w', RowR w' (.slice (some ⟨g, off, none⟩) (l.length + 1) cap) (l ++ [y]) → Kept (fun k => v.ownBlock = some k ∧ ∃ c, w.heap[k]? = some (.cells c 68 (0, 0))) w w' → (v.ownBlock = some g ∨ H ≤ g) → KK (a.put o.dst (.slice (some ⟨g, off, none⟩) (l.length + 1) cap)) w') :
    if Region.wanted o (yielded ops a.tmps) = true then Oper.wp Try.prog o a w KK Q else E := by
  subst hH
  have hw : Region.wanted o (yielded ops a.tmps) = true := by simp [Region.wanted, hgd]
  rw [if_pos hw]
  obtain ⟨g, off, cap, w', hr, h1, h2, h3⟩ := run_appendR h hl X hcells o.type
  unfold Oper.wp execOp
  simp only [ho, resolve, invoke, builtin, Sem.run_bind, Sem.run_pure, Result.andThen_ok, List.map_toArray, List.map_cons, List.map_nil, hs, hx, hr]
  exact hk g off cap w' h1 h2 h3
theorem KV.appended {wA wD : World} {vs : Nat → Value} {v : Value} {gD off n cap : Nat} {l' : List Rc} (h : KV w K vs k) (hc : c < 3) (hv : vs c = v) (hA : Below w.heap.size w wA) (hr : RowR wD (.slice (some ⟨gD, off, none⟩) n cap) l')
    (hk : Kept (fun b => v.ownBlock = some b ∧ ∃ c, wA.heap[b]? = some (.cells c 68 (0, 0))) wA wD) (hat : v.ownBlock = some gD ∨ wA.heap.size ≤ gD) (h0 : 0 < l'.length) :
    (wD.cell? ⟨K, 3 + c, none⟩ = some v ∧ wD.frozen? ⟨K, 3 + c, none⟩ = false) ∧ KV (wD.setCell ⟨K, 3 + c, none⟩ (.slice (some ⟨gD, off, none⟩) n cap)) K (upd vs c (.slice (some ⟨gD, off, none⟩) n cap)) (k.row c l') ∧
    Kept (SB K vs) w (wD.setCell ⟨K, 3 + c, none⟩ (.slice (some ⟨gD, off, none⟩) n cap)) ∧ ∀ b, SB K (upd vs c (.slice (some ⟨gD, off, none⟩) n cap)) b → SB K vs b ∨ w.heap.size ≤ b := by
  subst hv
  have hk2 : Kept (fun b => (vs c).ownBlock = some b) w wD := (Kept.ofBelow hA).trans (hk.mono (fun b e => e.1))
  have hnK : ¬ ((vs c).ownBlock = some K) := fun e => h.ne hc e rfl
  have hbox : wD.rowIs K 41 6 (bkV vs k) := row_kept h.box hk2 hnK
  have hz := hA.size
  obtain ⟨b', O', cap', cur', e', _, _, hb', _⟩ := hr.some h0
  cases e'
  have hg : (vs c).ownBlock = some gD ∨ w.heap.size ≤ gD := by
    rcases hat with e | e
    · exact .inl e
    · exact .inr (by omega)
  obtain ⟨s1, s2⟩ := h.put2 hc hk2 (fun b e => e) hr (fun b e => by
    obtain rfl : gD = b := by simpa [Value.ownBlock] using e
    exact ⟨⟨_, hb'⟩, hg⟩)
  refine ⟨⟨?_, hbox.frozen _⟩, s1, s2, ?_⟩
  · rw [hbox.cell (show 3 + c < 6 by omega), bkV, if_neg (by omega), show 3 + c - 3 = c by omega]
  · rintro b (e | ⟨i, hi, e⟩)
    · exact .inl (.inl e)
    · by_cases ei : i = c
      · subst ei
        rw [upd_same] at e
        obtain rfl : gD = b := by simpa [Value.ownBlock] using e
        rcases hg with e3 | e3
        · exact .inl (.inr ⟨i, hi, e3⟩)
        · exact .inr e3
      · rw [upd_other _ _ ei] at e
        exact .inl (.inr ⟨i, hi, e⟩)
theorem free_of {n : Nat} (h : BI g k) (hc : c < 3) : Free k c (ids ((g.rs c).take (cutN g.nd (g.rs c)))) := by
  intro i hi
  have hcl := cutN_le (g.nd : Int) (g.rs c)
  rw [ids_length, List.length_take] at hi
  have hi' : i < cutN (g.nd : Int) (g.rs c) := by omega
  obtain ⟨a, b⟩ := h.polled hc hi'
  refine ⟨by rw [h.len hc]; omega, ?_, b⟩
  rw [a]
  unfold pk ids
  rw [List.getD_eq_getElem?_getD, List.getElem?_map, List.getElem?_take, if_pos hi']
  have hil : i < (g.rs c).length := by omega
  rw [List.getElem?_eq_getElem hil, ← wt_at _ _ hil]
  rfl
set_option maxHeartbeats 16000000 in
set_option maxRecDepth 100000 in
theorem cDone2 (h : GK W w B p K g k) (hB : BI g k) {b : Nat} (hI : GI 3 b g) (hb : b ≤ 1000) (d : Pg) :
    Calls Try.prog 11 #[.pointer (some ⟨K, 0, none⟩), .pointer (some ⟨B, 0, none⟩), d.agg] w (DoneOk W B p K b) := by
  obtain ⟨kd, cpu, id⟩ := d
  have hbx : Below w.heap.size w (w.alloc (.cells #[.int .i64 kd, .int .i64 cpu, .int .i64 id] 32)) := below_one (Below.refl _ _) _
  have H0 := Lib.hid (h.below hbx)
  have HBK := Lib.hid hB
  have HI := Lib.hid hI
  obtain ⟨c, hcc⟩ : ∃ c, bring cpu 3 = c := ⟨_, rfl⟩
  have hc : c < 3 := by have := bring_lt cpu 3 (by decide); omega
  have hci : (c : Int) < 3 := by omega
  obtain ⟨q, hq⟩ : ∃ q, bring kd 5 = q := ⟨_, rfl⟩
  have hq4 : q < 5 := by have := bring_lt kd 5 (by decide); omega
  have HQ := Lib.hid (And.intro hq hcc)
  clear h hq hcc hB hI hbx
  show Calls Try.prog 11 #[.pointer (some ⟨K, 0, none⟩), .pointer (some ⟨B, 0, none⟩), .agg #[.int .i64 kd, .int .i64 cpu, .int .i64 id]] w (DoneOk W B p K b)
  go_enter Try.func11, Try.ntmps11
  go_wp2_with fail
  refine (cBringN cpu 3 3 rfl (by decide) _).mono ?_
  rintro e w1 ⟨rfl, rfl⟩
  rw [HQ.out.2]
  go_wp2_with fail
  refine (cBringN kd 5 5 rfl (by decide) _).mono ?_
  rintro e w1 ⟨rfl, rfl⟩
  rw [HQ.out.1]
  have hqc : q = 0 ∨ q = 1 ∨ q = 2 ∨ q = 3 ∨ q = 4 := by omega
  clear HQ hq4
  obtain ⟨va, hva⟩ := H0.out.gv
  have HV := Lib.hid hva
  clear hva
  rcases hqc with rfl | rfl | rfl | rfl | rfl
  · by_cases h8 : g.dp c = 8
    · go_wp2_with fail
      refine (cLock HV.out (by decide) (.full c hc h8)).mono ?_
      rintro e w2 ⟨vs2, rfl, hg2, hk2⟩
      have H2 := Lib.hid (H0.out.mach hg2 hk2)
      clear hg2 hk2 h8 H0 HV
      obtain ⟨vE, hE⟩ := H2.out.gv
      have HE := Lib.hid hE
      have HBI := Lib.hid (HBK.out)
      obtain ⟨dE, hdE, cE⟩ := H2.out.dep HBI.out hc
      have HDE := Lib.hid hdE
      have hEE : ((dE : Int) == dE) = true := by simp
      clear hE hdE
      go_wp2
      go_quiet ((go_at_call 19; exact Calls.quiet_of_same (cDepth (HE.out.drewN _) (by decide) (dE) HDE.out)))
      go_wp2
      go_ret
      exact ⟨rfl, _, _, H2.out.below (below_drewN (Below.refl _ _) _), HBI.out, HI.out.mono (Nat.le_succ _)⟩
    · have h9 := HI.out.dp c hc
      have hlk : LockIs 3 g c 0 (g.deep c (g.dp c + 1)) := .ok c hc (by omega)
      go_wp2_with fail
      refine (cLock HV.out (by decide) hlk).mono ?_
      rintro e w2 ⟨vs2, rfl, hg2, hk2⟩
      have H2 := Lib.hid (H0.out.mach hg2 hk2)
      have HGI := Lib.hid (hlk.gi HI.out)
      have HBI2 := Lib.hid (HBK.out.lock hc)
      have e1 := H2.out.cd hc
      have ef := H2.out.fr c
      have hdk := HBK.out.dp c hc
      have H3 := Lib.hid (H2.out.deep hc (d := g.dp c + 1) (x := (k.dp c : Int) + 1) (by omega))
      obtain ⟨D, hD⟩ : ∃ D, k.dp c = D := ⟨_, rfl⟩
      rw [hD] at e1 H3
      have hD8 : D ≤ 8 := by omega
      clear hg2 hk2 h8 hlk H0 HV hD hdk h9
      go_wp2
      go_region
      all_goals
        have H4 := Lib.hid (H3.out.below (Below.refl _ _).drew)
        generalize (w2.setCell ⟨K, c, none⟩ (.int .i64 ((D : Int) + 1))).drew = w4 at *
        obtain ⟨vE, hE⟩ := H4.out.gv
        have HE := Lib.hid hE
        have HBI := Lib.hid (HBI2.out)
        obtain ⟨dE, hdE, cE⟩ := H4.out.dep HBI.out hc
        have HDE := Lib.hid hdE
        have hEE : ((dE : Int) == dE) = true := by simp
        clear hE hdE
        go_wp2
        go_quiet ((go_at_call 19; exact Calls.quiet_of_same (cDepth (HE.out.drewN _) (by decide) (dE) HDE.out)))
        go_wp2
        go_ret
        exact ⟨rfl, _, _, H4.out.below (below_drewN (Below.refl _ _) _), HBI.out, HGI.out.mono (Nat.le_succ _)⟩
  · by_cases h0 : g.dp c = 0
    · go_wp2_with fail
      refine (cUnlock HV.out (by decide) HI.out.dp (.none c hc h0)).mono ?_
      rintro e w2 ⟨vs2, rfl, hg2, hk2⟩
      have H2 := Lib.hid (H0.out.mach hg2 hk2)
      have e1 := H2.out.cd hc
      have hev : ((k.dp c : Nat) : Int) = 0 := by rw [HBK.out.dp c hc, h0]; rfl
      rw [hev] at e1
      clear hg2 hk2 h0 H0 HV
      obtain ⟨vE, hE⟩ := H2.out.gv
      have HE := Lib.hid hE
      have HBI := Lib.hid (HBK.out)
      have hdE : depF 3 g (c : Int) = 0 := by rw [dep_yes _ hc, ← HBK.out.dp c hc]; exact hev
      have HDE := Lib.hid hdE
      clear hev
      have hEE : ((0 : Int) == 0) = true := by simp
      clear hE hdE
      go_wp2
      go_quiet ((go_at_call 19; exact Calls.quiet_of_same (cDepth (HE.out.drewN _) (by decide) (0) HDE.out)))
      go_wp2
      go_ret
      exact ⟨rfl, _, _, H2.out.below (below_drewN (Below.refl _ _) _), HBI.out, HI.out.mono (Nat.le_succ _)⟩
    · obtain ⟨D, hD⟩ : ∃ D, g.dp c = D + 1 := ⟨g.dp c - 1, by omega⟩
      have h9 := HI.out.dp c hc
      have hlk : UnlockIs 3 g c 0 (g.deep c D) := .ok c D hc hD
      go_wp2_with fail
      refine (cUnlock HV.out (by decide) HI.out.dp hlk).mono ?_
      rintro e w2 ⟨vs2, rfl, hg2, hk2⟩
      have H2 := Lib.hid (H0.out.mach hg2 hk2)
      have HGI := Lib.hid (hlk.gi HI.out)
      have e1 := H2.out.cd hc
      have ef := H2.out.fr c
      have hdk := HBK.out.dp c hc
      have hM9 : D + 1 ≤ 8 := by omega
      by_cases hD0 : D = 0
      · have HBI2 : Hid (BI (g.deep c D) ((k.deep c D).each (Rc.noIns c))) := Lib.hid (by subst hD0; exact HBK.out.unlock0 hc)
        have hev : ((k.dp c : Nat) : Int) = 1 := by rw [hdk, hD, hD0]; rfl
        rw [hev] at e1
        have H3 := Lib.hid (H2.out.deep hc (d := D) (x := 0) (by omega))
        have HDZ : Hid (D = 0) := Lib.hid hD0
        clear hg2 hk2 h0 hlk H0 HV hD hdk h9 hD0 hev hM9
        go_wp2
        go_region
        all_goals
          have H4 := Lib.hid (H3.out.below (Below.refl _ _).drew)
          generalize (w2.setCell ⟨K, c, none⟩ (.int .i64 0)).drew = w4 at *
          obtain ⟨vb, hvb, hlb⟩ := H4.out.bk
          have HVB := Lib.hid (And.intro hvb hlb)
          have e4 := H4.out.cd hc
          rw [show (((k.deep c D).dp c : Nat) : Int) = 0 by show ((upd k.dp c D c : Nat) : Int) = 0; rw [upd_same, HDZ.out]; rfl] at e4
          clear hvb hlb
          go_wp2_with fail
          refine (cUnlocked HVB.out.1 hc).mono ?_
          rintro e w5 ⟨rfl, h5, hk5⟩
          have H5 := Lib.hid (H4.out.book HVB.out.1 HVB.out.2 h5 hk5 HVB.out.2)
          clear h5 hk5 e4
          obtain ⟨vE, hE⟩ := H5.out.gv
          have HE := Lib.hid hE
          have HBI := Lib.hid (HBI2.out)
          obtain ⟨dE, hdE, cE⟩ := H5.out.dep HBI.out hc
          have HDE := Lib.hid hdE
          have hEE : ((dE : Int) == dE) = true := by simp
          clear hE hdE
          go_wp2
          go_quiet ((go_at_call 19; exact Calls.quiet_of_same (cDepth (HE.out.drewN _) (by decide) (dE) HDE.out)))
          go_wp2
          go_ret
          exact ⟨rfl, _, _, H5.out.below (below_drewN (Below.refl _ _) _), HBI.out, HGI.out.mono (Nat.le_succ _)⟩
      · have HBI2 : Hid (BI (g.deep c D) (k.deep c D)) := Lib.hid (HBK.out.unlock hc (by omega))
        have H3 := Lib.hid (H2.out.deep hc (d := D) (x := (D : Int)) rfl)
        have hev1 : ((k.dp c : Nat) : Int) = (D : Int) + 1 := by rw [hdk, hD]; rfl
        rw [hev1] at e1
        have hMM : (0 : Int) < (D : Int) + 1 := by omega
        clear hg2 hk2 h0 hlk H0 HV hD hdk h9 hev1
        go_wp2
        go_region
        all_goals
          have H4 := Lib.hid (H3.out.below (Below.refl _ _).drew)
          generalize (w2.setCell ⟨K, c, none⟩ (.int .i64 (D : Int))).drew = w4 at *
          have hev : (((k.deep c D).dp c : Nat) : Int) = D := by show ((upd k.dp c D c : Nat) : Int) = D; rw [upd_same]
          have e4 := H4.out.cd hc
          rw [hev] at e4
          have hD4 : ((D : Int) == 0) = false := by simp; omega
          have HDE0 : Hid (depF 3 (g.deep c D) (c : Int) = D) := Lib.hid (by rw [dep_yes _ hc]; show ((upd g.dp c D c : Nat) : Int) = D; rw [upd_same])
          obtain ⟨vE, hE⟩ := H4.out.gv
          have HE := Lib.hid hE
          have hEE : ((D : Int) == D) = true := by simp
          clear hE hev hMM e1
          go_wp2
          go_quiet ((go_at_call 19; exact Calls.quiet_of_same (cDepth (HE.out.drewN _) (by decide) D HDE0.out)))
          go_wp2
          go_ret
          exact ⟨rfl, _, _, H4.out.below (below_drewN (Below.refl _ _) _), HBI2.out, HGI.out.mono (Nat.le_succ _)⟩
  · obtain ⟨er, g', hr⟩ := quiet_is 3 g (c : Int)
    rcases quiet_err hr hc with ⟨rfl, h0, rfl⟩ | ⟨rfl, h0⟩
    · go_wp2_with fail
      refine (cQuiet HV.out HI.out hb hr).mono ?_
      rintro e w2 ⟨vs2, rfl, hg2, hk2⟩
      have H2 := Lib.hid (H0.out.mach hg2 hk2)
      have e1 := H2.out.cd hc
      have hdk := HBK.out.dp c hc
      obtain ⟨D, hD⟩ : ∃ D, k.dp c = D := ⟨_, rfl⟩
      rw [hD] at e1
      have hne : ((D : Int) == 0) = false := by simp; omega
      have hev : ((k.dp c : Nat) : Int) = D := by rw [hD]
      clear hg2 hk2 h0 H0 HV hr hD hdk
      obtain ⟨vE, hE⟩ := H2.out.gv
      have HE := Lib.hid hE
      have HBI := Lib.hid (HBK.out)
      have hdE : depF 3 g (c : Int) = D := by rw [dep_yes _ hc, ← HBK.out.dp c hc]; exact hev
      have HDE := Lib.hid hdE
      clear hev
      have hEE : ((D : Int) == D) = true := by simp
      clear hE hdE
      go_wp2
      go_quiet ((go_at_call 19; exact Calls.quiet_of_same (cDepth (HE.out.drewN _) (by decide) (D) HDE.out)))
      go_wp2
      go_ret
      exact ⟨rfl, _, _, H2.out.below (below_drewN (Below.refl _ _) _), HBI.out, HI.out.mono (Nat.le_succ _)⟩
    · go_wp2_with fail
      refine (cQuiet HV.out HI.out hb hr).mono ?_
      rintro e w2 ⟨vs2, rfl, hg2, hk2⟩
      have H2 := Lib.hid (H0.out.mach hg2 hk2)
      have HGI := Lib.hid (hr.gi HI.out)
      have HBI2 := Lib.hid (HBK.out.quiet rfl HI.out hc hr h0)
      have e1 := H2.out.cd hc
      rw [HBK.out.dp c hc, h0] at e1
      obtain ⟨vb, hvb, hlb⟩ := H2.out.bk
      have HVB := Lib.hid (And.intro hvb hlb)
      clear hg2 hk2 h0 H0 HV hr hvb hlb
      go_wp2_with fail
      refine (cReported HVB.out.1 hc).mono ?_
      rintro e w5 ⟨rfl, h5, hk5⟩
      have H5 := Lib.hid (H2.out.book HVB.out.1 HVB.out.2 h5 hk5 HVB.out.2)
      clear h5 hk5 e1
      obtain ⟨vE, hE⟩ := H5.out.gv
      have HE := Lib.hid hE
      have HBI := Lib.hid (HBI2.out)
      obtain ⟨dE, hdE, cE⟩ := H5.out.dep HBI.out hc
      have HDE := Lib.hid hdE
      have hEE : ((dE : Int) == dE) = true := by simp
      clear hE hdE
      go_wp2
      go_quiet ((go_at_call 19; exact Calls.quiet_of_same (cDepth (HE.out.drewN _) (by decide) (dE) HDE.out)))
      go_wp2
      go_ret
      exact ⟨rfl, _, _, H5.out.below (below_drewN (Below.refl _ _) _), HBI.out, HGI.out⟩
  · obtain ⟨z, hz⟩ : ∃ z, bring id 1000 = z := ⟨_, rfl⟩
    have hz1 : z < 1000 := by have := bring_lt id 1000 (by decide); omega
    have HZ := Lib.hid hz
    clear hz
    go_wp2_with fail
    refine (cBringN id 1000 1000 rfl (by decide) _).mono ?_
    rintro e w1 ⟨rfl, rfl⟩
    rw [HZ.out]
    obtain ⟨er, g', hr⟩ := call_is 3 g (c : Int) (z : Int)
    rcases call_err hr hc (by omega) with ⟨rfl, rfl⟩ | rfl
    · go_wp2_with fail
      refine (cCall HV.out HI.out hb hr).mono ?_
      rintro e w2 ⟨vs2, rfl, hg2, hk2⟩
      have H2 := Lib.hid (H0.out.mach hg2 hk2)
      clear hg2 hk2 H0 HV hr HZ
      obtain ⟨vE, hE⟩ := H2.out.gv
      have HE := Lib.hid hE
      have HBI := Lib.hid (HBK.out)
      obtain ⟨dE, hdE, cE⟩ := H2.out.dep HBI.out hc
      have HDE := Lib.hid hdE
      have hEE : ((dE : Int) == dE) = true := by simp
      clear hE hdE
      go_wp2
      go_quiet ((go_at_call 19; exact Calls.quiet_of_same (cDepth (HE.out.drewN _) (by decide) (dE) HDE.out)))
      go_wp2
      go_ret
      exact ⟨rfl, _, _, H2.out.below (below_drewN (Below.refl _ _) _), HBI.out, HI.out.mono (Nat.le_succ _)⟩
    · go_wp2_with fail
      refine (cCall HV.out HI.out hb hr).mono ?_
      rintro e w2 ⟨vs2, rfl, hg2, hk2⟩
      have H2 := Lib.hid (H0.out.mach hg2 hk2)
      have HGI := Lib.hid (hr.gi HI.out hb)
      have HBI2 := Lib.hid (HBK.out.call rfl HI.out hc hr)
      have HLEN : Hid ((k.cs c).length ≤ 1000) := Lib.hid (by rw [HBK.out.len hc]; have := HI.out.len hc; omega)
      clear hg2 hk2 H0 HV hr HZ
      go_wp2_with (refine wpList_store_row (by rfl) _ _ _ (by rfl) w2.heap.size _ (by rfl) (by rfl) 68 _ (heap_new' _ _ _ rfl) infoR17 (by rfl) (all_oneCell_toArray (cs := (pre (z : Int) k.dp 0).cells) (rcells_one _)) ?_)
      have hB3 : ((w2.alloc (.cells #[.int .i64 0, .bool false, .bool false, .bool false, .bool false, .bool false, .bool false, .bool false, .bool false, .bool false, .bool false, .bool false, .bool false, .bool false, .bool false, .bool false, .bool false] 68)).setRow w2.heap.size (pre (z : Int) k.dp 0).cells.toArray).heap[w2.heap.size]? = some (.cells (pre (z : Int) k.dp 0).cells.toArray 68) := setRow_heap _ _ _ _ _ _ (heap_new' _ _ _ rfl)
      have hbel : Below w2.heap.size w2 ((w2.alloc (.cells #[.int .i64 0, .bool false, .bool false, .bool false, .bool false, .bool false, .bool false, .bool false, .bool false, .bool false, .bool false, .bool false, .bool false, .bool false, .bool false, .bool false, .bool false] 68)).setRow w2.heap.size (pre (z : Int) k.dp 0).cells.toArray) := below_setRow (below_one (Below.refl _ w2) _) (Nat.le_refl _) _
      generalize (w2.alloc (.cells #[.int .i64 0, .bool false, .bool false, .bool false, .bool false, .bool false, .bool false, .bool false, .bool false, .bool false, .bool false, .bool false, .bool false, .bool false, .bool false, .bool false, .bool false] 68)).setRow w2.heap.size (pre (z : Int) k.dp 0).cells.toArray = w3 at *
      have HB3 := Lib.hid (And.intro hB3 hbel)
      clear hB3 hbel
      go_loopw [12] (fun y wx => ∃ m : Nat, m ≤ 3 ∧ y = .int .i64 m ∧ Hid (wx.heap[w2.heap.size]? = some (.cells (pre (z : Int) k.dp m).cells.toArray 68) ∧ Below w2.heap.size w2 wx)) (fun y _ => 3 - (intOf y).toNat)
      case atStart => exact ⟨0, by omega, rfl, HB3⟩
      case round =>
        clear HB3
        obtain ⟨m, hm, rfl, HW⟩ := hrel
        by_cases hm3 : m < 3
        · have e1 := (H2.out.below HW.out.2).cd hm3
          obtain ⟨u1, q1⟩ := pre_cell HW.out.1 (show 1 + m < 17 by omega)
          obtain ⟨u2, q2⟩ := pre_cell HW.out.1 (show 9 + m < 17 by omega)
          have f1 := self_free HW.out.1 (1 + m)
          have f2 := self_free HW.out.1 (9 + m)
          have HN := Lib.hid (And.intro (pre_block HW.out.1 hm3) (((HW.out.2).setCell (p := ⟨w2.heap.size, 1 + m, none⟩) (Nat.le_refl _) (.bool (decide (0 < k.dp m)))).setCell (p := ⟨w2.heap.size, 9 + m, none⟩) (Nat.le_refl _) (.bool true)))
          have hm8 : m < 8 := by omega
          have hmd : (m : Int) < 3 := by omega
          clear HW
          go_wp2
          go_roundw
          case rel => exact ⟨m + 1, by omega, by go_num, HN⟩
          case measure => simp [intOf]; omega
        · obtain rfl : m = 3 := by omega
          rw [show ((3 : Nat) : Int) = 3 from rfl]
          rw [pre_three] at HW
          have H3 := Lib.hid (H2.out.below HW.out.2)
          have HX := Lib.hid HW.out.1
          obtain ⟨vb, hvb, hlb⟩ := H3.out.bk
          have HVB := Lib.hid (And.intro hvb hlb)
          have cc := hvb.cc hc
          have cf := hvb.fr (3 + c)
          have hrow := hvb.row c hc
          obtain ⟨va, vc, hv, _, _⟩ := hrow.shape
          rw [hv] at hrow
          have HROW := Lib.hid hrow
          have HBI3 := Lib.hid HBI2.out
          generalize newRc (z : Int) k.dp = x at HX HBI3
          have hKX : K < w2.heap.size := H2.out.ltK
          have hXR : w2.heap.size < wr.heap.size := lt_of_block HX.out
          have hKr : K < wr.heap.size := H3.out.ltK
          rw [hv] at cc
          have HV2 := Lib.hid hv
          have q0 := self_cell HX.out 0 _ (show x.cells.toArray[0]? = some (.int .i64 x.id) from rfl)
          have q1 := self_cell HX.out 1 _ (show x.cells.toArray[1]? = some (.bool (x.ins 0)) from rfl)
          have q2 := self_cell HX.out 2 _ (show x.cells.toArray[2]? = some (.bool (x.ins 1)) from rfl)
          have q3 := self_cell HX.out 3 _ (show x.cells.toArray[3]? = some (.bool (x.ins 2)) from rfl)
          have q4 := self_cell HX.out 4 _ (show x.cells.toArray[4]? = some (.bool (x.ins 3)) from rfl)
          have q5 := self_cell HX.out 5 _ (show x.cells.toArray[5]? = some (.bool (x.ins 4)) from rfl)
          have q6 := self_cell HX.out 6 _ (show x.cells.toArray[6]? = some (.bool (x.ins 5)) from rfl)
          have q7 := self_cell HX.out 7 _ (show x.cells.toArray[7]? = some (.bool (x.ins 6)) from rfl)
          have q8 := self_cell HX.out 8 _ (show x.cells.toArray[8]? = some (.bool (x.ins 7)) from rfl)
          have q9 := self_cell HX.out 9 _ (show x.cells.toArray[9]? = some (.bool (x.sil 0)) from rfl)
          have q10 := self_cell HX.out 10 _ (show x.cells.toArray[10]? = some (.bool (x.sil 1)) from rfl)
          have q11 := self_cell HX.out 11 _ (show x.cells.toArray[11]? = some (.bool (x.sil 2)) from rfl)
          have q12 := self_cell HX.out 12 _ (show x.cells.toArray[12]? = some (.bool (x.sil 3)) from rfl)
          have q13 := self_cell HX.out 13 _ (show x.cells.toArray[13]? = some (.bool (x.sil 4)) from rfl)
          have q14 := self_cell HX.out 14 _ (show x.cells.toArray[14]? = some (.bool (x.sil 5)) from rfl)
          have q15 := self_cell HX.out 15 _ (show x.cells.toArray[15]? = some (.bool (x.sil 6)) from rfl)
          have q16 := self_cell HX.out 16 _ (show x.cells.toArray[16]? = some (.bool (x.sil 7)) from rfl)
          clear hrow hvb hlb hv HW
          go_wp2
          go_region_law (refine step_appendR (by rfl) _ _ (by rfl) _ (k.cs c) x _ (by rfl) (by rfl) (RowR.below HROW.out (by first | exact (below_one (Below.refl _ _) _).drew | exact below_one (Below.refl _ _).drew _)) HLEN.out (fun j u hj => self_cell (cs := x.cells.toArray) (heap_new' _ _ _ (by rfl)) j u (by rw [List.getElem?_toArray]; exact hj)) _ rfl ?_; intro gD off capD wD rD kD hD; have HD := Lib.hid (HVB.out.1.appended hc HV2.out (by first | exact (below_one (Below.refl _ _) _).drew | exact below_one (Below.refl _ _).drew _) rD kD hD (by simp)); obtain ⟨p0, p1⟩ := HD.out.1)
          all_goals
            have HKV := Lib.hid HD.out.2
            have H4 := Lib.hid (H3.out.book HVB.out.1 HVB.out.2 HKV.out.1 HKV.out.2.1 (fun b hb => by
              rcases HKV.out.2.2 b hb with e | e
              · exact HVB.out.2 b e
              · exact Nat.le_trans H3.out.ma.low.size e))
            generalize wD.setCell ⟨K, 3 + c, none⟩ (.slice (some ⟨gD, off, none⟩) ((k.cs c).length + 1) capD) = w9 at *
            clear HD p0 p1 rD kD hD HKV q0 q1 q2 q3 q4 q5 q6 q7 q8 q9 q10 q11 q12 q13 q14 q15 q16
            obtain ⟨vE, hE⟩ := H4.out.gv
            have HE := Lib.hid hE
            have HBI := Lib.hid (HBI3.out)
            obtain ⟨dE, hdE, cE⟩ := H4.out.dep HBI.out hc
            have HDE := Lib.hid hdE
            have hEE : ((dE : Int) == dE) = true := by simp
            clear hE hdE
            go_wp2
            go_quiet ((go_at_call 19; exact Calls.quiet_of_same (cDepth (HE.out.drewN _) (by decide) (dE) HDE.out)))
            go_wp2
            go_ret
            exact ⟨rfl, _, _, H4.out.below (below_drewN (Below.refl _ _) _), HBI.out, HGI.out.mono (Nat.le_succ _)⟩
  · have hr : PollIs 3 g c (ids ((g.rs c).take (cutN g.nd (g.rs c)))) 0 (g.row c ((g.rs c).drop (cutN g.nd (g.rs c)))) := .ok c hc
    have hl := hr.out HI.out
    have HF := Lib.hid (free_of (n := 3) HBK.out hc)
    have HLN : Hid ((ids ((g.rs c).take (cutN g.nd (g.rs c)))).length = cutN g.nd (g.rs c)) := Lib.hid (by have := cutN_le (g.nd : Int) (g.rs c); rw [ids_length, List.length_take]; omega)
    have HGI := Lib.hid (hr.gi HI.out)
    have HBI2 := Lib.hid (HBK.out.poll hc (cutN g.nd (g.rs c)))
    have HR := Lib.hid hr
    clear hr
    go_wp2_with fail
    refine (cPoll HV.out HI.out HR.out).mono ?_
    rintro e w2 ⟨vs2, a2, m2, cp2, hm2, rfl, hg2, hk2, ho2⟩
    have H2 := Lib.hid (H0.out.mach hg2 hk2)
    have HO := Lib.hid (OwnI.le ho2 (Nat.zero_le _))
    obtain ⟨vb, hvb, hlb⟩ := H2.out.bk
    have HVB := Lib.hid (And.intro hvb hlb)
    clear hg2 hk2 ho2 hvb hlb H0 HV hm2
    go_wp2_with fail
    refine (cPolled HVB.out.1 hc HO.out HF.out).mono ?_
    rintro e w3 ⟨rfl, vs3, h3, hk3, hs3, _⟩
    have H3 := Lib.hid (H2.out.book HVB.out.1 HVB.out.2 h3 hk3 (fun b hb => HVB.out.2 b (hs3.sb b hb)))
    clear h3 hk3 hs3
    go_wp2
    go_ret
    exact ⟨rfl, _, _, by have := H3.out; rw [HLN.out] at this; exact this, HBI2.out, HGI.out.mono (Nat.le_succ _)⟩
end
end Go.Proofs.Ytnnpclknlccmiaa
