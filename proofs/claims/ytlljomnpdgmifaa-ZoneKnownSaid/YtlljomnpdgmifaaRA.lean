/-
  The document's Zone: back, out, Drain, Left, Whole, Tag, New.
-/
import Derived.Test.YtlljomnpdgmifaaRZ
set_option linter.unusedVariables false
set_option linter.unusedSimpArgs false
namespace Go.Proofs.Ytlljomnpdgmifaa
open Go Go.RowKit

section
variable {w w' w'' : World} {z n : Nat} {N N' N'' : Rn} {l l' : List Pg} {f f' : F} {t : Int → Option Pg}
set_option maxHeartbeats 4000000 in
set_option maxRecDepth 100000 in
theorem rzBack (h : RC w z N n l f) (hs : Std l) {v : Value} {r : List Int} {A : Nat → Prop} (hv : Res w v r A) (hr : ∀ x ∈ r, NearOut l x) (hn : r.Nodup) :
    Calls Try.prog 53 #[.pointer (some ⟨z, 0, none⟩), v] w fun e w' => e = .returned (.tuple #[]) ∧ RC w' z N n (backL l r) f ∧ Kept (· = N.gB) w w' := by
  obtain ⟨c, hg⟩ := h.tabB
  have HV := Lib.hid (hv.ne_tab hg)
  obtain ⟨ao, cap', rfl, hcap, _⟩ := (Res.shows hv).form
  have HA := Lib.hid h
  have HR := Lib.hid hr
  have HN := Lib.hid hn
  have HS := Lib.hid hs
  clear h hv hr hn hs hg
  go_enter Try.func53, Try.ntmps53
  go_wp2
  go_loopw [4] (fun i wr => ∃ k : Nat, k ≤ r.length ∧ i = .int .i64 k ∧ Hid (RC wr z N n (backL l (r.take k)) f ∧ Kept (· = N.gB) w wr)) (fun i _ => r.length - (intOf i).toNat)
  case atStart => exact ⟨0, by omega, rfl, Lib.hid ⟨HA.out, Kept.refl _ _⟩⟩
  case round =>
    obtain ⟨k, hk, rfl, HW⟩ := hrel
    by_cases hlt : k < r.length
    · have hsh := Res.shows (HV.out.kept HW.out.2 (fun j hj e => hj e))
      obtain ⟨ao2, cap2, e2, _, hat⟩ := hsh.form
      cases e2
      obtain ⟨b, o, rfl, c0⟩ := hat k hlt
      have hBO := back_ok HS.out (r.take k) (fun x hx => HR.out x (List.mem_of_mem_take hx)) (HN.out.sublist (List.take_sublist _ _))
      obtain ⟨p, hpx, hp, ep⟩ := HR.out (r[k]) (List.getElem_mem hlt)
      have hnot : (p : Int) ∉ r.take k := fun hx => by
        rw [← hpx] at hx
        obtain ⟨j, hj, ej⟩ := List.getElem_of_mem hx
        rw [List.getElem_take] at ej
        have hj2 : j < k := by rw [List.length_take] at hj; omega
        have := (List.getElem_inj HN.out).1 ej
        omega
      have hkd : (pg (backL l (r.take k)) p).kind = 2 := by
        rcases hBO.other p hp hnot with e | ⟨_, e⟩
        · rw [e, ep]
        · rw [ep] at e; exact absurd rfl e
      have hsnoc : backL l (r.take (k + 1)) = freeL (backL l (r.take k)) p := by
        rw [List.take_succ_eq_append_getElem hlt, backL_snoc, hpx]
        rfl
      rw [← pk_at r k hlt, hpx] at c0
      have HST := Lib.hid hBO.std
      have HFR : Hid (FreeIs (backL l (r.take k)) (p : Int) 0 (backL l (r.take (k + 1)))) := Lib.hid (by
        rw [hsnoc]
        exact .ok p (by rw [hBO.len]; exact hp) hkd)
      have HC := Lib.hid (And.intro HW.out.1.drew.cells.1 (show wr.drew.cell? ⟨b, o + k, none⟩ = some (.int .i64 p) from c0))
      have HD := Lib.hid HW.out.1.drew
      have HBG : Hid (b ≠ N.gB) := Lib.hid (by
        rcases HV.out with ⟨e, _⟩ | ⟨r0, cp, cur, e, _, _, hne, _⟩
        · cases e
        · cases e; exact hne)
      clear hsh hat hBO hpx ep hnot hkd hsnoc hp
      go_wp2
      go_region_held3 (fun W => W.cell? ⟨z, 0, none⟩ = some (.pointer (some ⟨N.bB, 0, none⟩)) ∧ W.cell? ⟨b, o + k, none⟩ = some (.int .i64 p))
        (first | exact HC.out | exact ⟨(HD.out.budded bM kM).1.cells.1, cell_kept HC.out.2 kM HBG.out⟩)
        (first | (go_at_call 56; refine (rFreeB HD.out.bud HST.out HFR.out).mono ?_; rintro e w1 ⟨rfl, bM, kM⟩))
      all_goals
        have hq := HD.out.budded bM kM
        have HW1 := Lib.hid (And.intro hq.1 ((Kept.drew HW.out.2).trans kM))
        clear bM kM hq c0
        go_wp2
        go_roundw
        case rel => exact ⟨k + 1, by omega, by go_num, HW1⟩
        case measure => simp [intOf]; omega
    · obtain rfl : k = r.length := by omega
      have H9 := HW.out
      rw [List.take_length] at H9
      have HW9 := Lib.hid H9
      clear H9
      go_wp2
      go_end0
      exact ⟨rfl, HW9.out.1, HW9.out.2⟩
/-- is it out, and not near? -/
def OutQ (n : Nat) (l : List Pg) (f : F) (page : Int) (q : Bool) : Prop := (q = true ∧ ∃ p : Nat, page = p ∧ ∃ x, ot n l f p = some x) ∨ (q = false ∧ ∀ p : Nat, page = p → ot n l f p = none)
set_option maxHeartbeats 4000000 in
theorem rzOut (h : RC w z N n l f) {page : Int} {q : Bool} (hq : OutQ n l f page q) : Calls Try.prog 55 #[.pointer (some ⟨z, 0, none⟩), .int .i64 page] w fun e w' => e = .returned (.bool q) ∧ w' = w := by
  obtain ⟨c0, c1⟩ := h.cells
  have d0 := h.bud.self
  have hcap := h.bud.cap
  have hn2 := h.bud.n2
  unfold maxLen at hcap
  have HZ := Lib.hid h
  rcases hq with ⟨rfl, p, rfl, x, hx⟩ | ⟨rfl, hno⟩
  · obtain ⟨⟨hp, hk, hb⟩, _⟩ := ot_some.1 hx
    obtain ⟨t0, _, _⟩ := h.bud.tab.cells hp
    rw [hk] at t0
    have HB := Lib.hid hb
    have hnl : ¬ l.length ≤ p := by omega
    clear h hx hb hk
    go_enter Try.func55, Try.ntmps55
    go_wp2_with fail
    refine (rHas HZ.out.nr p false HB.out).mono ?_
    rintro e w1 ⟨rfl, rfl⟩
    go_wp2
    go_ret
    exact ⟨rfl, rfl⟩
  · by_cases h1 : page < 0
    · clear h hno
      go_enter Try.func55, Try.ntmps55
      go_wp2
      go_ret
      exact ⟨rfl, rfl⟩
    · obtain ⟨p, rfl⟩ : ∃ p : Nat, page = (p : Int) := ⟨page.toNat, by omega⟩
      have hot := ot_none.1 (hno p rfl)
      by_cases hp : p < l.length
      · obtain ⟨t0, _, _⟩ := h.bud.tab.cells hp
        have hnl : ¬ l.length ≤ p := by omega
        by_cases hk : (pg l p).kind = 2
        · have hb : hasB f n (p : Int) = true := by
            cases hb : hasB f n (p : Int) with
            | true => rfl
            | false => exact absurd ⟨hp, hk, hb⟩ hot
          rw [hk] at t0
          have HB := Lib.hid hb
          clear h hno hot hb hk h1
          go_enter Try.func55, Try.ntmps55
          go_wp2_with fail
          refine (rHas HZ.out.nr p true HB.out).mono ?_
          rintro e w1 ⟨rfl, rfl⟩
          go_wp2
          go_ret
          exact ⟨rfl, rfl⟩
        · generalize (pg l p).kind = k at t0 hk
          have hk2 : (k == 2) = false := by simpa using hk
          clear h hno hot hk h1
          go_enter Try.func55, Try.ntmps55
          go_wp2
          go_ret
          exact ⟨rfl, rfl⟩
      · have hdec : ¬ p < l.length := hp
        clear h hno hot h1 hp
        go_enter Try.func55, Try.ntmps55
        go_wp2
        go_ret
        exact ⟨rfl, rfl⟩
theorem rzDrainCall (h : RC w z N n l f) {c : Nat} (hc : c < n) : Calls Try.prog 54 #[.pointer (some ⟨N.bN, 0, none⟩), .int .i64 c] w fun e w' => ∃ v vs', e = .returned v ∧ RC w' z { N with vs := vs' } n l (nUpd f c []) ∧ RGoes w w' n z N { N with vs := vs' } ∧ Res w' v (f c) (fun _ => True) :=
  (rDrain h.nr (.yes c hc)).mono fun e w' ⟨v, vs', h1, h2, h3, h4⟩ => by
    obtain ⟨a, b⟩ := h.neared h2 (h.fine.upd (by simp)) h3
    exact ⟨v, vs', h1, a, b, Res.mono h4 (fun _ _ => trivial)⟩
theorem rzBackCall (h : RC w z N n l f) (hs : Std l) {v : Value} {r : List Int} {A : Nat → Prop} (hv : Res w v r A) (hr : ∀ x ∈ r, NearOut l x) (hn : r.Nodup) :
    Calls Try.prog 53 #[.pointer (some ⟨z, 0, none⟩), v] w fun e w' => e = .returned (.tuple #[]) ∧ RC w' z N n (backL l r) f ∧ RGoes w w' n z N N :=
  (rzBack h hs hv hr hn).mono fun e w' ⟨h1, h2, h3⟩ => ⟨h1, h2, h3.mono fun k e => .inr (.inr (.inl e)), fun k o => .inl o⟩
set_option maxHeartbeats 4000000 in
set_option maxRecDepth 100000 in
theorem rzDrain (h : RC w z N n l f) (hi : ZInv n l f) {cpu e : Int} (hr : DrIs n l f cpu e l' f') :
    Calls Try.prog 27 #[.pointer (some ⟨z, 0, none⟩), .int .i64 cpu] w fun en w' => en = .returned (.int .i64 e) ∧ ∃ N', RC w' z N' n l' f' ∧ RGoes w w' n z N N' := by
  obtain ⟨c0, c1⟩ := h.cells
  have HZ := Lib.hid h
  have HI := Lib.hid hi
  cases hr with
  | range _ hc =>
    clear h hi
    go_enter Try.func27, Try.ntmps27
    go_wp2_with fail
    refine (rzHas HZ.out cpu false (decide_eq_false hc)).mono ?_
    rintro e w1 ⟨rfl, rfl⟩
    clear hc
    go_wp2
    go_ret
    exact ⟨rfl, N, HZ.out, RGoes.refl _ _ _ _⟩
  | ok c hc =>
    clear h hi
    go_enter Try.func27, Try.ntmps27
    go_wp2_with fail
    refine (rzHas HZ.out c true (decide_eq_true (by omega))).mono ?_
    rintro e w1 ⟨rfl, rfl⟩
    go_wp2_with fail
    refine (rzDrainCall HZ.out hc).mono ?_
    rintro e w2 ⟨v, vs', rfl, hz2, hg2, hv2⟩
    have H2 := Lib.hid (And.intro hz2 (And.intro hg2 hv2))
    clear hz2 hg2 hv2 c0 c1
    go_wp2_with fail
    refine (rzBackCall H2.out.1 HI.out.std H2.out.2.2 (HI.out.near c hc) (HI.out.once c hc)).mono ?_
    rintro e w3 ⟨rfl, hz3, hg3⟩
    have H3 := Lib.hid (And.intro hz3 (H2.out.2.1.trans hg3))
    clear hz3 hg3
    go_wp2
    go_ret
    exact ⟨rfl, _, H3.out⟩
set_option maxHeartbeats 2000000 in
theorem rzLeft (h : RC w z N n l f) (hi : ZInv n l f) : Calls Try.prog 30 #[.pointer (some ⟨z, 0, none⟩)] w fun e w' => e = .returned (.int .i64 ((freeF l + cnt n f : Nat))) ∧ Below w.heap.size w w' := by
  have HZ := Lib.hid h
  obtain ⟨c0, c1⟩ := h.cells
  have h1 := left_of hi.std
  have h2 := hi.std.valid.2.1
  have h3 : cnt n f ≤ 6 * n := by
    have hf := h.fine
    have key : ∀ k, k ≤ n → cnt k f ≤ 6 * k := by
      intro k hk
      induction k with
      | zero => simp [cnt, sumTo]
      | succ k ih =>
        have := ih (by omega)
        have := hf k (by omega)
        have e : cnt (k + 1) f = cnt k f + (f k).length := rfl
        omega
    exact key n (Nat.le_refl _)
  have h4 := h.nr.n1
  obtain ⟨L, hL⟩ : ∃ L, freeF l = L := ⟨_, rfl⟩
  rw [hL] at h1 ⊢
  have HL := Lib.hid hL
  obtain ⟨M, hM⟩ : ∃ M, cnt n f = M := ⟨_, rfl⟩
  rw [hM] at h3 ⊢
  have HM := Lib.hid hM
  clear h hM hL hi
  go_enter Try.func30, Try.ntmps30
  go_wp2_with fail
  refine (rLeft HZ.out.bud L HL.out).mono ?_
  rintro e w1 ⟨rfl, hb1⟩
  have HZ1 := Lib.hid (And.intro (HZ.out.below hb1) hb1)
  clear hb1
  go_wp2_with fail
  refine (rzNear HZ1.out.1).mono ?_
  rw [HM.out]
  rintro e w2 ⟨rfl, rfl⟩
  go_wp2
  go_ret
  exact ⟨ret_int (by go_num), HZ1.out.2⟩
set_option maxHeartbeats 2000000 in
theorem rzWhole (h : RC w z N n l f) (q : Bool) (hq : decide (l = ini l.length) = q) : Calls Try.prog 31 #[.pointer (some ⟨z, 0, none⟩)] w fun e w' => e = .returned (.bool q) ∧ Below w.heap.size w w' := by
  have HZ := Lib.hid h
  obtain ⟨c0, c1⟩ := h.cells
  have HQ := Lib.hid hq
  clear h hq
  go_enter Try.func31, Try.ntmps31
  go_wp2_with fail
  refine (rWhole HZ.out.bud q HQ.out).mono ?_
  rintro e w1 ⟨rfl, hb1⟩
  have HB := Lib.hid hb1
  clear hb1
  go_wp2
  go_ret
  exact ⟨rfl, HB.out⟩
end
end Go.Proofs.Ytlljomnpdgmifaa
