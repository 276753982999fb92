/-
  Free, Left of the program's buddies.
-/
import Derived.Test.YtlljomnpdgmifaaAlloc

set_option linter.unusedVariables false
set_option linter.unusedSimpArgs false
namespace Go.Proofs.Ytlljomnpdgmifaa
open Go Go.RowKit

set_option maxHeartbeats 1000000 in
theorem cFreeNil (page : Int) (w : World) : Calls Try.prog 39 #[.pointer none, .int .i64 page] w fun e w' => e = .returned (.int .i64 1) ∧ w' = w := by
  go_enter Try.func39, Try.ntmps39
  go_wp2_with (go_at_call 61; refine (cIsNoneNil _).mono ?_; rintro e w' ⟨rfl, rfl⟩)
  go_ret
  exact ⟨rfl, rfl⟩
set_option maxHeartbeats 1000000 in
theorem cFreeZero (B : Nat) (page : Int) (w : World) (hc : w.cell? ⟨B, 0, none⟩ = some (.slice none 0 0)) : Calls Try.prog 39 #[.pointer (some ⟨B, 0, none⟩), .int .i64 page] w fun e w' => e = .returned (.int .i64 1) ∧ w' = w := by
  go_enter Try.func39, Try.ntmps39
  go_wp2_with (go_at_call 61; refine (cIsNoneZero B _ hc).mono ?_; rintro e w' ⟨rfl, rfl⟩)
  go_ret
  exact ⟨rfl, rfl⟩
/-- a block that is out starts at a page -/
def OutAt (l : List Pg) (page : Int) : Prop := 0 ≤ page ∧ page < l.length ∧ (pg l page.toNat).kind = 2
section
variable {w : World} {B g cap : Nat} {l : List Pg}
set_option maxHeartbeats 2000000 in
set_option maxRecDepth 100000 in
theorem cFreeBad (h : BudAt w 92 B g cap l) (page : Int) (hbad : ¬ OutAt l page) :
    Calls Try.prog 39 #[.pointer (some ⟨B, 0, none⟩), .int .i64 page] w fun e w' => e = .returned (.int .i64 60) ∧ w' = w := by
  have hc := h.self
  have h2 := h.n2
  have hcap := h.cap
  unfold maxLen at hcap
  unfold OutAt at hbad
  by_cases h1 : page < 0
  · clear hbad
    go_enter Try.func39, Try.ntmps39
    go_wp2_with (go_at_call 61; refine (cIsNone h).mono ?_; rintro e w' ⟨rfl, rfl⟩)
    go_ret
    exact ⟨rfl, rfl⟩
  · obtain ⟨p, rfl⟩ : ∃ p : Nat, page = (p : Int) := ⟨page.toNat, by omega⟩
    by_cases h3 : l.length ≤ p
    · clear hbad
      go_enter Try.func39, Try.ntmps39
      go_wp2_with (go_at_call 61; refine (cIsNone h).mono ?_; rintro e w' ⟨rfl, rfl⟩)
      go_ret
      exact ⟨rfl, rfl⟩
    · have hp : p < l.length := by omega
      obtain ⟨t0, t1, t2⟩ := h.tab.cells hp
      have hk : (pg l p).kind ≠ 2 := fun e => hbad ⟨by omega, by omega, by rw [Int.toNat_natCast]; exact e⟩
      generalize (pg l p).kind = k at t0 hk
      have hk2 : (k != 2) = true := by simpa using hk
      clear hbad hk
      go_enter Try.func39, Try.ntmps39
      go_wp2_with (go_at_call 61; refine (cIsNone h).mono ?_; rintro e w' ⟨rfl, rfl⟩)
      go_ret
      exact ⟨rfl, rfl⟩
/-- a Buddy while a block is freed: from q on there are 2^r pages of it -/
structure FW (l : List Pg) (p : Nat) (w0 w : World) (B g cap q r : Nat) (f : Nat → Pg) : Prop where
  mi : MI l p q r
  way : Way w0 w 92 B g cap l.length f
  out : ∀ i, i < l.length → (i < q ∨ q + 2 ^ r ≤ i) → f i = pg l i
  ins : ∀ i, q < i → i < q + 2 ^ r → f i = pin
theorem FW.isF {w0 : World} {p q r : Nat} {f : Nat → Pg} (h : FW l p w0 w B g cap q r f) : Go.Proofs.Ytlljomnpdgmifaa.isF (Go.Proofs.Ytlljomnpdgmifaa.mk l.length f) (bud q r) r = Go.Proofs.Ytlljomnpdgmifaa.isF l (bud q r) r := by
  have hp := pow_two_pos r
  have hb : bud q r < q ∨ q + 2 ^ r ≤ bud q r := by
    rcases bud_cases h.mi.mult with ⟨_, e⟩ | ⟨x, _, e1, e2, _⟩ <;> omega
  unfold Go.Proofs.Ytlljomnpdgmifaa.isF
  rw [mk_length]
  by_cases h1 : bud q r < l.length
  · rw [pg_mk _ h1, h.out _ h1 hb]
  · simp [h1]
theorem FW.below {w0 w' : World} {p q r : Nat} {f : Nat → Pg} (h : FW l p w0 w B g cap q r f) (hb : Below w.heap.size w w') : FW l p w0 w' B g cap q r f := ⟨h.mi, h.way.below hb, h.out, h.ins⟩
theorem FW.step {w0 : World} {p q r : Nat} {f : Nat → Pg} (h : FW l p w0 w B g cap q r f) (hc : Cov l) (hr : r < 10) (hF : Go.Proofs.Ytlljomnpdgmifaa.isF l (bud q r) r = true) :
    FW l p w0 (((w.setCell ⟨g, max q (bud q r) * 3, none⟩ (.int .i64 1)).setCell ⟨g, max q (bud q r) * 3 + 1, none⟩ (.int .i64 0)).setCell ⟨g, max q (bud q r) * 3 + 2, none⟩ (.int .i64 0)) B g cap (min q (bud q r)) (r + 1) (upd f (max q (bud q r)) pin) := by
  obtain ⟨h1, h2, h3⟩ := h.mi.step hc hr hF
  have hp := pow_two_pos r
  have hup := pow_up r
  have hins := h2.ins
  rw [h3] at hins
  refine ⟨h1, h.way.set _ pin, fun i hi ho => ?_, fun i hi ho => ?_⟩
  · rcases bud_cases h.mi.mult with ⟨_, e⟩ | ⟨x, _, e1, e2, _⟩
    · rw [upd_other _ _ (by omega)]
      exact h.out i hi (by omega)
    · rw [upd_other _ _ (by omega)]
      exact h.out i hi (by omega)
  · by_cases e0 : i = max q (bud q r)
    · rw [e0, upd_self]
    · rw [upd_other _ _ e0]
      have hfit := h2.fits
      have hfq := h.mi.fits
      rw [h3] at hfit
      rcases bud_cases h.mi.mult with ⟨_, e⟩ | ⟨x, _, e1, e2, _⟩
      · by_cases h4 : i < q + 2 ^ r
        · exact h.ins i (by omega) h4
        · rw [h.out i (by omega) (by omega)]
          exact hins i (by omega) (by omega)
      · by_cases h4 : q < i
        · exact h.ins i h4 (by omega)
        · rw [h.out i (by omega) (by omega)]
          exact hins i (by omega) (by omega)
/-- the last page is written -/
theorem FW.ends {w0 : World} {p q r : Nat} {f : Nat → Pg} (h : FW l p w0 w B g cap q r f) (h0 : BudAt w0 92 B g cap l) {w' : World} (hw : Way w0 w' 92 B g cap l.length (upd f q (fh r))) :
    BudAt w' 92 B g cap (setF l q (fh r)) ∧ Kept (· = g) w0 w' := by
  refine ⟨h0.came hw (setF_length _ _ _) (fun i hi => ?_), hw.kept⟩
  rw [setF_at _ _ _ _ hi, fh_sz]
  by_cases h1 : i = q
  · rw [if_pos h1, h1, upd_self]
  · rw [if_neg h1, upd_other _ _ h1]
    by_cases h2 : q < i ∧ i < q + 2 ^ r
    · rw [if_pos h2]; exact h.ins i h2.1 h2.2
    · rw [if_neg h2]; exact h.out i hi (by omega)
set_option maxHeartbeats 8000000 in
set_option maxRecDepth 100000 in
theorem cFreeYes (h : BudAt w 92 B g cap l) (hc : Cov l) (p : Nat) (hp : p < l.length) (hk : (pg l p).kind = 2) :
    Calls Try.prog 39 #[.pointer (some ⟨B, 0, none⟩), .int .i64 p] w fun e w' => e = .returned (.int .i64 0) ∧ BudAt w' 92 B g cap (freeL l p) ∧ Kept (· = g) w w' := by
  have HA := Lib.hid h
  have HC := Lib.hid hc
  have hn2 := h.n2
  have hself := h.self
  have hcap := h.cap
  unfold maxLen at hcap
  obtain ⟨r0, hr0, hmi⟩ := MI.start hc hp hk
  have hFW : FW l p w w B g cap p r0 (pg l) := ⟨hmi, h.way, fun _ _ _ => rfl, fun i h1 h2 => by
    have hs := hc.starts hp (by rw [hk]; decide)
    exact hs.ins i h1 (by unfold Pg.sz; rw [hr0, Int.toNat_natCast]; exact h2)⟩
  have HFW := Lib.hid hFW
  obtain ⟨M, hM⟩ : ∃ M, mrg l (10 - r0) p r0 = M := ⟨_, rfl⟩
  have HM := Lib.hid hM
  have HRES : Hid (freeL l p = setF l M.1 (fh M.2)) := Lib.hid (by unfold freeL; rw [hr0, Int.toNat_natCast, hM])
  obtain ⟨t0, t1, t2⟩ := h.tab.cells hp
  rw [hk] at t0
  rw [hr0] at t1
  have hr10 := hmi.le
  have hnl : ¬ l.length ≤ p := by omega
  clear h hc hk hr0 hmi hFW hM
  go_enter Try.func39, Try.ntmps39
  go_wp2_with fail
  refine (cIsNone HA.out).mono ?_
  rintro e w' ⟨rfl, rfl⟩
  go_wp2
  go_loopw [1, 5] (fun a b wr => ∃ q r : Nat, ∃ f, a = .int .i64 q ∧ b = .int .i64 r ∧ r ≤ 10 ∧ Hid (mrg l (10 - r) q r = M) ∧ Hid (FW l p w' wr B g cap q r f)) (fun _ b _ => 10 - (intOf b).toNat)
  case atStart => exact ⟨p, r0, _, rfl, rfl, hr10, HM, HFW⟩
  case round =>
    obtain ⟨q, r, f, rfl, rfl, hr, HMr, HW⟩ := hrel
    have hq := HW.out.mi.fits
    have hpr := pow_two_pos r
    have hql : q < l.length := by omega
    clear hq hpr
    by_cases hlt : r < 10
    · obtain ⟨b, hb⟩ : ∃ b, bud q r = b := ⟨_, rfl⟩
      have HBB := Lib.hid hb
      have HMU := Lib.hid HW.out.mi.mult
      clear hb
      go_wp2_with fail
      refine (cBuddyOf q r _ b hr rfl (by omega) HMU.out HBB.out _).mono ?_
      rintro e w3 ⟨rfl, rfl⟩
      have HBA := Lib.hid (HA.out.came HW.out.way (mk_length _ f) (fun i hi => (pg_mk _ hi).symm))
      by_cases hF : isF l b r = true
      · have HIS : Hid (isF (mk l.length f) b r = true) := Lib.hid (by rw [← HBB.out, HW.out.isF, HBB.out]; exact hF)
        have hF2 := hF
        simp only [isF, decide_eq_true_eq] at hF2
        have hbl : b < l.length := hF2.1
        have HST := Lib.hid (HW.out.mi.step HC.out hlt (by rw [HBB.out]; exact hF))
        have HMN : Hid (mrg l (10 - (r + 1)) (min q b) (r + 1) = M) := Lib.hid (by rw [← HMr.out, mrg_step hlt (by rw [HBB.out]; exact hF), HBB.out])
        have HF := Lib.hid hF
        have hcs := bud_cases HMU.out
        have hpr := pow_two_pos r
        have hor : q < b ∨ b < q := by
          have := HBB.out
          rcases hcs with ⟨_, e⟩ | ⟨x, _, e1, e2, _⟩ <;> omega
        clear hF hF2 hcs hpr
        go_wp2_with fail
        refine (cIsFree HBA.out b r true HIS.out).mono ?_
        rintro e w4 ⟨rfl, hb4⟩
        have HW4 := Lib.hid (HW.out.below hb4)
        obtain ⟨c0, _, _, _, _, _, _⟩ := HW4.out.way.facts hql
        have HN := Lib.hid (HW4.out.step HC.out hlt (by rw [HBB.out]; exact HF.out))
        clear hb4
        rcases hor with hor | hor
        · obtain ⟨_, c1, c2, c3, f1, f2, f3⟩ := HW4.out.way.facts hbl
          have HN2 : Hid (FW l p w' _ B g cap q (r + 1) _) := Lib.hid (by have := HN.out; rw [HBB.out, Nat.max_eq_right (by omega), Nat.min_eq_left (by omega)] at this; exact this)
          have HMN2 : Hid (mrg l (10 - (r + 1)) q (r + 1) = M) := Lib.hid (by have := HMN.out; rw [Nat.min_eq_left (by omega)] at this; exact this)
          clear HN HMN
          go_wp2
          go_roundw
          case rel => exact ⟨q, r + 1, _, by go_num, by go_num, by omega, HMN2, HN2⟩
          case measure => simp [intOf]; omega
        · obtain ⟨_, c1, c2, c3, f1, f2, f3⟩ := HW4.out.way.facts hql
          have HN2 : Hid (FW l p w' _ B g cap b (r + 1) _) := Lib.hid (by have := HN.out; rw [HBB.out, Nat.max_eq_left (by omega), Nat.min_eq_right (by omega)] at this; exact this)
          have HMN2 : Hid (mrg l (10 - (r + 1)) b (r + 1) = M) := Lib.hid (by have := HMN.out; rw [Nat.min_eq_right (by omega)] at this; exact this)
          clear HN HMN
          go_wp2
          go_roundw
          case rel => exact ⟨b, r + 1, _, by go_num, by go_num, by omega, HMN2, HN2⟩
          case measure => simp [intOf]; omega
      · have hF0 : isF l b r = false := by simpa using hF
        have HIS : Hid (isF (mk l.length f) b r = false) := Lib.hid (by rw [← HBB.out, HW.out.isF, HBB.out]; exact hF0)
        have HMN : Hid (M = (q, r)) := Lib.hid (by rw [← HMr.out]; exact mrg_stop (.inr (by rw [HBB.out]; exact hF0)) hr)
        clear hF hF0
        go_wp2_with fail
        refine (cIsFree HBA.out b r false HIS.out).mono ?_
        rintro e w4 ⟨rfl, hb4⟩
        have HW4 := Lib.hid (HW.out.below hb4)
        have HB := Lib.hid (HW4.out.way.facts hql)
        have hne := HW4.out.way.ne
        have HEND : Hid (∀ X, Way w' X 92 B g cap l.length f → BudAt (((X.setCell ⟨g, q * 3, none⟩ (.int .i64 0)).setCell ⟨g, q * 3 + 1, none⟩ (.int .i64 r)).setCell ⟨g, q * 3 + 2, none⟩ (.int .i64 0)) 92 B g cap (freeL l p) ∧ Kept (· = g) w' (((X.setCell ⟨g, q * 3, none⟩ (.int .i64 0)).setCell ⟨g, q * 3 + 1, none⟩ (.int .i64 r)).setCell ⟨g, q * 3 + 2, none⟩ (.int .i64 0))) := Lib.hid (fun X hX => by
          rw [HRES.out, HMN.out]
          exact HW4.out.ends HA.out (hX.set q (fh r)))
        have HW2 := Lib.hid HW4.out.way
        clear hb4
        go_wp2
        go_region_held3 (fun W => W.cell? ⟨B, 0, none⟩ = some (.slice (some ⟨g, 0, none⟩) l.length cap))
          (first | exact cell_keep (Below.drew (Below.refl _ _)) HB.out.1 | exact cell_keep (show Below w4.heap.size w4 _ from by assumption) HB.out.1 | exact cell_set3 hne (cell_keep (show Below w4.heap.size w4 _ from by assumption) HB.out.1))
          (first
            | (go_at_call 65; refine (cFreeHead _ _).mono ?_; rintro e w5 ⟨rfl, h3⟩; have hb4 : Below w4.heap.size w4 w5 := below_then (Below.drew (Below.refl _ _)) h3; obtain ⟨q0, q1, q2, q3, q4, q5, q6, _⟩ := keys7 HB.out hb4))
        have hb5 : Below w4.heap.size w4 _ := hb4
        go_wp2
        go_ret
        exact ⟨rfl, HEND.out _ (HW2.out.below hb5)⟩
    · obtain rfl : r = 10 := by omega
      have HMN : Hid (M = (q, 10)) := Lib.hid (by rw [← HMr.out]; rfl)
      have HB := Lib.hid (HW.out.way.facts hql)
      have hne := HW.out.way.ne
      have HEND : Hid (∀ X, Way w' X 92 B g cap l.length f → BudAt (((X.setCell ⟨g, q * 3, none⟩ (.int .i64 0)).setCell ⟨g, q * 3 + 1, none⟩ (.int .i64 10)).setCell ⟨g, q * 3 + 2, none⟩ (.int .i64 0)) 92 B g cap (freeL l p) ∧ Kept (· = g) w' (((X.setCell ⟨g, q * 3, none⟩ (.int .i64 0)).setCell ⟨g, q * 3 + 1, none⟩ (.int .i64 10)).setCell ⟨g, q * 3 + 2, none⟩ (.int .i64 0))) := Lib.hid (fun X hX => by
        rw [HRES.out, HMN.out]
        exact HW.out.ends HA.out (hX.set q (fh 10)))
      have HW2 := Lib.hid HW.out.way
      go_wp2
      go_region_held3 (fun W => W.cell? ⟨B, 0, none⟩ = some (.slice (some ⟨g, 0, none⟩) l.length cap))
        (first | exact cell_keep (Below.drew (Below.refl _ _)) HB.out.1 | exact cell_keep (show Below wr.heap.size wr _ from by assumption) HB.out.1 | exact cell_set3 hne (cell_keep (show Below wr.heap.size wr _ from by assumption) HB.out.1))
        (first
          | (go_at_call 65; refine (cFreeHead _ _).mono ?_; rintro e w5 ⟨rfl, h3⟩; have hb4 : Below wr.heap.size wr w5 := below_then (Below.drew (Below.refl _ _)) h3; obtain ⟨q0, q1, q2, q3, q4, q5, q6, _⟩ := keys7 HB.out hb4))
      have hb5 : Below wr.heap.size wr _ := hb4
      go_wp2
      go_ret
      exact ⟨rfl, HEND.out _ (HW2.out.below hb5)⟩
end

/-- the numbers below k of which q is true -/
def ids (q : Nat → Bool) : Nat → List Int
  | 0 => []
  | k + 1 => if q k = true then ids q k ++ [(k : Int)] else ids q k
theorem ids_yes {q : Nat → Bool} {k : Nat} (h : q k = true) : ids q (k + 1) = ids q k ++ [(k : Int)] := by simp only [ids, h, if_true]
theorem ids_no {q : Nat → Bool} {k : Nat} (h : q k = false) : ids q (k + 1) = ids q k := by simp [ids, h]
theorem ids_le (q : Nat → Bool) (k : Nat) : (ids q k).length ≤ k := by
  induction k with
  | zero => simp [ids]
  | succ k ih =>
    cases h : q k
    · rw [ids_no h]; omega
    · rw [ids_yes h]; simp; omega
theorem ids_mem {q : Nat → Bool} {k : Nat} {x : Int} : x ∈ ids q k ↔ ∃ i, i < k ∧ q i = true ∧ x = (i : Int) := by
  induction k with
  | zero => simp [ids]
  | succ k ih =>
    by_cases h : q k = true
    · rw [ids_yes h, List.mem_append, ih]
      constructor
      · rintro (⟨i, h1, h2, h3⟩ | h1)
        · exact ⟨i, by omega, h2, h3⟩
        · exact ⟨k, by omega, h, by simpa using h1⟩
      · rintro ⟨i, h1, h2, h3⟩
        by_cases e : i = k
        · subst e; right; simp [h3]
        · exact .inl ⟨i, by omega, h2, h3⟩
    · have h' : q k = false := by simpa using h
      rw [ids_no h', ih]
      constructor
      · rintro ⟨i, h1, h2, h3⟩; exact ⟨i, by omega, h2, h3⟩
      · rintro ⟨i, h1, h2, h3⟩
        by_cases e : i = k
        · subst e; rw [h2] at h'; cases h'
        · exact ⟨i, by omega, h2, h3⟩
theorem ids_nil {q : Nat → Bool} {k : Nat} : (ids q k).length = 0 ↔ ∀ i, i < k → q i = false := by
  rw [List.length_eq_zero_iff]
  constructor
  · intro h i hi
    apply Classical.byContradiction
    intro hq
    have : (i : Int) ∈ ids q k := ids_mem.2 ⟨i, hi, by simpa using hq, rfl⟩
    rw [h] at this
    simp at this
  · intro h
    apply List.eq_nil_iff_forall_not_mem.2
    intro x hx
    obtain ⟨i, h1, h2, _⟩ := ids_mem.1 hx
    rw [h i h1] at h2
    cases h2
/-- the free blocks of an order -/
def frq (l : List Pg) (o : Int) (i : Nat) : Bool := decide (pg l i = ⟨0, o, 0⟩)
abbrev frs (l : List Pg) (o : Int) : List Int := ids (frq l o) l.length
section
variable {w : World} {B g cap : Nat} {l : List Pg}
set_option maxHeartbeats 1000000 in
theorem cLeft (h : BudAt w 92 B g cap l) (c : Nat) (hc : freeF l = c) :
    Calls Try.prog 35 #[.pointer (some ⟨B, 0, none⟩)] w fun e w' => e = .returned (.int .i64 c) ∧ Below w.heap.size w w' := by
  have hself := h.self
  have HC := Lib.hid hc
  clear hc
  go_enter Try.func35, Try.ntmps35
  go_wp2_with fail
  refine (cIsNone h).mono ?_
  rintro e w' ⟨rfl, rfl⟩
  go_wp2_with fail
  refine (cFree _ l c HC.out _ h.shows).mono ?_
  rintro e w1 ⟨rfl, hb⟩
  go_wp2
  go_ret
  exact ⟨rfl, hb⟩
set_option maxHeartbeats 1000000 in
theorem cLeftNil (w : World) : Calls Try.prog 35 #[.pointer none] w fun e w' => e = .returned (.int .i64 0) ∧ w' = w := by
  go_enter Try.func35, Try.ntmps35
  go_wp2_with (go_at_call 61; refine (cIsNoneNil _).mono ?_; rintro e w' ⟨rfl, rfl⟩)
  go_ret
  exact ⟨rfl, rfl⟩
set_option maxHeartbeats 1000000 in
theorem cLeftZero (B : Nat) (w : World) (hc : w.cell? ⟨B, 0, none⟩ = some (.slice none 0 0)) : Calls Try.prog 35 #[.pointer (some ⟨B, 0, none⟩)] w fun e w' => e = .returned (.int .i64 0) ∧ w' = w := by
  go_enter Try.func35, Try.ntmps35
  go_wp2_with (go_at_call 61; refine (cIsNoneZero B _ hc).mono ?_; rintro e w' ⟨rfl, rfl⟩)
  go_ret
  exact ⟨rfl, rfl⟩
end
end Go.Proofs.Ytlljomnpdgmifaa
