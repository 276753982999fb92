/-
  Check, Head, Free of the document's answer; a table of one's own.
-/
import Derived.Test.YtlljomnpdgmifaaFrm

set_option linter.unusedVariables false
set_option linter.unusedSimpArgs false
namespace Go.Proofs.Ytlljomnpdgmifaa
open Go Go.RowKit

set_option maxHeartbeats 4000000 in
set_option maxRecDepth 100000 in
theorem rBegin (u : Value) (l : List Pg) (p b : Nat) (hl : l.length ≤ 1024) (hp : p < l.length) (hb : beg l p = b) (w : World) (hs : ShowP w u l) :
    Calls Try.prog 83 #[u, .int .i64 p] w fun e w' => e = .returned (.int .i64 b) ∧ w' = w := by
  obtain ⟨ao, cap, rfl, hcap, hat⟩ := hs.form
  have HB := Lib.hid hb
  clear hs hb
  go_enter Try.func83, Try.ntmps83
  go_wp2
  go_loopw [1] (fun x wr => ∃ k : Nat, k ≤ p ∧ x = .int .i64 k ∧ Hid (beg l k = b) ∧ wr = w) (fun x _ => (intOf x).toNat)
  case atStart => exact ⟨p, Nat.le_refl _, rfl, HB, rfl⟩
  case round =>
    obtain ⟨k, hk, rfl, HK, rfl⟩ := hrel
    by_cases h0 : 0 < k
    · obtain ⟨b1, o1, rfl, c0, _, _⟩ := hat k (by omega)
      have HS : Hid ((pg l k).kind = 1 → beg l (k - 1) = b) := Lib.hid (fun h => by rw [← HK.out, beg_step h h0])
      have HN : Hid ((pg l k).kind ≠ 1 → k = b) := Lib.hid (fun h => by rw [← HK.out, beg_self h])
      generalize (pg l k).kind = q at c0 HS HN
      by_cases hq : q = 1
      · have HS1 := Lib.hid (HS.out hq)
        subst hq
        clear HS HN
        go_wp2
        go_roundw
        case rel => exact ⟨k - 1, by omega, by go_num, HS1, by first | trivial | rfl⟩
        case measure => simp [intOf]; omega
      · have HN1 := Lib.hid (HN.out hq)
        have hqn : (q == 1) = false := by simpa using hq
        clear HS HN
        go_wp2
        go_ret
        exact ⟨by rw [HN1.out]; rfl, rfl⟩
    · obtain rfl : k = 0 := by omega
      have HK1 : Hid (0 = b) := Lib.hid (by have := HK.out; rwa [show beg l 0 = 0 from rfl] at this)
      go_wp2
      go_ret
      exact ⟨by rw [← HK1.out]; rfl, rfl⟩

set_option maxHeartbeats 8000000 in
set_option maxRecDepth 100000 in
theorem rCheck (u : Value) (l : List Pg) (c : Int) (hc : chkF l = c) (w : World) (hs : ShowP w u l) :
    Calls Try.prog 82 #[u] w fun e w' => e = .returned (.int .i64 c) ∧ Below w.heap.size w w' := by
  obtain ⟨ao, cap, rfl, hcap, hat⟩ := id hs.form
  by_cases h1 : 1 ≤ l.length
  rotate_left
  · have HC : Hid (c = 50) := Lib.hid (by rw [← hc]; exact chk_no (fun h => h1 h.1))
    clear hc hat hs
    go_enter Try.func82, Try.ntmps82
    go_wp2
    go_ret
    exact ⟨by rw [HC.out]; rfl, Below.refl _ _⟩
  by_cases h2 : l.length ≤ 1024
  rotate_left
  · have HC : Hid (c = 50) := Lib.hid (by rw [← hc]; exact chk_no (fun h => h2 h.2.1))
    clear hc hat hs
    go_enter Try.func82, Try.ntmps82
    go_wp2
    go_ret
    exact ⟨by rw [HC.out]; rfl, Below.refl _ _⟩
  have HNO : Hid (¬ Good l 0 → c = 50) := Lib.hid (fun h => by rw [← hc]; exact chk_no (fun hv => h hv.2.2))
  have HYES : Hid (Good l 0 → c = 0) := Lib.hid (fun h => by rw [← hc]; exact chk_ok ⟨h1, h2, h⟩)
  obtain ⟨b, o, rfl, _⟩ := hat 0 (by omega)
  have HAT := Lib.hid hat
  have hd1 : decide ((l.length : Int) < 1) = false := decide_eq_false (by omega)
  have hd2 : decide ((1024 : Int) < (l.length : Int)) = false := decide_eq_false (by omega)
  clear hat hs hc
  go_enter Try.func82, Try.ntmps82
  go_wp2
  go_loopw [3] (fun x wr => ∃ k : Nat, k ≤ l.length ∧ x = .int .i64 k ∧ Hid (Good l 0 ↔ Good l k) ∧ Below w.heap.size w wr) (fun x _ => l.length - (intOf x).toNat)
  case atStart => exact ⟨0, by omega, rfl, Lib.hid Iff.rfl, Below.refl _ _⟩
  case round =>
    obtain ⟨k, hk, rfl, HG, hb⟩ := hrel
    by_cases hlt : k < l.length
    rotate_left
    · obtain rfl : k = l.length := by omega
      have HC : Hid (c = 0) := Lib.hid (HYES.out (HG.out.2 Good.done))
      go_wp2
      go_ret
      exact ⟨by rw [HC.out]; rfl, hb⟩
    obtain ⟨b', o', e', x0, x1, x2⟩ := HAT.out k hlt
    cases e'
    replace x0 := cell_keep hb x0
    replace x1 := cell_keep hb x1
    replace x2 := cell_keep hb x2
    obtain ⟨p, hp⟩ : ∃ p, pg l k = p := ⟨_, rfl⟩
    rw [hp] at x0 x1 x2
    obtain ⟨kd, od, ch⟩ := p
    dsimp only at x0 x1 x2
    have HP := Lib.hid hp
    have HNS : Hid (¬ Starts l k → c = 50) := Lib.hid (fun h => HNO.out (fun hg => h ((HG.out.1 hg).starts hlt)))
    obtain ⟨q, hq⟩ : ∃ q, (⟨kd, od, ch⟩ : Pg).ok = q := ⟨_, rfl⟩
    have HQ := Lib.hid hq
    clear hp hq
    go_wp2_with fail
    refine (cRHead kd od ch q HQ.out _).mono ?_
    rintro e w1 ⟨rfl, hb1⟩
    have hH : w1.heap[wr.heap.size]? = some (.cells #[.int .i64 kd, .int .i64 od, .int .i64 ch] 99) := (hb1.block _ (by simp)).trans (heap_new _ _)
    have hB1 : Below w.heap.size w w1 := below_then (below_one hb _) hb1
    have HH := Lib.hid hH
    obtain ⟨g0, g1, g2⟩ := self3 hH
    clear x0 x1 x2 hH hb1
    cases q
    · have HC : Hid (c = 50) := Lib.hid (HNS.out (fun h => by have := h.head; rw [HP.out, HQ.out] at this; cases this))
      go_wp2
      go_ret
      exact ⟨by rw [HC.out]; rfl, hB1⟩
    have ho := (Pg.ok_iff.1 HQ.out).1
    dsimp only at ho
    obtain ⟨ho0, ho1⟩ := ho
    obtain ⟨S, hS⟩ : ∃ S : Nat, (2 : Int) ^ od.toNat = (S : Int) := ⟨2 ^ od.toNat, by simp⟩
    have hsz := sz_of HP.out hS
    have hSS : 1 ≤ S ∧ S ≤ 1024 := by
      rw [← hsz]
      exact ⟨Pg.sz_pos _, Pg.sz_le (by rw [HP.out]; exact HQ.out)⟩
    have HSZ := Lib.hid hsz
    clear hsz
    obtain ⟨r, hr⟩ : ∃ r : Nat, k % S = r := ⟨_, rfl⟩
    have hri : (k : Int) % (S : Int) = (r : Int) := by omega
    have HR := Lib.hid hr
    clear hr
    by_cases hr0 : r = 0
    rotate_left
    · have HC : Hid (c = 50) := Lib.hid (HNS.out (fun h => by have := h.mult; rw [HSZ.out, HR.out] at this; exact hr0 this))
      go_wp2
      go_ret
      exact ⟨by rw [HC.out]; rfl, hB1⟩
    subst hr0
    by_cases hfit : k + S ≤ l.length
    rotate_left
    · have HC : Hid (c = 50) := Lib.hid (HNS.out (fun h => by have := h.fits; rw [HSZ.out] at this; exact hfit this))
      go_wp2
      go_ret
      exact ⟨by rw [HC.out]; rfl, hB1⟩
    go_wp2
    go_loopw [5] (fun x wr' => ∃ m : Nat, 1 ≤ m ∧ m ≤ S ∧ x = .int .i64 ((k + m : Nat) : Int) ∧ Hid (Ins l k m) ∧ wr' = w1) (fun x _ => k + S - (intOf x).toNat)
    case atStart => exact ⟨1, by omega, by omega, by go_num, Lib.hid (Ins.zero l k), rfl⟩
    case round =>
      obtain ⟨m, hm1, hm, rfl, HI, rfl⟩ := hrel
      by_cases hmS : m < S
      · obtain ⟨b', o', e', x0, x1, x2⟩ := HAT.out (k + m) (by omega)
        cases e'
        replace x0 := cell_keep hB1 x0
        replace x1 := cell_keep hB1 x1
        replace x2 := cell_keep hB1 x2
        have HY : Hid (pg l (k + m) = pin → Ins l k (m + 1)) := Lib.hid (fun h => HI.out.more h)
        have HN : Hid (pg l (k + m) ≠ pin → c = 50) := Lib.hid (fun h => HNS.out (fun hs => h (hs.ins _ (by omega) (by rw [HSZ.out]; omega))))
        generalize pg l (k + m) = p at x0 x1 x2 HY HN
        have hgd := guardP
        by_cases hp : p = pin
        · have heq : ∀ w', (Op.equalIn 10000 99 (.agg #[.int .i64 p.kind, .int .i64 p.order, .int .i64 p.cache]) (.agg #[.int .i64 1, .int .i64 0, .int .i64 0])).run Try.prog w' = .ok true w' := fun w' => eqinIs (d := pin) (decide_eq_true hp)
          have HY1 := Lib.hid (HY.out hp)
          clear HY HN hp
          go_wp2
          go_roundw
          case rel => exact ⟨m + 1, by omega, by omega, by go_num, HY1, by first | trivial | rfl⟩
          case measure => simp [intOf]; omega
        · have heq : ∀ w', (Op.equalIn 10000 99 (.agg #[.int .i64 p.kind, .int .i64 p.order, .int .i64 p.cache]) (.agg #[.int .i64 1, .int .i64 0, .int .i64 0])).run Try.prog w' = .ok false w' := fun w' => eqinIs (d := pin) (decide_eq_false hp)
          have HN1 := Lib.hid (HN.out hp)
          clear HY HN hp
          go_wp2
          go_ret
          exact ⟨by rw [HN1.out]; rfl, hB1⟩
      · have hmS2 : m = S := by omega
        have HST : Hid (Good l 0 ↔ Good l (k + S)) := Lib.hid (HG.out.trans (by
          have hs : Starts l k := ⟨by rw [HP.out]; exact HQ.out, by rw [HSZ.out]; exact HR.out, by rw [HSZ.out]; exact hfit, by rw [HSZ.out, ← hmS2]; exact HI.out⟩
          have := Good.next hlt hs
          rwa [HSZ.out] at this))
        clear hmS2
        go_wp2
        go_roundw
        case rel => exact ⟨k + S, by omega, by go_num, HST, hB1⟩
        case measure => simp [intOf]; omega

set_option maxHeartbeats 1000000 in
theorem rHead (u : Value) (l : List Pg) (page : Int) (a c : Int) (h : headF l page = (a, c)) (w : World) (hs : ShowP w u l) :
    Calls Try.prog 60 #[u, .int .i64 page] w fun e W' => e = .returned (.tuple #[.int .i64 a, .int .i64 c]) ∧ Below w.heap.size w W' := by
  obtain ⟨ao, cap, rfl, hcap, _⟩ := id hs.form
  by_cases hv : Valid l
  rotate_left
  · rw [head_no hv] at h
    cases h
    have HK := Lib.hid (chk_no hv)
    clear hv
    go_enter Try.func60, Try.ntmps60
    go_wp2_with (go_at_call 82; refine (rCheck _ l 50 HK.out _ hs).mono ?_; rintro e w1 ⟨rfl, hb⟩)
    go_ret2
    exact ⟨rfl, hb⟩
  have HK := Lib.hid (chk_ok hv)
  by_cases hin : 0 ≤ page ∧ page < l.length
  rotate_left
  · rw [head_out hv hin] at h
    cases h
    have hor : page < 0 ∨ (0 ≤ page ∧ (l.length : Int) ≤ page) := by omega
    clear hv hin
    rcases hor with h1 | ⟨h1, h2⟩
    · go_enter Try.func60, Try.ntmps60
      go_wp2_with (go_at_call 82; refine (rCheck _ l 0 HK.out _ hs).mono ?_; rintro e w1 ⟨rfl, hb⟩)
      go_ret2
      exact ⟨rfl, hb⟩
    · go_enter Try.func60, Try.ntmps60
      go_wp2_with (go_at_call 82; refine (rCheck _ l 0 HK.out _ hs).mono ?_; rintro e w1 ⟨rfl, hb⟩)
      go_ret2
      exact ⟨rfl, hb⟩
  obtain ⟨p, rfl⟩ : ∃ p : Nat, page = (p : Int) := ⟨page.toNat, by omega⟩
  have hp : p < l.length := by omega
  rw [head_in hv hp] at h
  cases h
  have HV := Lib.hid hv
  obtain ⟨b, hb0⟩ : ∃ b, beg l p = b := ⟨_, rfl⟩
  rw [hb0]
  have HB := Lib.hid hb0
  have hl := hv.2.1
  clear hb0
  clear hv hin
  go_enter Try.func60, Try.ntmps60
  go_wp2_with fail
  refine (rCheck _ l 0 HK.out _ hs).mono ?_
  rintro e w1 ⟨rfl, hb⟩
  have hs1 := hs.below hb
  go_wp2_with fail
  refine (rBegin _ l p b hl hp HB.out _ hs1).mono ?_
  rintro e w2 ⟨rfl, rfl⟩
  go_wp2
  go_ret2
  exact ⟨rfl, hb⟩

set_option maxHeartbeats 4000000 in
set_option maxRecDepth 100000 in
theorem rFree (u : Value) (l : List Pg) (c : Nat) (hc : freeF l = c) (w : World) (hs : ShowP w u l) :
    Calls Try.prog 80 #[u] w fun e w' => e = .returned (.int .i64 (c : Int)) ∧ Below w.heap.size w w' := by
  obtain ⟨ao, cap, rfl, hcap, hat⟩ := id hs.form
  by_cases hv : Valid l
  rotate_left
  · have HC : Hid (c = 0) := Lib.hid (by rw [← hc]; exact free_no hv)
    have HK := Lib.hid (chk_no hv)
    clear hc hv
    go_enter Try.func80, Try.ntmps80
    go_wp2_with (go_at_call 82; refine (rCheck _ l 50 HK.out _ hs).mono ?_; rintro e w1 ⟨rfl, hb⟩)
    go_ret
    exact ⟨by rw [HC.out]; rfl, hb⟩
  have HC : Hid (freeTo l l.length = c) := Lib.hid (by rw [← hc]; exact (free_yes hv).symm)
  have HK := Lib.hid (chk_ok hv)
  have hl := hv.2.1
  have HAT := Lib.hid hat
  have HS := Lib.hid hs
  clear hc hv hat hs
  go_enter Try.func80, Try.ntmps80
  go_wp2_with fail
  refine (rCheck _ l 0 HK.out _ HS.out).mono ?_
  rintro e w1 ⟨rfl, hb⟩
  have HS1 := Lib.hid (HS.out.below hb)
  have HB := Lib.hid hb
  clear hb
  go_wp2
  go_loopw [3, 4] (fun n x wr => ∃ k : Nat, k ≤ l.length ∧ x = .int .i64 k ∧ n = .int .i64 (freeTo l k : Nat) ∧ wr = w1) (fun _ x _ => l.length - (intOf x).toNat)
  case atStart => exact ⟨0, by omega, rfl, rfl, rfl⟩
  case round =>
    obtain ⟨k, hk, rfl, rfl, rfl⟩ := hrel
    have hF := freeTo_le l k
    by_cases hlt : k < l.length
    · have hbl := beg_le l k
      have HT : Hid (freeTo l (k + 1) = freeTo l k + (if (pg l (beg l k)).kind = 0 then 1 else 0)) := Lib.hid rfl
      obtain ⟨b, hb⟩ : ∃ b, beg l k = b := ⟨_, rfl⟩
      have HBG := Lib.hid hb
      rw [hb] at hbl HT
      clear hb
      obtain ⟨b1, o1, rfl, c0, _, _⟩ := HAT.out b (by omega)
      replace c0 := cell_keep HB.out c0
      generalize freeTo l k = f at hF HT
      generalize (pg l b).kind = q at c0 HT
      by_cases hq : q = 0
      · have HT1 : Hid (freeTo l (k + 1) = f + 1) := Lib.hid (by rw [HT.out, if_pos hq])
        subst hq
        clear HT
        go_wp2_with (go_at_call 83; refine (rBegin _ l k b hl hlt HBG.out _ HS1.out).mono ?_; rintro e w2 ⟨rfl, rfl⟩)
        go_roundw
        case rel => exact ⟨k + 1, by omega, by go_num, by rw [HT1.out]; go_num, by first | trivial | rfl⟩
        case measure => simp [intOf]; omega
      · have HT1 : Hid (freeTo l (k + 1) = f) := Lib.hid (by rw [HT.out, if_neg hq]; rfl)
        have hqn : (q == 0) = false := by simpa using hq
        clear HT
        go_wp2_with (go_at_call 83; refine (rBegin _ l k b hl hlt HBG.out _ HS1.out).mono ?_; rintro e w2 ⟨rfl, rfl⟩)
        go_roundw
        case rel => exact ⟨k + 1, by omega, by go_num, by rw [HT1.out], by first | trivial | rfl⟩
        case measure => simp [intOf]; omega
    · obtain rfl : k = l.length := by omega
      have hc1 := HC.out
      rw [hc1]
      go_wp2
      go_ret
      exact ⟨rfl, HB.out⟩

/-- block g begins with n pages -/
def TabIs (w : World) (g n : Nat) (f : Nat → Pg) : Prop := ∃ c : Array Value, w.heap[g]? = some (.cells c 99 (0, 0)) ∧
  ∀ i, i < n → c[i * 3]? = some (.int .i64 (f i).kind) ∧ c[i * 3 + 1]? = some (.int .i64 (f i).order) ∧ c[i * 3 + 2]? = some (.int .i64 (f i).cache)
section
variable {w w' : World} {g n : Nat} {f h : Nat → Pg}
theorem TabIs.lt (t : TabIs w g n f) : g < w.heap.size := by
  obtain ⟨c, hb, _⟩ := t
  exact lt_of_block hb
theorem TabIs.frozen (t : TabIs w g n f) (j : Nat) : w.frozen? ⟨g, j, none⟩ = false := by
  obtain ⟨c, hb, _⟩ := t
  exact self_free hb j
theorem TabIs.cells (t : TabIs w g n f) {i : Nat} (hi : i < n) : w.cell? ⟨g, i * 3, none⟩ = some (.int .i64 (f i).kind) ∧ w.cell? ⟨g, i * 3 + 1, none⟩ = some (.int .i64 (f i).order) ∧ w.cell? ⟨g, i * 3 + 2, none⟩ = some (.int .i64 (f i).cache) := by
  obtain ⟨c, hb, hc⟩ := t
  obtain ⟨h0, h1, h2⟩ := hc i hi
  exact ⟨self_cell hb _ _ h0, self_cell hb _ _ h1, self_cell hb _ _ h2⟩
theorem TabIs.of_block (t : TabIs w g n f) (e : w'.heap[g]? = w.heap[g]?) : TabIs w' g n f := by
  obtain ⟨c, hb, hc⟩ := t
  exact ⟨c, e.trans hb, hc⟩
theorem TabIs.below (t : TabIs w g n f) (hb : Below w.heap.size w w') : TabIs w' g n f := t.of_block (hb.block g t.lt)
theorem TabIs.congr (t : TabIs w g n f) (e : ∀ i, i < n → f i = h i) : TabIs w g n h := by
  obtain ⟨c, hb, hc⟩ := t
  exact ⟨c, hb, fun i hi => by rw [← e i hi]; exact hc i hi⟩
/-- page k is written -/
theorem TabIs.set (t : TabIs w g n f) (k : Nat) (p : Pg) : TabIs (((w.setCell ⟨g, k * 3, none⟩ (.int .i64 p.kind)).setCell ⟨g, k * 3 + 1, none⟩ (.int .i64 p.order)).setCell ⟨g, k * 3 + 2, none⟩ (.int .i64 p.cache)) g n (fun i => if i = k then p else f i) := by
  obtain ⟨c, hb, hc⟩ := t
  refine ⟨_, cells_set (cells_set (cells_set hb (k * 3) _) (k * 3 + 1) _) (k * 3 + 2) _, fun i hi => ?_⟩
  obtain ⟨h0, h1, h2⟩ := hc i hi
  have s0 := (Array.getElem?_eq_some_iff.1 h0).1
  have s1 := (Array.getElem?_eq_some_iff.1 h1).1
  have s2 := (Array.getElem?_eq_some_iff.1 h2).1
  simp only [Array.getElem?_setIfInBounds, Array.size_setIfInBounds]
  by_cases e : i = k
  · subst e
    simp [s0, s1, s2]
  · simp [e, show ¬ k = i by omega, show ¬ k * 3 = i * 3 by omega, show ¬ k * 3 + 1 = i * 3 by omega, show ¬ k * 3 + 2 = i * 3 by omega, show ¬ k * 3 = i * 3 + 1 by omega, show ¬ k * 3 + 2 = i * 3 + 1 by omega, show ¬ k * 3 = i * 3 + 2 by omega, show ¬ k * 3 + 1 = i * 3 + 2 by omega, h0, h1, h2]
/-- page k's first number is written -/
theorem TabIs.setKind (t : TabIs w g n f) (k : Nat) (x : Int) : TabIs (w.setCell ⟨g, k * 3, none⟩ (.int .i64 x)) g n (fun i => if i = k then ⟨x, (f i).order, (f i).cache⟩ else f i) := by
  obtain ⟨c, hb, hc⟩ := t
  refine ⟨_, cells_set hb (k * 3) _, fun i hi => ?_⟩
  obtain ⟨h0, h1, h2⟩ := hc i hi
  have s0 := (Array.getElem?_eq_some_iff.1 h0).1
  simp only [Array.getElem?_setIfInBounds]
  by_cases e : i = k
  · subst e
    simp [s0, h1, h2]
  · simp [e, show ¬ k * 3 = i * 3 by omega, show ¬ k * 3 = i * 3 + 1 by omega, show ¬ k * 3 = i * 3 + 2 by omega, h0, h1, h2]
theorem TabIs.shows {cap : Nat} {l : List Pg} (t : TabIs w g l.length (pg l)) (hc : l.length ≤ cap ∧ cap ≤ maxLen) : ShowP w (.slice (some ⟨g, 0, none⟩) l.length cap) l := by
  refine ⟨pgs_length l, _, cap, rfl, hc, fun _ => ⟨g, 0, rfl, fun j hj => ?_⟩⟩
  obtain ⟨q, r, rfl, hr⟩ : ∃ q r, j = q * 3 + r ∧ r < 3 := ⟨j / 3, j % 3, by omega, by omega⟩
  have hq : q < l.length := by omega
  rw [pgs_at l q r hq hr, Nat.zero_add]
  obtain ⟨c0, c1, c2⟩ := t.cells hq
  match r, hr with
  | 0, _ => rw [Nat.add_zero, c0]; simp only [pg_at l q hq, Pg.cells, List.getElem_cons_zero]
  | 1, _ => rw [c1]; simp only [pg_at l q hq, Pg.cells, List.getElem_cons_succ, List.getElem_cons_zero]
  | 2, _ => rw [c2]; simp only [pg_at l q hq, Pg.cells, List.getElem_cons_succ, List.getElem_cons_zero]
end
theorem tab_of_own {w : World} {B : Nat} {v : Value} {l : List Pg} (h : w.ownsRow B 99 3 v l.length (pgs l)) (h1 : 1 ≤ l.length) :
    ∃ g cap, v = .slice (some ⟨g, 0, none⟩) l.length cap ∧ B ≤ g ∧ (l.length ≤ cap ∧ cap ≤ maxLen) ∧ TabIs w g l.length (pg l) := by
  rcases h.2 with ⟨_, h0⟩ | ⟨g, cap, cur, rfl, hB, hb, hc, hm, hsz, ht⟩
  · omega
  · refine ⟨g, cap, rfl, hB, ⟨hc, hm⟩, cur, hb, fun i hi => ?_⟩
    have key : ∀ j, j < 3 → cur[i * 3 + j]? = some ((l[i]).cells[j]!) := fun j hj => by
      have ha := pgs_at l i j hi hj
      rw [← ht, List.getElem?_take, if_pos (by omega)] at ha
      rw [← Array.getElem?_toList, ha]
      have : j < (l[i]).cells.length := by simpa [Pg.cells] using hj
      simp [this]
    rw [← pg_at l i hi]
    exact ⟨by simpa [Pg.cells] using key 0 (by omega), by simpa [Pg.cells] using key 1 (by omega), by simpa [Pg.cells] using key 2 (by omega)⟩
theorem news_of {w : World} {b o cap : Nat} {l : List Pg} (hs : ShowP w (.slice (some ⟨b, o, none⟩) l.length cap) l) : ∀ j u, (pgs l)[j]? = some u → w.cell? ((⟨b, o, none⟩ : Addr).add j) = some u := by
  intro j u hj
  obtain ⟨hl, ao', cap', hv, hc, hx⟩ := hs
  cases hv
  have hlt := (List.getElem?_eq_some_iff.1 hj).1
  obtain ⟨b', o', ha, h2⟩ := hx (by omega)
  cases ha
  have := h2 j (by omega)
  rw [hj] at this
  rw [show (⟨b, o, none⟩ : Addr).add j = ⟨b, o + j, none⟩ by
        by_cases hj0 : j = 0
        · subst hj0; rfl
        · simp [Addr.add, hj0], this]
theorem pgs_one (l : List Pg) : ∀ u ∈ pgs l, u.oneCell' = true := by
  intro u hu
  obtain ⟨c, _, hc⟩ := List.mem_flatMap.1 hu
  simp only [Pg.cells, List.mem_cons, List.mem_nil_iff, or_false] at hc
  rcases hc with rfl | rfl | rfl <;> rfl

end Go.Proofs.Ytlljomnpdgmifaa
