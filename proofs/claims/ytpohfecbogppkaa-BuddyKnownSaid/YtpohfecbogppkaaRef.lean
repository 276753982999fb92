/-
  begin, Check, of the document's answer.
-/
import Derived.Test.YtpohfecbogppkaaStart
set_option linter.unusedVariables false
set_option linter.unusedSimpArgs false
namespace Go.Proofs.Ytpohfecbogppkaa
open Go Go.RowKit

set_option maxHeartbeats 4000000 in
set_option maxRecDepth 100000 in
theorem rBegin (u : Value) (l : List Pg) (p b : Nat) (hl : l.length ≤ 1024) (hp : p < l.length) (hb : beg l p = b) (w : World) (hs : ShowP w u l) :
    Calls Try.prog 51 #[u, .int .i64 p] w fun e w' => e = .returned (.int .i64 b) ∧ w' = w := by
  obtain ⟨ao, cap, rfl, hcap, hat⟩ := hs.form
  have HB := Lib.hid hb
  clear hs hb
  go_enter Try.func51, Try.ntmps51
  go_wp2
  go_loopw [1] (fun x wr => ∃ k : Nat, k ≤ p ∧ x = .int .i64 k ∧ Hid (beg l k = b) ∧ wr = w) (fun x _ => (intOf x).toNat)
  case atStart => exact ⟨p, Nat.le_refl _, rfl, HB, rfl⟩
  case round =>
    obtain ⟨k, hk, rfl, HK, rfl⟩ := hrel
    by_cases h0 : 0 < k
    · obtain ⟨b1, o1, rfl, c0, _, _⟩ := hat k (by omega)
      have HS : Hid ((pg l k).kind = 1 → beg l (k - 1) = b) := Lib.hid (fun h => by rw [← HK.out, beg_step h h0])
      have HN : Hid ((pg l k).kind ≠ 1 → k = b) := Lib.hid (fun h => by rw [← HK.out, beg_self h])
      generalize (pg l k).kind = q at c0 HS HN
      by_cases hq : q = 1
      · have HS1 := Lib.hid (HS.out hq)
        subst hq
        clear HS HN
        go_wp2
        go_roundw
        case rel => exact ⟨k - 1, by omega, by go_num, HS1, by first | trivial | rfl⟩
        case measure => simp [intOf]; omega
      · have HN1 := Lib.hid (HN.out hq)
        have hqn : (q == 1) = false := by simpa using hq
        clear HS HN
        go_wp2
        go_ret
        exact ⟨by rw [HN1.out]; rfl, rfl⟩
    · obtain rfl : k = 0 := by omega
      have HK1 : Hid (0 = b) := Lib.hid (by have := HK.out; rwa [show beg l 0 = 0 from rfl] at this)
      go_wp2
      go_ret
      exact ⟨by rw [← HK1.out]; rfl, rfl⟩

set_option maxHeartbeats 8000000 in
set_option maxRecDepth 100000 in
theorem rCheck (u : Value) (l : List Pg) (c : Int) (hc : chkF l = c) (w : World) (hs : ShowP w u l) :
    Calls Try.prog 50 #[u] w fun e w' => e = .returned (.int .i64 c) ∧ Below w.heap.size w w' := by
  obtain ⟨ao, cap, rfl, hcap, hat⟩ := id hs.form
  by_cases h1 : 1 ≤ l.length
  rotate_left
  · have HC : Hid (c = 50) := Lib.hid (by rw [← hc]; exact chk_no (fun h => h1 h.1))
    clear hc hat hs
    go_enter Try.func50, Try.ntmps50
    go_wp2
    go_ret
    exact ⟨by rw [HC.out]; rfl, Below.refl _ _⟩
  by_cases h2 : l.length ≤ 1024
  rotate_left
  · have HC : Hid (c = 50) := Lib.hid (by rw [← hc]; exact chk_no (fun h => h2 h.2.1))
    clear hc hat hs
    go_enter Try.func50, Try.ntmps50
    go_wp2
    go_ret
    exact ⟨by rw [HC.out]; rfl, Below.refl _ _⟩
  have HNO : Hid (¬ Good l 0 → c = 50) := Lib.hid (fun h => by rw [← hc]; exact chk_no (fun hv => h hv.2.2))
  have HYES : Hid (Good l 0 → c = 0) := Lib.hid (fun h => by rw [← hc]; exact chk_ok ⟨h1, h2, h⟩)
  obtain ⟨b, o, rfl, _⟩ := hat 0 (by omega)
  have HAT := Lib.hid hat
  have hd1 : decide ((l.length : Int) < 1) = false := decide_eq_false (by omega)
  have hd2 : decide ((1024 : Int) < (l.length : Int)) = false := decide_eq_false (by omega)
  clear hat hs hc
  go_enter Try.func50, Try.ntmps50
  go_wp2
  go_loopw [3] (fun x wr => ∃ k : Nat, k ≤ l.length ∧ x = .int .i64 k ∧ Hid (Good l 0 ↔ Good l k) ∧ Below w.heap.size w wr) (fun x _ => l.length - (intOf x).toNat)
  case atStart => exact ⟨0, by omega, rfl, Lib.hid Iff.rfl, Below.refl _ _⟩
  case round =>
    obtain ⟨k, hk, rfl, HG, hb⟩ := hrel
    by_cases hlt : k < l.length
    rotate_left
    · obtain rfl : k = l.length := by omega
      have HC : Hid (c = 0) := Lib.hid (HYES.out (HG.out.2 Good.done))
      go_wp2
      go_ret
      exact ⟨by rw [HC.out]; rfl, hb⟩
    obtain ⟨b', o', e', x0, x1, x2⟩ := HAT.out k hlt
    cases e'
    replace x0 := cell_keep hb x0
    replace x1 := cell_keep hb x1
    replace x2 := cell_keep hb x2
    obtain ⟨p, hp⟩ : ∃ p, pg l k = p := ⟨_, rfl⟩
    rw [hp] at x0 x1 x2
    obtain ⟨kd, od, ch⟩ := p
    dsimp only at x0 x1 x2
    have HP := Lib.hid hp
    have HNS : Hid (¬ Starts l k → c = 50) := Lib.hid (fun h => HNO.out (fun hg => h ((HG.out.1 hg).starts hlt)))
    obtain ⟨q, hq⟩ : ∃ q, (⟨kd, od, ch⟩ : Pg).ok = q := ⟨_, rfl⟩
    have HQ := Lib.hid hq
    clear hp hq
    go_wp2_with fail
    refine (cRHead kd od ch q HQ.out _).mono ?_
    rintro e w1 ⟨rfl, hb1⟩
    have hH : w1.heap[wr.heap.size]? = some (.cells #[.int .i64 kd, .int .i64 od, .int .i64 ch] 51) := (hb1.block _ (by simp)).trans (heap_new _ _)
    have hB1 : Below w.heap.size w w1 := below_then (below_one hb _) hb1
    have HH := Lib.hid hH
    obtain ⟨g0, g1, g2⟩ := self3 hH
    clear x0 x1 x2 hH hb1
    cases q
    · have HC : Hid (c = 50) := Lib.hid (HNS.out (fun h => by have := h.head; rw [HP.out, HQ.out] at this; cases this))
      go_wp2
      go_ret
      exact ⟨by rw [HC.out]; rfl, hB1⟩
    have ho := (Pg.ok_iff.1 HQ.out).1
    dsimp only at ho
    obtain ⟨ho0, ho1⟩ := ho
    obtain ⟨S, hS⟩ : ∃ S : Nat, (2 : Int) ^ od.toNat = (S : Int) := ⟨2 ^ od.toNat, by simp⟩
    have hsz := sz_of HP.out hS
    have hSS : 1 ≤ S ∧ S ≤ 1024 := by
      rw [← hsz]
      exact ⟨Pg.sz_pos _, Pg.sz_le (by rw [HP.out]; exact HQ.out)⟩
    have HSZ := Lib.hid hsz
    clear hsz
    obtain ⟨r, hr⟩ : ∃ r : Nat, k % S = r := ⟨_, rfl⟩
    have hri : (k : Int) % (S : Int) = (r : Int) := by omega
    have HR := Lib.hid hr
    clear hr
    by_cases hr0 : r = 0
    rotate_left
    · have HC : Hid (c = 50) := Lib.hid (HNS.out (fun h => by have := h.mult; rw [HSZ.out, HR.out] at this; exact hr0 this))
      go_wp2
      go_ret
      exact ⟨by rw [HC.out]; rfl, hB1⟩
    subst hr0
    by_cases hfit : k + S ≤ l.length
    rotate_left
    · have HC : Hid (c = 50) := Lib.hid (HNS.out (fun h => by have := h.fits; rw [HSZ.out] at this; exact hfit this))
      go_wp2
      go_ret
      exact ⟨by rw [HC.out]; rfl, hB1⟩
    go_wp2
    go_loopw [5] (fun x wr' => ∃ m : Nat, 1 ≤ m ∧ m ≤ S ∧ x = .int .i64 ((k + m : Nat) : Int) ∧ Hid (Ins l k m) ∧ wr' = w1) (fun x _ => k + S - (intOf x).toNat)
    case atStart => exact ⟨1, by omega, by omega, by go_num, Lib.hid (Ins.zero l k), rfl⟩
    case round =>
      obtain ⟨m, hm1, hm, rfl, HI, rfl⟩ := hrel
      by_cases hmS : m < S
      · obtain ⟨b', o', e', x0, x1, x2⟩ := HAT.out (k + m) (by omega)
        cases e'
        replace x0 := cell_keep hB1 x0
        replace x1 := cell_keep hB1 x1
        replace x2 := cell_keep hB1 x2
        have HY : Hid (pg l (k + m) = pin → Ins l k (m + 1)) := Lib.hid (fun h => HI.out.more h)
        have HN : Hid (pg l (k + m) ≠ pin → c = 50) := Lib.hid (fun h => HNS.out (fun hs => h (hs.ins _ (by omega) (by rw [HSZ.out]; omega))))
        generalize pg l (k + m) = p at x0 x1 x2 HY HN
        have hgd := guardP
        by_cases hp : p = pin
        · have heq : ∀ w', (Op.equalIn 10000 51 (.agg #[.int .i64 p.kind, .int .i64 p.order, .int .i64 p.cache]) (.agg #[.int .i64 1, .int .i64 0, .int .i64 0])).run Try.prog w' = .ok true w' := fun w' => eqinIs (d := pin) (decide_eq_true hp)
          have HY1 := Lib.hid (HY.out hp)
          clear HY HN hp
          go_wp2
          go_roundw
          case rel => exact ⟨m + 1, by omega, by omega, by go_num, HY1, by first | trivial | rfl⟩
          case measure => simp [intOf]; omega
        · have heq : ∀ w', (Op.equalIn 10000 51 (.agg #[.int .i64 p.kind, .int .i64 p.order, .int .i64 p.cache]) (.agg #[.int .i64 1, .int .i64 0, .int .i64 0])).run Try.prog w' = .ok false w' := fun w' => eqinIs (d := pin) (decide_eq_false hp)
          have HN1 := Lib.hid (HN.out hp)
          clear HY HN hp
          go_wp2
          go_ret
          exact ⟨by rw [HN1.out]; rfl, hB1⟩
      · have hmS2 : m = S := by omega
        have HST : Hid (Good l 0 ↔ Good l (k + S)) := Lib.hid (HG.out.trans (by
          have hs : Starts l k := ⟨by rw [HP.out]; exact HQ.out, by rw [HSZ.out]; exact HR.out, by rw [HSZ.out]; exact hfit, by rw [HSZ.out, ← hmS2]; exact HI.out⟩
          have := Good.next hlt hs
          rwa [HSZ.out] at this))
        clear hmS2
        go_wp2
        go_roundw
        case rel => exact ⟨k + S, by omega, by go_num, HST, hB1⟩
        case measure => simp [intOf]; omega
end Go.Proofs.Ytpohfecbogppkaa
