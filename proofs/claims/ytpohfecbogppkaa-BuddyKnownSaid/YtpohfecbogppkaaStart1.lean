/-
  starting: its contract.
-/
import Derived.Test.YtpohfecbogppkaaStart
set_option linter.unusedVariables false
set_option linter.unusedSimpArgs false
namespace Go.Proofs.Ytpohfecbogppkaa
open Go Go.RowKit

set_option maxHeartbeats 4000000 in
set_option maxRecDepth 100000 in
theorem cStarting (u : Value) (l : List Pg) (a : Nat) (hl : l.length ≤ 1024) (ha : a < l.length) (w : World) (hs : ShowP w u l) :
    Calls Try.prog 48 #[u, .int .i64 a] w fun e w' => ((Starts l a ∧ e = .returned (.tuple #[blkV l a, .bool true])) ∨ (¬ Starts l a ∧ e = .returned (.tuple #[blk0, .bool false]))) ∧ Below w.heap.size w w' := by
  obtain ⟨ao, cap, rfl, hcap, hat⟩ := hs.form
  obtain ⟨b, o, rfl, c0, c1, c2⟩ := hat a ha
  obtain ⟨p, hp⟩ : ∃ p, pg l a = p := ⟨_, rfl⟩
  rw [hp] at c0 c1 c2
  obtain ⟨kd, od, ch⟩ := p
  dsimp only at c0 c1 c2
  have HAT := Lib.hid hat
  have HP := Lib.hid hp
  have HSH := Lib.hid hs
  clear hat hp hs
  obtain ⟨q, hq⟩ : ∃ q, (⟨kd, od, ch⟩ : Pg).ok = q := ⟨_, rfl⟩
  have HQ := Lib.hid hq
  clear hq
  have hW0 := heap_low2 w (.cells #[.int .i64 0, .int .i64 0, .int .i64 0, .int .i64 0, .int .i64 0] 70) (.cells #[.int .i64 kd, .int .i64 od, .int .i64 ch] 51)
  have hW1 := heap_new2 w (.cells #[.int .i64 0, .int .i64 0, .int .i64 0, .int .i64 0, .int .i64 0] 70) (.cells #[.int .i64 kd, .int .i64 od, .int .i64 ch] 51)
  have hB0 : Below w.heap.size w ((w.alloc (.cells #[.int .i64 0, .int .i64 0, .int .i64 0, .int .i64 0, .int .i64 0] 70)).alloc (.cells #[.int .i64 kd, .int .i64 od, .int .i64 ch] 51)) := below_one (below_one (Below.refl _ _) _) _
  have hz0 : ((w.alloc (.cells #[.int .i64 0, .int .i64 0, .int .i64 0, .int .i64 0, .int .i64 0] 70)).alloc (.cells #[.int .i64 kd, .int .i64 od, .int .i64 ch] 51)).heap.size = w.heap.size + 1 + 1 := by rw [size_alloc, size_alloc]
  have HW0 := Lib.hid hW0
  have HW1 := Lib.hid hW1
  have HB0 := Lib.hid hB0
  have HZ0 := Lib.hid hz0
  have hb1 : Below w.heap.size w (w.alloc (.cells #[.int .i64 0, .int .i64 0, .int .i64 0, .int .i64 0, .int .i64 0] 70)) := below_one (Below.refl _ _) _
  have d0 := cell_keep hb1 c0
  have d1 := cell_keep hb1 c1
  have d2 := cell_keep hb1 c2
  clear hW0 hW1 hB0 hz0 hb1 c0 c1 c2
  go_enter Try.func48, Try.ntmps48
  go_wp2_with fail
  refine (cIsHead kd od ch q HQ.out _).mono ?_
  rintro e w1 ⟨rfl, hb1⟩
  have hB1 : Below w.heap.size w w1 := below_then HB0.out hb1
  have hR : w1.heap[w.heap.size]? = some (.cells #[.int .i64 0, .int .i64 0, .int .i64 0, .int .i64 0, .int .i64 0] 70) := (hb1.block _ (lt_of_block HW0.out)).trans HW0.out
  have hH : w1.heap[w.heap.size + 1]? = some (.cells #[.int .i64 kd, .int .i64 od, .int .i64 ch] 51) := (hb1.block _ (lt_of_block HW1.out)).trans HW1.out
  have HR := Lib.hid hR
  have HH := Lib.hid hH
  have hs1 : ShowP w1 (.slice (some ⟨b, o, none⟩) l.length cap) l := HSH.out.below hB1
  have HS1 := Lib.hid hs1
  have HB1 := Lib.hid hB1
  obtain ⟨r0, r1, r2, r3, r4⟩ := self5 hR
  have f0 := self_free hR 0
  have f1 := self_free hR 1
  have f2 := self_free hR 2
  have f3 := self_free hR 3
  have f4 := self_free hR 4
  obtain ⟨g0, g1, g2⟩ := self3 hH
  have hlt := lt_of_block hH
  clear hb1 hR hH hs1 hB1 d0 d1 d2
  cases q
  · have HN : Hid (¬ Starts l a) := Lib.hid (fun h => by have := h.head; rw [HP.out, HQ.out] at this; cases this)
    go_wp2
    refine bodyPost_ret (res_start _ _ w.heap.size 0 0 0 0 0 false rfl rfl ?_) rfl ⟨.inr ⟨HN.out, rfl⟩, below_sets HB1.out⟩
    exact sets_block HR.out
  have ho := (Pg.ok_iff.1 HQ.out).1
  dsimp only at ho
  obtain ⟨ho0, ho1⟩ := ho
  obtain ⟨S, hS⟩ : ∃ S : Nat, (2 : Int) ^ od.toNat = (S : Int) := ⟨2 ^ od.toNat, by simp⟩
  have hsz := sz_of HP.out hS
  have hSS : 1 ≤ S ∧ S ≤ 1024 := by
    rw [← hsz]
    exact ⟨Pg.sz_pos _, Pg.sz_le (by rw [HP.out]; exact HQ.out)⟩
  have HSZ := Lib.hid hsz
  have HSZ' : Hid ((⟨kd, od, ch⟩ : Pg).sz = S) := Lib.hid (by rw [← HP.out]; exact hsz)
  have HS := Lib.hid hS
  obtain ⟨q2, hq2⟩ : ∃ q2, decide (0 ≤ (a : Int) ∧ (a : Int) + S ≤ l.length ∧ (a : Int).toNat % S = 0) = q2 := ⟨_, rfl⟩
  have HQ2 := Lib.hid hq2
  clear hsz hS hq2
  go_wp2_with fail
  refine (cFits l.length a od S q2 ho0 ho1 HS.out hSS hl HQ2.out _).mono ?_
  rintro e w' ⟨rfl, rfl⟩
  cases q2
  · have HN : Hid (¬ Starts l a) := Lib.hid (fun h => by
      refine of_decide_eq_false HQ2.out ⟨by omega, ?_, ?_⟩
      · have := h.fits; rw [HSZ.out] at this; omega
      · have := h.mult; rw [HSZ.out] at this; simpa using this)
    go_wp2
    refine bodyPost_ret (res_start _ _ w.heap.size 0 0 0 0 0 false rfl rfl ?_) rfl ⟨.inr ⟨HN.out, rfl⟩, below_sets HB1.out⟩
    exact sets_block HR.out
  obtain ⟨_, hfit, hmult⟩ := of_decide_eq_true HQ2.out
  rw [Int.toNat_natCast] at hmult
  have HMU := Lib.hid hmult
  have hfit2 : a + S ≤ l.length := by omega
  clear hmult hfit
  go_wp2_with (go_at_call 54; refine (cPages od S ho0 ho1 HS.out hSS.2 _).mono ?_; rintro e w' ⟨rfl, rfl⟩)
  all_goals
    obtain ⟨M, hM⟩ : ∃ M, a + S - (a + 1) = M := ⟨_, rfl⟩
    rw [hM]
    have HM : Hid (M + 1 = S) := Lib.hid (by omega)
    have hM2 : M ≤ 1024 := by omega
    clear hM
    go_loopw [38] (fun i wr => ∃ k : Nat, k ≤ M ∧ i = .int .i64 k ∧ Hid (Ins l a (k + 1)) ∧ Below w'.heap.size w' wr) (fun i _ => M - (intOf i).toNat)
    case atStart => exact ⟨0, by omega, rfl, Lib.hid (Ins.zero l a), Below.refl _ _⟩
    case round =>
      obtain ⟨k, hk, rfl, HI, hb⟩ := hrel
      have HRw := Lib.hid ((hb.block _ (lt_of_block HR.out)).trans HR.out)
      have HHw := Lib.hid ((hb.block _ (lt_of_block HH.out)).trans HH.out)
      obtain ⟨r0, r1, r2, r3, r4⟩ := self5 HRw.out
      have f0 := self_free HRw.out 0
      have f1 := self_free HRw.out 1
      have f2 := self_free HRw.out 2
      have f3 := self_free HRw.out 3
      have f4 := self_free HRw.out 4
      obtain ⟨g0, g1, g2⟩ := self3 HHw.out
      have hlt2 := lt_of_block HHw.out
      have HBw := Lib.hid (below_then HB1.out hb)
      by_cases hkM : k < M
      · try (exfalso; have := HM.out; omega)
        all_goals
          obtain ⟨b', o', e', x0, x1, x2⟩ := HAT.out (a + (k + 1)) (by have := HM.out; omega)
          have hbw := HBw.out
          replace x0 := cell_keep hbw x0
          replace x1 := cell_keep hbw x1
          replace x2 := cell_keep hbw x2
          cases e'
          have ea : o + (a + (k + 1)) * 3 = o + (a + 1) * 3 + k * 3 := by omega
          rw [ea] at x0 x1 x2
          have HY : Hid (pg l (a + (k + 1)) = pin → Ins l a (k + 1 + 1)) := Lib.hid (fun h => HI.out.more h)
          have HN : Hid (pg l (a + (k + 1)) ≠ pin → ¬ Starts l a) := Lib.hid (fun h hs => h (hs.ins _ (by omega) (by rw [HSZ.out]; have := HM.out; omega)))
          generalize pg l (a + (k + 1)) = p at x0 x1 x2 HY HN
          have hgd := guardP
          by_cases hp : p = pin
          · have heq : ∀ w', (Op.equalIn 10000 51 (.agg #[.int .i64 p.kind, .int .i64 p.order, .int .i64 p.cache]) (.agg #[.int .i64 1, .int .i64 0, .int .i64 0])).run Try.prog w' = .ok true w' := fun w' => eqinIs (d := pin) (decide_eq_true hp)
            have HY1 := Lib.hid (HY.out hp)
            clear HY HN hp ea hbw
            go_wp2
            go_roundw
            case rel => exact ⟨k + 1, by omega, by go_num, HY1, below_one hb _⟩
            case measure => simp [intOf]; omega
          · have heq : ∀ w', (Op.equalIn 10000 51 (.agg #[.int .i64 p.kind, .int .i64 p.order, .int .i64 p.cache]) (.agg #[.int .i64 1, .int .i64 0, .int .i64 0])).run Try.prog w' = .ok false w' := fun w' => eqinIs (d := pin) (decide_eq_false hp)
            have HN1 := Lib.hid (HN.out hp)
            clear HY HN hp ea hbw
            clear r0 r1 r2 r3 r4 f0 f1 f2 f3 f4
            have HRa := ((below_one (Below.refl _ wr) (.cells #[.int .i64 p.kind, .int .i64 p.order, .int .i64 p.cache] 51)).block _ (lt_of_block HRw.out)).trans HRw.out
            obtain ⟨r0, r1, r2, r3, r4⟩ := self5 HRa
            have f0 := self_free HRa 0
            have f1 := self_free HRa 1
            have f2 := self_free HRa 2
            have f3 := self_free HRa 3
            have f4 := self_free HRa 4
            have HRA := Lib.hid HRa
            have HBA := Lib.hid (below_one HBw.out (.cells #[.int .i64 p.kind, .int .i64 p.order, .int .i64 p.cache] 51))
            clear HRa
            go_wp2
            refine bodyPost_ret (res_start _ _ w.heap.size 0 0 0 0 0 false rfl rfl ?_) rfl ⟨.inr ⟨HN1.out, rfl⟩, below_sets HBA.out⟩
            exact sets_block HRA.out
      · obtain rfl : k = M := by omega
        have HST : Hid (Starts l a) := Lib.hid ⟨by rw [HP.out]; exact HQ.out, by rw [HSZ.out]; exact HMU.out, by rw [HSZ.out]; exact hfit2, by rw [HSZ.out, ← HM.out]; exact HI.out⟩
        go_wp2
        refine bodyPost_ret (res_start _ _ w.heap.size kd od ch a ((a : Int) + (S : Int)) true rfl rfl ?_) rfl ⟨.inl ⟨HST.out, ?_⟩, below_sets HBw.out⟩
        · exact sets_block HRw.out
        · unfold blkV
          rw [HP.out, HSZ'.out]
          simp
end Go.Proofs.Ytpohfecbogppkaa
