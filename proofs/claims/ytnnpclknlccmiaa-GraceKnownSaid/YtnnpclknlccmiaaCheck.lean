/-
  Check, of the program and of the document's answer.
-/
import Derived.Test.YtnnpclknlccmiaaPure

set_option linter.unusedVariables false
set_option linter.unusedSimpArgs false
namespace Go.Proofs.Ytnnpclknlccmiaa
open Go Go.RowKit

/-- in which way a record does not fit -/
theorem fit_ways {m : Int} {x : Wt} (h : ¬ x.fit m) : x.who < 0 ∨ (0 ≤ x.who ∧ 9007199254740991 < x.who) ∨ (0 ≤ x.who ∧ x.who ≤ 9007199254740991 ∧ x.due < m) ∨ (0 ≤ x.who ∧ x.who ≤ 9007199254740991 ∧ m ≤ x.due ∧ 9007199254740991 < x.due) := by
  unfold Wt.fit at h
  omega
set_option maxHeartbeats 400000 in
set_option maxRecDepth 100000 in
theorem cCheck (u : Value) (l : List Wt) (c : Int) (hc : chkF l = c) (w : World) (hs : ShowW w u l) :
    Calls Try.prog 45 #[u] w fun e w' => e = .returned (.int .i64 c) ∧ Below w.heap.size w w' := by
  obtain ⟨ao, cap, rfl, hcap, hat⟩ := hs.form
  have HC := Lib.hid hc
  clear hs hc
  by_cases hlen : 256 < l.length
  · have HC5 : Hid (5 = c) := Lib.hid (by rw [← HC.out, chk_big hlen])
    have hli : (256 : Int) < (l.length : Int) := by omega
    go_enter Try.func45, Try.ntmps45
    go_wp2
    go_ret
    exact ⟨ret_int HC5.out, Below.refl _ _⟩
  have hli : ¬ (256 : Int) < (l.length : Int) := by omega
  go_enter Try.func45, Try.ntmps45
  go_wp2
  go_loopw [3, 11] (fun m i wr => ∃ (k : Nat) (M : Int), k ≤ l.length ∧ i = .int .i64 k ∧ m = .int .i64 M ∧ Hid (goB 1 l = goB M (l.drop k)) ∧ Below w.heap.size w wr) (fun _ i _ => l.length - (intOf i).toNat)
  case atStart => exact ⟨0, 1, by omega, rfl, rfl, Lib.hid (by rw [List.drop_zero]), Below.refl _ _⟩
  case round =>
    obtain ⟨k, M, hk, rfl, rfl, HG, hb⟩ := hrel
    by_cases hlt : k < l.length
    · obtain ⟨b1, o1, rfl, c1, c2⟩ := hat k hlt
      have d1 := cell_keep hb c1
      have d2 := cell_keep hb c2
      have hz := hb.size
      have HY : Hid ((wt l k).fit M → goB 1 l = goB (wt l k).due (l.drop (k + 1))) := Lib.hid (go_yes hlt HG.out)
      have HN : Hid (¬ (wt l k).fit M → 2 = c) := Lib.hid (fun h => by rw [← HC.out, chk_arg (by omega) (go_no hlt HG.out h)])
      generalize wt l k = x at d1 d2 HY HN
      obtain ⟨a, d⟩ := x
      dsimp only at d1 d2 HY
      clear c1 c2
      by_cases hf : (Wt.mk a d).fit M
      · have HY1 := Lib.hid (HY.out hf)
        obtain ⟨f1, f2, f3, f4⟩ := hf
        dsimp only at f1 f2 f3 f4
        have g1 : ¬ a < 0 := by omega
        have g2 : ¬ 9007199254740991 < a := by omega
        have g3 : ¬ d < M := by omega
        have g4 : ¬ 9007199254740991 < d := by omega
        clear HY HN f1 f2 f3 f4
        go_wp2
        go_roundw
        case rel => exact ⟨k + 1, d, by omega, by go_num, rfl, HY1, below_one hb _⟩
        case measure => simp [intOf]; omega
      · have HN1 := Lib.hid (HN.out hf)
        rcases fit_ways hf with f | ⟨f0, f⟩ | ⟨f0, f1, f⟩ | ⟨f0, f1, f2, f⟩
        · dsimp only at f
          clear HY HN hf
          go_wp2
          go_ret
          exact ⟨ret_int HN1.out, below_one hb _⟩
        · dsimp only at f0 f
          have g0 : ¬ a < 0 := by omega
          clear HY HN hf
          go_wp2
          go_ret
          exact ⟨ret_int HN1.out, below_one hb _⟩
        · dsimp only at f0 f1 f
          have g0 : ¬ a < 0 := by omega
          have g1 : ¬ 9007199254740991 < a := by omega
          clear HY HN hf
          go_wp2
          go_ret
          exact ⟨ret_int HN1.out, below_one hb _⟩
        · dsimp only at f0 f1 f2 f
          have g0 : ¬ a < 0 := by omega
          have g1 : ¬ 9007199254740991 < a := by omega
          have g2 : ¬ d < M := by omega
          clear HY HN hf
          go_wp2
          go_ret
          exact ⟨ret_int HN1.out, below_one hb _⟩
    · have hke : k = l.length := by omega
      subst hke
      have HC0 : Hid (0 = c) := Lib.hid (by rw [← HC.out, chk_ok (by omega) (go_all HG.out)])
      go_wp2
      go_ret
      exact ⟨ret_int HC0.out, hb⟩

/-- of the document's answer: which least one is asked -/
def leastOf (l : List Wt) (k : Nat) : Int := if k = 0 then 1 else (wt l (k - 1)).due
theorem rfit_ways {a d M : Int} (h : ¬ (Wt.mk a d).fit M) (hM : 1 ≤ M) : a < 0 ∨ (0 ≤ a ∧ 9007199254740991 < a) ∨ (0 ≤ a ∧ a ≤ 9007199254740991 ∧ d < 1) ∨ (0 ≤ a ∧ a ≤ 9007199254740991 ∧ 1 ≤ d ∧ 9007199254740991 < d) ∨ (0 ≤ a ∧ a ≤ 9007199254740991 ∧ 1 ≤ d ∧ d ≤ 9007199254740991 ∧ d < M) := by
  unfold Wt.fit at h
  dsimp only at h
  omega
set_option maxHeartbeats 400000 in
set_option maxRecDepth 100000 in
theorem rCheck (u : Value) (l : List Wt) (c : Int) (hc : chkF l = c) (w : World) (hs : ShowW w u l) :
    Calls Try.prog 54 #[u] w fun e w' => e = .returned (.int .i64 c) ∧ Below w.heap.size w w' := by
  obtain ⟨ao, cap, rfl, hcap, hat⟩ := hs.form
  have HC := Lib.hid hc
  clear hs hc
  by_cases hlen : 256 < l.length
  · have HC5 : Hid (5 = c) := Lib.hid (by rw [← HC.out, chk_big hlen])
    have hli : (256 : Int) < (l.length : Int) := by omega
    go_enter Try.func54, Try.ntmps54
    go_wp2
    go_ret
    exact ⟨ret_int HC5.out, Below.refl _ _⟩
  have hli : ¬ (256 : Int) < (l.length : Int) := by omega
  go_enter Try.func54, Try.ntmps54
  go_wp2
  go_loopw [3] (fun i wr => ∃ (k : Nat), k ≤ l.length ∧ i = .int .i64 k ∧ Hid (1 ≤ leastOf l k ∧ goB 1 l = goB (leastOf l k) (l.drop k)) ∧ Below w.heap.size w wr) (fun i _ => l.length - (intOf i).toNat)
  case atStart => exact ⟨0, by omega, rfl, Lib.hid ⟨Int.le_refl _, by rw [List.drop_zero]; rfl⟩, Below.refl _ _⟩
  case round =>
    obtain ⟨k, hk, rfl, HG, hb⟩ := hrel
    by_cases hlt : k < l.length
    · obtain ⟨b1, o1, rfl, c1, c2⟩ := hat k hlt
      have d1 := cell_keep hb c1
      have d2 := cell_keep hb c2
      have hz := hb.size
      have HY : Hid ((wt l k).fit (leastOf l k) → 1 ≤ leastOf l (k + 1) ∧ goB 1 l = goB (leastOf l (k + 1)) (l.drop (k + 1))) := Lib.hid (fun h => by
        have e : leastOf l (k + 1) = (wt l k).due := by simp [leastOf]
        rw [e]
        have := HG.out.1
        exact ⟨by have := h.2.2.1; omega, go_yes hlt HG.out.2 h⟩)
      have HN : Hid (¬ (wt l k).fit (leastOf l k) → 2 = c) := Lib.hid (fun h => by rw [← HC.out, chk_arg (by omega) (go_no hlt HG.out.2 h)])
      have HM : Hid (1 ≤ leastOf l k) := Lib.hid HG.out.1
      generalize wt l k = x at d1 d2 HY HN
      obtain ⟨a, d⟩ := x
      dsimp only at d1 d2
      clear c1 c2 HG
      by_cases hk0 : k = 0
      · have hM : leastOf l k = 1 := by simp [leastOf, hk0]
        rw [hM] at HY HN HM
        subst hk0
        rw [Nat.zero_mul, Nat.add_zero] at d1 d2
        clear hM
        by_cases hf : (Wt.mk a d).fit 1
        · have HY1 := Lib.hid (HY.out hf)
          obtain ⟨f1, f2, f3, f4⟩ := hf
          dsimp only at f1 f2 f3 f4
          have g1 : decide (a < 0) = false := decide_eq_false (by omega)
          have g2 : decide (9007199254740991 < a) = false := decide_eq_false (by omega)
          have g3 : decide (d < 1) = false := decide_eq_false (by omega)
          have g4 : decide (9007199254740991 < d) = false := decide_eq_false (by omega)
          clear HY HN f1 f2 f3 f4
          go_wp2
          go_quiet (fail)
          go_wp2
          go_roundw
          case rel => exact ⟨0 + 1, by omega, by go_num, HY1, below_drewN (below_one hb _) _⟩
          case measure => simp [intOf]; omega
        · have HN1 := Lib.hid (HN.out hf)
          rcases rfit_ways hf (Int.le_refl _) with f | ⟨f0, f⟩ | ⟨f0, f1, f⟩ | ⟨f0, f1, f2, f⟩ | ⟨f0, f1, f2, f3, f⟩
          · clear HY HN hf
            go_wp2
            go_quiet (fail)
            go_wp2
            go_ret
            exact ⟨ret_int HN1.out, below_drewN (below_one hb _) _⟩
          · have g0 : decide (a < 0) = false := decide_eq_false (by omega)
            clear HY HN hf
            go_wp2
            go_quiet (fail)
            go_wp2
            go_ret
            exact ⟨ret_int HN1.out, below_drewN (below_one hb _) _⟩
          · have g0 : decide (a < 0) = false := decide_eq_false (by omega)
            have g1 : decide (9007199254740991 < a) = false := decide_eq_false (by omega)
            clear HY HN hf
            go_wp2
            go_quiet (fail)
            go_wp2
            go_ret
            exact ⟨ret_int HN1.out, below_drewN (below_one hb _) _⟩
          · have g0 : decide (a < 0) = false := decide_eq_false (by omega)
            have g1 : decide (9007199254740991 < a) = false := decide_eq_false (by omega)
            have g2 : decide (d < 1) = false := decide_eq_false (by omega)
            clear HY HN hf
            go_wp2
            go_quiet (fail)
            go_wp2
            go_ret
            exact ⟨ret_int HN1.out, below_drewN (below_one hb _) _⟩
          · omega
      · obtain ⟨p, rfl⟩ : ∃ p, k = p + 1 := ⟨k - 1, by omega⟩
        obtain ⟨b2, o2, e2, _, c4⟩ := hat p (by omega)
        cases e2
        have d4 := cell_keep hb c4
        have hM : leastOf l (p + 1) = (wt l p).due := by simp [leastOf]
        rw [hM] at HY HN HM
        have hM1 := HM.out
        generalize (wt l p).due = M at d4 HY HN hM1
        clear hM c4 hk0 HM
        have hb1 : b1 < wr.heap.size := World.block_lt_of_cell? wr _ d4
        have hp0 : (0 : Int) < (p : Int) + 1 := by omega
        have hpw : IntKind.i64.wrap (p : Int) = (p : Int) := IntWalk.i64_in _ (by omega)
        have hpl : (p : Int) < (l.length : Int) := by omega
        by_cases hf : (Wt.mk a d).fit M
        · have HY1 := Lib.hid (HY.out hf)
          obtain ⟨f1, f2, f3, f4⟩ := hf
          dsimp only at f1 f2 f3 f4
          have g1 : decide (a < 0) = false := decide_eq_false (by omega)
          have g2 : decide (9007199254740991 < a) = false := decide_eq_false (by omega)
          have g3 : decide (d < 1) = false := decide_eq_false (by omega)
          have g4 : decide (9007199254740991 < d) = false := decide_eq_false (by omega)
          have g5 : decide (d < M) = false := decide_eq_false (by omega)
          clear HY HN f1 f2 f3 f4
          go_wp2
          go_quiet (fail)
          go_wp2
          go_roundw
          case rel => exact ⟨p + 1 + 1, by omega, by go_num, HY1, below_drewN (below_one hb _) _⟩
          case measure => simp [intOf]; omega
        · have HN1 := Lib.hid (HN.out hf)
          rcases rfit_ways hf hM1 with f | ⟨f0, f⟩ | ⟨f0, f1, f⟩ | ⟨f0, f1, f2, f⟩ | ⟨f0, f1, f2, f3, f⟩
          · clear HY HN hf
            go_wp2
            go_quiet (fail)
            go_wp2
            go_ret
            exact ⟨ret_int HN1.out, below_drewN (below_one hb _) _⟩
          · have g0 : decide (a < 0) = false := decide_eq_false (by omega)
            clear HY HN hf
            go_wp2
            go_quiet (fail)
            go_wp2
            go_ret
            exact ⟨ret_int HN1.out, below_drewN (below_one hb _) _⟩
          · have g0 : decide (a < 0) = false := decide_eq_false (by omega)
            have g1 : decide (9007199254740991 < a) = false := decide_eq_false (by omega)
            clear HY HN hf
            go_wp2
            go_quiet (fail)
            go_wp2
            go_ret
            exact ⟨ret_int HN1.out, below_drewN (below_one hb _) _⟩
          · have g0 : decide (a < 0) = false := decide_eq_false (by omega)
            have g1 : decide (9007199254740991 < a) = false := decide_eq_false (by omega)
            have g2 : decide (d < 1) = false := decide_eq_false (by omega)
            clear HY HN hf
            go_wp2
            go_quiet (fail)
            go_wp2
            go_ret
            exact ⟨ret_int HN1.out, below_drewN (below_one hb _) _⟩
          · have g0 : decide (a < 0) = false := decide_eq_false (by omega)
            have g1 : decide (9007199254740991 < a) = false := decide_eq_false (by omega)
            have g2 : decide (d < 1) = false := decide_eq_false (by omega)
            have g3 : decide (9007199254740991 < d) = false := decide_eq_false (by omega)
            clear HY HN hf
            go_wp2
            go_quiet (fail)
            go_wp2
            go_ret
            exact ⟨ret_int HN1.out, below_drewN (below_one hb _) _⟩
    · have hke : k = l.length := by omega
      subst hke
      have HC0 : Hid (0 = c) := Lib.hid (by rw [← HC.out, chk_ok (by omega) (go_all HG.out.2)])
      go_wp2
      go_ret
      exact ⟨ret_int HC0.out, hb⟩
end Go.Proofs.Ytnnpclknlccmiaa
