/-
  Check, of the program.
-/
import Derived.Test.YtimaigeicidngaaPure
set_option linter.unusedVariables false
set_option linter.unusedSimpArgs false
namespace Go.Proofs.Ytimaigeicidngaa
open Go Go.RowKit

/-- in which way a record does not fit -/
theorem fit_ways {m : Int} {x : Wt} (h : ¬ x.fit m) : x.who < 0 ∨ (0 ≤ x.who ∧ 9007199254740991 < x.who) ∨ (0 ≤ x.who ∧ x.who ≤ 9007199254740991 ∧ x.due < m) ∨ (0 ≤ x.who ∧ x.who ≤ 9007199254740991 ∧ m ≤ x.due ∧ 9007199254740991 < x.due) := by
  unfold Wt.fit at h
  omega
set_option maxHeartbeats 400000 in
set_option maxRecDepth 100000 in
theorem cCheck (u : Value) (l : List Wt) (c : Int) (hc : chkF l = c) (w : World) (hs : ShowW w u l) :
    Calls Try.prog 12 #[u] w fun e w' => e = .returned (.int .i64 c) ∧ Below w.heap.size w w' := by
  obtain ⟨ao, cap, rfl, hcap, hat⟩ := hs.form
  have HC := Lib.hid hc
  clear hs hc
  by_cases hlen : 256 < l.length
  · have HC5 : Hid (5 = c) := Lib.hid (by rw [← HC.out, chk_big hlen])
    have hli : (256 : Int) < (l.length : Int) := by omega
    go_enter Try.func12, Try.ntmps12
    go_wp2
    go_ret
    exact ⟨ret_int HC5.out, Below.refl _ _⟩
  have hli : ¬ (256 : Int) < (l.length : Int) := by omega
  go_enter Try.func12, Try.ntmps12
  go_wp2
  go_loopw [3, 11] (fun m i wr => ∃ (k : Nat) (M : Int), k ≤ l.length ∧ i = .int .i64 k ∧ m = .int .i64 M ∧ Hid (goB 1 l = goB M (l.drop k)) ∧ Below w.heap.size w wr) (fun _ i _ => l.length - (intOf i).toNat)
  case atStart => exact ⟨0, 1, by omega, rfl, rfl, Lib.hid (by rw [List.drop_zero]), Below.refl _ _⟩
  case round =>
    obtain ⟨k, M, hk, rfl, rfl, HG, hb⟩ := hrel
    by_cases hlt : k < l.length
    · obtain ⟨b1, o1, rfl, c1, c2⟩ := hat k hlt
      have d1 := cell_keep hb c1
      have d2 := cell_keep hb c2
      have hz := hb.size
      have HY : Hid ((wt l k).fit M → goB 1 l = goB (wt l k).due (l.drop (k + 1))) := Lib.hid (go_yes hlt HG.out)
      have HN : Hid (¬ (wt l k).fit M → 2 = c) := Lib.hid (fun h => by rw [← HC.out, chk_arg (by omega) (go_no hlt HG.out h)])
      generalize wt l k = x at d1 d2 HY HN
      obtain ⟨a, d⟩ := x
      dsimp only at d1 d2 HY
      clear c1 c2
      by_cases hf : (Wt.mk a d).fit M
      · have HY1 := Lib.hid (HY.out hf)
        obtain ⟨f1, f2, f3, f4⟩ := hf
        dsimp only at f1 f2 f3 f4
        have g1 : ¬ a < 0 := by omega
        have g2 : ¬ 9007199254740991 < a := by omega
        have g3 : ¬ d < M := by omega
        have g4 : ¬ 9007199254740991 < d := by omega
        clear HY HN f1 f2 f3 f4
        go_wp2
        go_roundw
        case rel => exact ⟨k + 1, d, by omega, by go_num, rfl, HY1, below_one hb _⟩
        case measure => simp [intOf]; omega
      · have HN1 := Lib.hid (HN.out hf)
        rcases fit_ways hf with f | ⟨f0, f⟩ | ⟨f0, f1, f⟩ | ⟨f0, f1, f2, f⟩
        · dsimp only at f
          clear HY HN hf
          go_wp2
          go_ret
          exact ⟨ret_int HN1.out, below_one hb _⟩
        · dsimp only at f0 f
          have g0 : ¬ a < 0 := by omega
          clear HY HN hf
          go_wp2
          go_ret
          exact ⟨ret_int HN1.out, below_one hb _⟩
        · dsimp only at f0 f1 f
          have g0 : ¬ a < 0 := by omega
          have g1 : ¬ 9007199254740991 < a := by omega
          clear HY HN hf
          go_wp2
          go_ret
          exact ⟨ret_int HN1.out, below_one hb _⟩
        · dsimp only at f0 f1 f2 f
          have g0 : ¬ a < 0 := by omega
          have g1 : ¬ 9007199254740991 < a := by omega
          have g2 : ¬ d < M := by omega
          clear HY HN hf
          go_wp2
          go_ret
          exact ⟨ret_int HN1.out, below_one hb _⟩
    · have hke : k = l.length := by omega
      subst hke
      have HC0 : Hid (0 = c) := Lib.hid (by rw [← HC.out, chk_ok (by omega) (go_all HG.out)])
      go_wp2
      go_ret
      exact ⟨ret_int HC0.out, hb⟩
end Go.Proofs.Ytimaigeicidngaa
