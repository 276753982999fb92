/-
  New, Whole of the program's buddies.
-/
import Derived.Test.YtlljomnpdgmifaaInit

set_option linter.unusedVariables false
set_option linter.unusedSimpArgs false
namespace Go.Proofs.Ytlljomnpdgmifaa
open Go Go.RowKit

set_option maxHeartbeats 2000000 in
set_option maxRecDepth 100000 in
theorem cEqual (u v : Value) (a b : List Pg) (w : World) (hu : ShowP w u a) (hv : ShowP w v b) :
    Calls Try.prog 70 #[u, v] w fun e w' => e = .returned (.bool (decide (a = b))) ∧ Below w.heap.size w w' := by
  obtain ⟨ao, cap, rfl, hcap, hat⟩ := hu.form
  obtain ⟨bo, cbp, rfl, hcbp, hbt⟩ := hv.form
  clear hu hv
  by_cases hl : a.length = b.length
  · have hl1 : a.length ≤ b.length := by omega
    have hl2 : b.length ≤ a.length := by omega
    have HLE := Lib.hid hl
    have hne : ((a.length : Int) != (b.length : Int)) = false := by simp [hl]
    clear hl
    go_enter Try.func70, Try.ntmps70
    go_wp2
    go_loopw [13] (fun i wr => ∃ k : Nat, k ≤ a.length ∧ i = .int .i64 k ∧ a.take k = b.take k ∧ Below w.heap.size w wr) (fun i _ => a.length - (intOf i).toNat)
    case atStart => exact ⟨0, by omega, rfl, rfl, Below.refl _ _⟩
    case round =>
      obtain ⟨k, hk, rfl, htk, hb⟩ := hrel
      have HT := Lib.hid htk
      clear htk
      by_cases hlt : k < a.length
      · have hlb : k < b.length := by omega
        obtain ⟨b1, o1, rfl, c1, c2, c3⟩ := hat k hlt
        obtain ⟨b2, o2, rfl, e1, e2, e3⟩ := hbt k hlb
        rw [← pg_at a k hlt] at c1 c2 c3
        rw [← pg_at b k hlb] at e1 e2 e3
        replace c1 := cell_keep hb c1
        replace c2 := cell_keep hb c2
        replace c3 := cell_keep hb c3
        replace e1 := cell_keep hb e1
        replace e2 := cell_keep hb e2
        replace e3 := cell_keep hb e3
        have HS : Hid (a[k] = b[k] → a.take (k + 1) = b.take (k + 1)) := Lib.hid (take_eq_succ a b k hlt hlb HT.out)
        have HN : Hid (a[k] ≠ b[k] → a ≠ b) := Lib.hid (ne_of_at a b k hlt hlb)
        generalize a[k] = x at c1 c2 c3 HS HN
        generalize b[k] = y at e1 e2 e3 HS HN
        by_cases hxy : x = y
        · have heq : ∀ w', (Op.equalIn 10000 99 (.agg #[.int .i64 x.kind, .int .i64 x.order, .int .i64 x.cache]) (.agg #[.int .i64 y.kind, .int .i64 y.order, .int .i64 y.cache])).run Try.prog w' = .ok true w' := fun w' => eqinIs (decide_eq_true hxy)
          have hgd := guardP
          have HS1 := Lib.hid (HS.out hxy)
          clear HS HN hxy
          go_wp2
          go_quiet (fail)
          go_wp2
          go_roundw
          case rel => exact ⟨k + 1, by omega, by go_num, HS1.out, below_drewN hb _⟩
          case measure => simp [intOf]; omega
        · have heq : ∀ w', (Op.equalIn 10000 99 (.agg #[.int .i64 x.kind, .int .i64 x.order, .int .i64 x.cache]) (.agg #[.int .i64 y.kind, .int .i64 y.order, .int .i64 y.cache])).run Try.prog w' = .ok false w' := fun w' => eqinIs (decide_eq_false hxy)
          have hgd := guardP
          have HN1 := Lib.hid (HN.out hxy)
          clear HS HN hxy
          go_wp2
          go_quiet (fail)
          go_wp2
          go_ret
          exact ⟨ret_bool (by rw [decide_eq_false HN1.out]), below_drewN hb _⟩
      · have hke : k = a.length := by omega
        subst hke
        have HE : Hid (a = b) := Lib.hid (by have := HT.out; rwa [List.take_length, HLE.out, List.take_length] at this)
        go_wp2
        go_ret
        exact ⟨ret_bool (by rw [decide_eq_true HE.out]), hb⟩
  · have hne : ((a.length : Int) != (b.length : Int)) = true := by simp; omega
    have HN : Hid (a ≠ b) := Lib.hid (fun e => hl (by rw [e]))
    go_enter Try.func70, Try.ntmps70
    go_wp2
    go_ret
    exact ⟨ret_bool (by rw [decide_eq_false HN.out]), Below.refl _ _⟩

theorem key1 {W0 w : World} {p : Addr} {u : Value} (h : W0.cell? p = some u) (hb : Below W0.heap.size W0 w) : w.cell? p = some u ∧ Below W0.heap.size W0 w := ⟨cell_keep hb h, hb⟩
theorem shows_len {w : World} {g n : Nat} {l : List Pg} (ht : TabIs w g n (pg l)) (hl : l.length = n) (hn : n ≤ 1024) : ShowP w (.slice (some ⟨g, 0, none⟩) n n) l := by
  subst hl
  exact ht.shows (by unfold maxLen; omega)
section
variable {w : World} {B g cap : Nat} {l : List Pg}
set_option maxHeartbeats 1000000 in
theorem cWholeNil (w : World) : Calls Try.prog 44 #[.pointer none] w fun e w' => e = .returned (.bool false) ∧ Below w.heap.size w w' := by
  go_enter Try.func44, Try.ntmps44
  go_wp2
  go_quiet ((go_at_call 61; exact Calls.quiet_of_same (cIsNoneNil _)))
  go_wp2
  go_ret
  exact ⟨rfl, below_drewN (Below.refl _ _) _⟩
set_option maxHeartbeats 1000000 in
theorem cWholeZero (B : Nat) (w : World) (hc : w.cell? ⟨B, 0, none⟩ = some (.slice none 0 0)) : Calls Try.prog 44 #[.pointer (some ⟨B, 0, none⟩)] w fun e w' => e = .returned (.bool false) ∧ Below w.heap.size w w' := by
  have HC := Lib.hid hc
  clear hc
  go_enter Try.func44, Try.ntmps44
  go_wp2
  go_quiet ((go_at_call 61; exact Calls.quiet_of_same (cIsNoneZero B _ HC.out)))
  go_wp2
  go_ret
  exact ⟨rfl, below_drewN (Below.refl _ _) _⟩
set_option maxHeartbeats 4000000 in
set_option maxRecDepth 100000 in
theorem cWhole (h : BudAt w 92 B g cap l) (q : Bool) (hq : decide (l = ini l.length) = q) :
    Calls Try.prog 44 #[.pointer (some ⟨B, 0, none⟩)] w fun e w' => e = .returned (.bool q) ∧ Below w.heap.size w w' := by
  have HA := Lib.hid h
  have HQ := Lib.hid hq
  have hn1 := h.n1
  have hn2 := h.n2
  have HS := Lib.hid h.self
  have hil := ini_length l.length
  have HIL := Lib.hid hil
  clear h hq hil
  go_enter Try.func44, Try.ntmps44
  go_wp2
  go_region_held3 (fun W => W.cell? ⟨B, 0, none⟩ = some (.slice (some ⟨g, 0, none⟩) l.length cap) ∧ Below w.heap.size w W)
    (first | exact key1 HS.out (by assumption) | exact key1 HS.out (Below.drew (Below.refl _ _)))
    (first
      | (go_at_call 61; refine (cIsNone (HA.out.below (show _ ∧ Below w.heap.size w _ from by assumption).2)).mono ?_; rintro e w3 ⟨rfl, rfl⟩)
      | (go_at_call 47; refine (cInitial l.length hn1 hn2 _).mono ?_; rintro e w4 ⟨g4, rfl, hg4, ht4, h4⟩; have hb4 : Below w.heap.size w w4 := below_then (show _ ∧ Below w.heap.size w _ from by assumption).2 h4; have hs4 : ShowP w4 (.slice (some ⟨g4, 0, none⟩) l.length l.length) (ini l.length) := shows_len ht4 HIL.out hn2)
      | (go_at_call 70; refine (cEqual _ _ l (ini l.length) _ (HA.out.below (show _ ∧ Below w.heap.size w _ from by assumption).2).shows (by assumption)).mono ?_; rintro e w5 ⟨rfl, h5⟩; have hb5 : Below w.heap.size w w5 := below_then (show _ ∧ Below w.heap.size w _ from by assumption).2 h5))
  all_goals go_wp2
  all_goals go_ret
  all_goals exact ⟨ret_bool HQ.out, (show _ ∧ Below w.heap.size w _ from by assumption).2⟩
end
set_option maxHeartbeats 1000000 in
theorem cNewBad (n : Int) (hn : n < 1 ∨ 1024 < n) (w : World) : Calls Try.prog 23 #[.int .i64 n] w fun e w' => e = .returned (.tuple #[.pointer none, .int .i64 2]) ∧ w' = w := by
  rcases hn with h | h
  · go_enter Try.func23, Try.ntmps23
    go_wp2
    go_ret2
    exact ⟨rfl, rfl⟩
  · go_enter Try.func23, Try.ntmps23
    go_wp2
    go_ret2
    exact ⟨rfl, rfl⟩
theorem bud_new {w : World} {T : TypeId} {g n : Nat} (ht : TabIs w g n (pg (ini n))) (h1 : 1 ≤ n) (h2 : n ≤ 1024) : BudAt (w.alloc (.cells #[.slice (some ⟨g, 0, none⟩) n n] T)) T w.heap.size g n (ini n) := by
  have hl := ini_length n
  refine ⟨by rw [hl]; exact heap_new _ _, by rw [hl]; exact ht.below (below_one (Below.refl _ _) _), by rw [hl]; unfold maxLen; omega, fun e => ?_, by rw [hl]; exact h1, by rw [hl]; exact h2⟩
  have := ht.lt
  omega
set_option maxHeartbeats 1000000 in
theorem cNew (n : Nat) (h1 : 1 ≤ n) (h2 : n ≤ 1024) (w : World) : Calls Try.prog 23 #[.int .i64 n] w fun e w' => ∃ B g, e = .returned (.tuple #[.pointer (some ⟨B, 0, none⟩), .int .i64 0]) ∧ BudAt w' 92 B g n (ini n) ∧ (w.heap.size ≤ B ∧ w.heap.size ≤ g) ∧ Below w.heap.size w w' := by
  go_enter Try.func23, Try.ntmps23
  go_wp2_with fail
  refine (cInitial n h1 h2 _).mono ?_
  rintro e w1 ⟨g, rfl, hg, ht, hb⟩
  have HB := Lib.hid (bud_new (T := 92) ht h1 h2)
  have HBe := Lib.hid (below_one hb (.cells #[.slice (some ⟨g, 0, none⟩) n n] 92))
  have hsz := hb.size
  clear ht hb
  go_wp2
  go_ret2
  exact ⟨_, g, rfl, HB.out, ⟨hsz, hg⟩, HBe.out⟩
end Go.Proofs.Ytlljomnpdgmifaa
