/-
  The program's small calls: pages, buddyOf, freeHead, isNone, isFree.
-/
import Derived.Test.YtpohfecbogppkaaBMem
import Derived.Laws.Bits64
import Derived.IntWalk
import Derived.Outline
set_option linter.unusedVariables false
set_option linter.unusedSimpArgs false
namespace Go.Proofs.Ytpohfecbogppkaa
open Go Go.RowKit

theorem pow_int (o S : Nat) (h : 2 ^ o = S) : (2 : Int) ^ o = (S : Int) := by rw [← h]; simp
set_option maxHeartbeats 1000000 in
theorem cBPages (o S : Nat) (ho : o ≤ 10) (hS : 2 ^ o = S) (w : World) :
    Calls Try.prog 45 #[.int .i64 o] w fun e w' => e = .returned (.int .i64 S) ∧ w' = w := by
  have hSi : (2 : Int) ^ o = (S : Int) := pow_int o S hS
  have hS1 : S ≤ 1024 := by rw [← hS]; exact (pow_le o ho).2
  clear hS
  go_enter Try.func45, Try.ntmps45
  go_wp2
  go_ret
  exact ⟨rfl, rfl⟩
theorem resFreeHead : Try.f30.results = #[.cell 2 51] := rfl
theorem res_freeHead (w : World) (tmps : Array Value) (K : Nat) (a b c : Int) (h2 : tmps[2]?.getD undef = .pointer (some ⟨K, 0, none⟩)) (h : w.heap[K]? = some (.cells #[.int .i64 a, .int .i64 b, .int .i64 c] 51 (0, 0))) :
    (results Try.f30 tmps).run Try.prog w = .ok (.agg #[.int .i64 a, .int .i64 b, .int .i64 c]) w := by
  obtain ⟨r0, r1, r2⟩ := self3 h
  simp [results, resFreeHead, go_sem, h2, r0, r1, r2]
theorem sets3_block {w : World} {K : Nat} {a b c a' b' c' : Value} {t : TypeId} (h : w.heap[K]? = some (.cells #[a, b, c] t (0, 0))) :
    (((w.setCell ⟨K, 0, none⟩ a').setCell ⟨K, 1, none⟩ b').setCell ⟨K, 2, none⟩ c').heap[K]? = some (.cells #[a', b', c'] t (0, 0)) := by
  have := cells_set (cells_set (cells_set h 0 a') 1 b') 2 c'
  simpa using this
set_option maxHeartbeats 1000000 in
theorem cFreeHead (o : Int) (w : World) :
    Calls Try.prog 30 #[.int .i64 o] w fun e w' => e = .returned (.agg #[.int .i64 0, .int .i64 o, .int .i64 0]) ∧ Below w.heap.size w w' := by
  go_enter Try.func30, Try.ntmps30
  go_wp2
  refine bodyPost_ret (res_freeHead _ _ w.heap.size 0 o 0 rfl ?_) rfl ⟨rfl, ?_⟩
  · exact heap_new _ _
  · exact below_one (Below.refl _ _) _
theorem xor_nat (a b : Nat) (ha : a < 4096) (hb : b < 4096) : Go.bits .xor .i64 (a : Int) (b : Int) = ((a ^^^ b : Nat) : Int) := by
  have hx : a ^^^ b < 2 ^ 12 := Nat.xor_lt_two_pow (by omega) (by omega)
  have h1 : (BitVec.ofInt 64 (a : Int)).toNat = a := by
    rw [BitVec.ofInt_natCast, BitVec.toNat_ofNat]; exact Nat.mod_eq_of_lt (by omega)
  have h2 : (BitVec.ofInt 64 (b : Int)).toNat = b := by
    rw [BitVec.ofInt_natCast, BitVec.toNat_ofNat]; exact Nat.mod_eq_of_lt (by omega)
  show IntKind.i64.wrap ((BitVec.ofInt 64 (a : Int) ^^^ BitVec.ofInt 64 (b : Int)).toNat : Int) = _
  rw [BitVec.toNat_xor, h1, h2]
  exact IntWalk.i64_in _ (by omega)
theorem xor_one_even (x : Nat) : (2 * x) ^^^ 1 = 2 * x + 1 := by
  have h1 : ((2 * x) ^^^ 1) % 2 ^ 1 = 1 := by rw [Nat.xor_mod_two_pow]; simp
  have h2 : ((2 * x) ^^^ 1) / 2 ^ 1 = x := by rw [Nat.xor_div_two_pow]; simp
  omega
theorem xor_up {q o : Nat} (h : q % 2 ^ (o + 1) = 0) : q ^^^ 2 ^ o = q + 2 ^ o := by
  have hp := pow_two_pos o
  obtain ⟨x, rfl⟩ := Nat.dvd_of_mod_eq_zero h
  have e : 2 ^ (o + 1) * x = 2 ^ o * (2 * x) := by rw [Nat.pow_succ, Nat.mul_assoc]
  rw [e]
  have h1 : ((2 ^ o * (2 * x)) ^^^ 2 ^ o) % 2 ^ o = 0 := by rw [Nat.xor_mod_two_pow]; simp
  have h2 : ((2 ^ o * (2 * x)) ^^^ 2 ^ o) / 2 ^ o = 2 * x + 1 := by
    rw [Nat.xor_div_two_pow, Nat.mul_div_cancel_left _ (by omega), Nat.div_self (by omega)]
    exact xor_one_even x
  have h3 := Nat.div_add_mod ((2 ^ o * (2 * x)) ^^^ 2 ^ o) (2 ^ o)
  rw [h1, h2, Nat.mul_add, Nat.mul_one] at h3
  omega
theorem xor_bud {p o : Nat} (h : p % 2 ^ o = 0) : p ^^^ 2 ^ o = bud p o := by
  rcases bud_cases h with ⟨h1, h2⟩ | ⟨q, h1, h2, h3, _⟩
  · rw [h2]
    exact xor_up h1
  · rw [h3, h2, ← xor_up h1, Nat.xor_assoc, Nat.xor_self, Nat.xor_zero]
set_option maxHeartbeats 1000000 in
theorem cBuddyOf (p o S b : Nat) (ho : o ≤ 10) (hS : 2 ^ o = S) (hp : p ≤ 1024) (hm : p % 2 ^ o = 0) (hb : bud p o = b) (w : World) :
    Calls Try.prog 31 #[.int .i64 p, .int .i64 o] w fun e w' => e = .returned (.int .i64 b) ∧ w' = w := by
  have hS1 : S ≤ 1024 := by rw [← hS]; exact (pow_le o ho).2
  have hx : Go.bits .xor .i64 (p : Int) (S : Int) = (b : Int) := by rw [xor_nat p S (by omega) (by omega), ← hS, xor_bud hm, hb]
  have HS := Lib.hid hS
  clear hS hm hb
  go_enter Try.func31, Try.ntmps31
  go_wp2_with (go_at_call 45; refine (cBPages o S ho HS.out _).mono ?_; rintro e w' ⟨rfl, rfl⟩)
  go_ret
  exact ⟨rfl, rfl⟩
theorem nil_pages (w : World) (n c : Nat) : (binOp .eql 23 (.pointer none) (.pointer none)).run Try.prog w = .ok (.bool true) w := by kernel_rfl
set_option maxHeartbeats 1000000 in
theorem cIsNoneNil (w : World) : Calls Try.prog 28 #[.pointer none] w fun e w' => e = .returned (.bool true) ∧ w' = w := by
  go_enter Try.func28, Try.ntmps28
  go_wp2
  go_ret
  exact ⟨rfl, rfl⟩
set_option maxHeartbeats 1000000 in
theorem cIsNoneZero (B : Nat) (w : World) (hc : w.cell? ⟨B, 0, none⟩ = some (.slice none 0 0)) : Calls Try.prog 28 #[.pointer (some ⟨B, 0, none⟩)] w fun e w' => e = .returned (.bool true) ∧ w' = w := by
  go_enter Try.func28, Try.ntmps28
  go_wp2
  go_ret
  exact ⟨rfl, rfl⟩
section
variable {w : World} {B g cap : Nat} {l : List Pg}
set_option maxHeartbeats 1000000 in
theorem cIsNone (h : BudAt w 56 B g cap l) : Calls Try.prog 28 #[.pointer (some ⟨B, 0, none⟩)] w fun e w' => e = .returned (.bool false) ∧ w' = w := by
  have hc := h.self
  have h1 := h.n1
  have h2 := h.n2
  have h3 : ((l.length : Int) == 0) = false := by rw [beq_eq_false_iff_ne]; omega
  clear h
  go_enter Try.func28, Try.ntmps28
  go_wp2
  go_ret
  exact ⟨rfl, rfl⟩
theorem keys4 {w W : World} {p0 p1 p2 p3 : Addr} {u0 u1 u2 u3 : Value} (h : w.cell? p0 = some u0 ∧ w.cell? p1 = some u1 ∧ w.cell? p2 = some u2 ∧ w.cell? p3 = some u3) (hb : Below w.heap.size w W) : W.cell? p0 = some u0 ∧ W.cell? p1 = some u1 ∧ W.cell? p2 = some u2 ∧ W.cell? p3 = some u3 ∧ Below w.heap.size w W :=
  ⟨cell_keep hb h.1, cell_keep hb h.2.1, cell_keep hb h.2.2.1, cell_keep hb h.2.2.2, hb⟩
theorem eq_free {x : Pg} {o : Int} {q : Bool} (h : decide (x = ⟨0, o, 0⟩) = q) (w : World) : (Op.equalIn 10000 51 (.agg #[.int .i64 x.kind, .int .i64 x.order, .int .i64 x.cache]) (.agg #[.int .i64 0, .int .i64 o, .int .i64 0])).run Try.prog w = .ok q w := eqinIs (c := x) (d := (⟨0, o, 0⟩ : Pg)) h
set_option maxHeartbeats 2000000 in
set_option maxRecDepth 100000 in
/-- isFree, of a page of the table -/
theorem cIsFreeIn (h : BudAt w 56 B g cap l) (i : Nat) (o : Int) (q : Bool) (hi : i < l.length) (hq : decide (pg l i = ⟨0, o, 0⟩) = q) :
    Calls Try.prog 34 #[.pointer (some ⟨B, 0, none⟩), .int .i64 i, .int .i64 o] w fun e w' => e = .returned (.bool q) ∧ Below w.heap.size w w' := by
  have hc := h.self
  obtain ⟨t0, t1, t2⟩ := h.tab.cells hi
  have h2 := h.n2
  have hcap := h.cap
  have heq := fun w => eq_free hq w
  have hgd := guardP
  generalize pg l i = x at t0 t1 t2 heq
  have HC := Lib.hid (show w.cell? ⟨B, 0, none⟩ = some (.slice (some ⟨g, 0, none⟩) l.length cap) ∧ w.cell? ⟨g, i * 3, none⟩ = some (.int .i64 x.kind) ∧ w.cell? ⟨g, i * 3 + 1, none⟩ = some (.int .i64 x.order) ∧ w.cell? ⟨g, i * 3 + 2, none⟩ = some (.int .i64 x.cache) from ⟨hc, t0, t1, t2⟩)
  have hdec : decide (i < l.length) = true := decide_eq_true hi
  clear h hq
  unfold maxLen at hcap
  go_enter Try.func34, Try.ntmps34
  go_wp2
  go_region_held3 (fun W => W.cell? ⟨B, 0, none⟩ = some (.slice (some ⟨g, 0, none⟩) l.length cap) ∧ W.cell? ⟨g, i * 3, none⟩ = some (.int .i64 x.kind) ∧ W.cell? ⟨g, i * 3 + 1, none⟩ = some (.int .i64 x.order) ∧ W.cell? ⟨g, i * 3 + 2, none⟩ = some (.int .i64 x.cache) ∧ Below w.heap.size w W)
    (first | exact ⟨HC.out.1, HC.out.2.1, HC.out.2.2.1, HC.out.2.2.2, Below.drew (Below.refl _ _)⟩ | exact keys4 HC.out (by assumption))
    (first
      | (go_at_call 30; refine (cFreeHead o _).mono ?_; rintro e w3 ⟨rfl, h3⟩; have hb4 : Below w.heap.size w w3 := below_then (show _ ∧ _ ∧ _ ∧ _ ∧ Below w.heap.size w _ from by assumption).2.2.2.2 h3))
  all_goals go_wp2
  all_goals go_ret
  all_goals exact ⟨rfl, (show _ ∧ _ ∧ _ ∧ _ ∧ Below w.heap.size w _ from by assumption).2.2.2.2⟩
set_option maxHeartbeats 1000000 in
set_option maxRecDepth 100000 in
/-- isFree, beyond the table -/
theorem cIsFreeOut (h : BudAt w 56 B g cap l) (i : Nat) (o : Int) (hi : l.length ≤ i) :
    Calls Try.prog 34 #[.pointer (some ⟨B, 0, none⟩), .int .i64 i, .int .i64 o] w fun e w' => e = .returned (.bool false) ∧ Below w.heap.size w w' := by
  have hc := h.self
  have h2 := h.n2
  have hdec : decide (i < l.length) = false := decide_eq_false (by omega)
  clear h
  go_enter Try.func34, Try.ntmps34
  go_wp2
  go_quiet (fail)
  go_wp2
  go_ret
  exact ⟨rfl, below_drewN (Below.refl _ _) _⟩
/-- isFree: the block of an order at a page -/
theorem cIsFree (h : BudAt w 56 B g cap l) (i o : Nat) (q : Bool) (hq : isF l i o = q) :
    Calls Try.prog 34 #[.pointer (some ⟨B, 0, none⟩), .int .i64 i, .int .i64 o] w fun e w' => e = .returned (.bool q) ∧ Below w.heap.size w w' := by
  by_cases hi : i < l.length
  · exact cIsFreeIn h i o q hi (by rw [← hq]; unfold isF fh; simp [hi])
  · obtain rfl : q = false := by rw [← hq]; unfold isF; simp [hi]
    exact cIsFreeOut h i o (by omega)
end
end Go.Proofs.Ytpohfecbogppkaa
