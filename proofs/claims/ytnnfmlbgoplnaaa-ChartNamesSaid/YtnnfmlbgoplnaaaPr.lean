/-
  Pairs of numbers in a world (a head, a part); isSlab, joined, parted of the program.
-/
import Derived.Test.YtnnfmlbgoplnaaaPk
set_option linter.unusedVariables false
set_option linter.unusedSimpArgs false
namespace Go.Proofs.Ytnnfmlbgoplnaaa
open Go Go.RowKit

abbrev fnV (n : Nat) : Value := .func (.func n) #[] #[]
abbrev prA (a b : Int) : Array Value := #[.int .i64 a, .int .i64 b]
/-- a block that is a pair -/
abbrev PrAt (T : TypeId) (w : World) (K : Nat) (a b : Int) : Prop := w.heap[K]? = some (.cells (prA a b) T (0, 0))
/-- a struct of two cells -/
structure PrT (T : TypeId) : Prop where
  info : (Try.prog.info? T).map (·.size) = some 2
  under : ∃ fs, Try.prog.underlying T = some (.struct fs)
theorem prH : PrT 96 := ⟨by kernel_rfl, Try.prog.fieldsOf 96, by kernel_rfl⟩
theorem prP : PrT 119 := ⟨by kernel_rfl, Try.prog.fieldsOf 119, by kernel_rfl⟩
abbrev pr0 (T : TypeId) : Obj := .cells #[.int .i64 0, .int .i64 0] T
section
variable {T : TypeId} {w w' W : World} {K g : Nat} {a b : Int} {S : Nat → Prop}
theorem PrAt.lt (h : PrAt T w K a b) : K < w.heap.size := lt_of_block h
theorem PrAt.cells (h : PrAt T w K a b) : w.cell? ⟨K, 0, none⟩ = some (.int .i64 a) ∧ w.cell? ⟨K, 1, none⟩ = some (.int .i64 b) := ⟨self_cell h 0 _ rfl, self_cell h 1 _ rfl⟩
theorem PrAt.below (h : PrAt T w K a b) (hb : Below w.heap.size w w') : PrAt T w' K a b := keep_block h hb
theorem pr_new (T : TypeId) (w : World) : PrAt T (w.alloc (pr0 T)) w.heap.size 0 0 := heap_new _ _
theorem wpList_storeP {ops : Array Oper} {rest : List Oper} {o : Oper} {c : Act} {Q : Exit → Act → World → Prop} (hT : PrT T) (hgd : o.guard = none) (x y : Operand) (ho : o.op = .store T x y)
    (g : Nat) (a b : Int) (hx : c.eval x = .pointer (some ⟨g, 0, none⟩)) (hy : c.eval y = .agg (prA a b)) (old : Array Value) (hg : w.heap[g]? = some (.cells old T (0, 0))) (hs : old.size = 2)
    (h : ∀ w', PrAt T w' g a b → Kept (· = g) w w' → wpList Try.prog ops Q rest (c.put o.dst undef) w') : wpList Try.prog ops Q (o :: rest) c w :=
  wpList_store_row hgd _ x y ho g (prA a b) hx hy _ old hg hT.info hs (by simp [Value.oneCell']) (h _ (setRow_heap _ _ _ _ _ _ hg) ⟨rfl, rfl, rfl, by simp, fun k _ hn => setRow_other _ _ _ _ hn⟩)
theorem wpList_loadP {ops : Array Oper} {rest : List Oper} {o : Oper} {c : Act} {Q : Exit → Act → World → Prop} (hT : PrT T) (hgd : o.guard = none) (x : Operand) (ho : o.op = .load T x)
    (g : Nat) (a b : Int) (hx : c.eval x = .pointer (some ⟨g, 0, none⟩)) (hg : PrAt T w g a b)
    (h : wpList Try.prog ops Q rest (c.put o.dst (.agg (prA a b))) w) : wpList Try.prog ops Q (o :: rest) c w := by
  obtain ⟨fs, hf⟩ := hT.under
  exact wpList_load_row hgd _ x ho g hx _ (prA a b) _ (.struct fs) hg hf rfl hT.info h
end
/-! compared -/
theorem fieldsH : Try.prog.underlying 96 = some (.struct (Try.prog.fieldsOf 96)) := by kernel_rfl
theorem fieldsP : Try.prog.underlying 119 = some (.struct (Try.prog.fieldsOf 119)) := by kernel_rfl
theorem heldH : Try.prog.stoodInHeld 96 = false := by kernel_rfl
theorem heldP : Try.prog.stoodInHeld 119 = false := by kernel_rfl
theorem guardH : Try.prog.eqGuardType Try.prog.depth 96 = false := by kernel_rfl
theorem guardP : Try.prog.eqGuardType Try.prog.depth 119 = false := by kernel_rfl
theorem fieldsOfH : Try.prog.fieldsOf 96 = #[⟨"slab", 3, 0, false, "", "wainscot/count", 0⟩, ⟨"obj", 3, 1, false, "", "wainscot/count", 8⟩] := by kernel_rfl
theorem fieldsOfP : Try.prog.fieldsOf 119 = #[⟨"slab", 3, 0, false, "", "wainscot/count", 0⟩, ⟨"many", 3, 1, false, "", "wainscot/count", 8⟩] := by kernel_rfl
theorem eqinH {a b c d : Int} {q : Bool} (h : decide (a = c ∧ b = d) = q) (w : World) : (Op.equalIn 10000 96 (.agg #[.int .i64 a, .int .i64 b]) (.agg #[.int .i64 c, .int .i64 d])).run Try.prog w = .ok q w := by
  rw [← h, show (10000 : Nat) = 9999 + 1 from rfl, run_equalIn_agg _ _ _ _ _ fieldsH heldH, fieldsOfH]
  have e0 : ∀ x y w, (Op.equalIn 9999 3 (.int .i64 x) (.int .i64 y)).run Try.prog w = .ok (x == y) w := fun x y w => run_equalIn_int w 9998 3 .i64 .i64 x y Try.underlying3
  simp [Op.eqFields, go_sem, e0, part]
  by_cases h1 : a = c <;> simp [h1]
  by_cases h2 : b = d <;> simp [h2]
theorem eqinP {a b c d : Int} {q : Bool} (h : decide (a = c ∧ b = d) = q) (w : World) : (Op.equalIn 10000 119 (.agg #[.int .i64 a, .int .i64 b]) (.agg #[.int .i64 c, .int .i64 d])).run Try.prog w = .ok q w := by
  rw [← h, show (10000 : Nat) = 9999 + 1 from rfl, run_equalIn_agg _ _ _ _ _ fieldsP heldP, fieldsOfP]
  have e0 : ∀ x y w, (Op.equalIn 9999 3 (.int .i64 x) (.int .i64 y)).run Try.prog w = .ok (x == y) w := fun x y w => run_equalIn_int w 9998 3 .i64 .i64 x y Try.underlying3
  simp [Op.eqFields, go_sem, e0, part]
  by_cases h1 : a = c <;> simp [h1]
  by_cases h2 : b = d <;> simp [h2]
/-! small calls -/
set_option maxHeartbeats 1000000 in
theorem cIsSlab (s : Int) (q : Bool) (hq : decide (0 ≤ s ∧ s < 32) = q) (w : World) :
    Calls Try.prog 82 #[.int .i64 s] w fun e w' => e = .returned (.bool q) ∧ w' = w := by
  subst hq
  by_cases h0 : 0 ≤ s
  · by_cases h1 : s < 32
    · rw [decide_eq_true (show 0 ≤ s ∧ s < 32 from ⟨h0, h1⟩)]
      go_enter Try.func82, Try.ntmps82
      go_wp2
      go_ret
      exact ⟨rfl, rfl⟩
    · rw [decide_eq_false (show ¬ (0 ≤ s ∧ s < 32) from fun h => h1 h.2)]
      go_enter Try.func82, Try.ntmps82
      go_wp2
      go_ret
      exact ⟨rfl, rfl⟩
  · rw [decide_eq_false (show ¬ (0 ≤ s ∧ s < 32) from fun h => h0 h.1)]
    go_enter Try.func82, Try.ntmps82
    go_wp2
    go_ret
    exact ⟨rfl, rfl⟩
theorem ret_ii {a b c d : Int} (h : a = b) (h2 : c = d) : Ending.returned (.tuple #[.int .i64 a, .int .i64 c]) = .returned (.tuple #[.int .i64 b, .int .i64 d]) := by rw [h, h2]
set_option maxHeartbeats 1000000 in
theorem cJoined (a b : Int) (ha : 0 ≤ a ∧ a ≤ 1000) (hb : 0 ≤ b ∧ b < 64) (w : World) :
    Calls Try.prog 83 #[.int .i64 a, .int .i64 b] w fun e w' => e = .returned (.int .u64 (64 * a + b)) ∧ w' = w := by
  have HX := Lib.hid (or64 ha hb)
  obtain ⟨a1, a2⟩ := ha
  obtain ⟨b1, b2⟩ := hb
  have hw1 : IntKind.u64.wrap a = a := by rw [IntKind.wrap_u64]; omega
  have hw2 : IntKind.u64.wrap b = b := by rw [IntKind.wrap_u64]; omega
  have hw3 : IntKind.u64.wrap (a * 64) = a * 64 := by rw [IntKind.wrap_u64]; omega
  go_enter Try.func83, Try.ntmps83
  go_wp2
  go_ret
  exact ⟨ret_u HX.out, rfl⟩
set_option maxHeartbeats 1000000 in
theorem cParted (x : Int) (hx : okW x) (w : World) :
    Calls Try.prog 81 #[.int .u64 x] w fun e w' => e = .returned (.tuple #[.int .i64 (x / 64), .int .i64 (x % 64)]) ∧ w' = w := by
  have hA := and63 hx
  obtain ⟨p, hp⟩ : ∃ p, x % 64 = p := ⟨_, rfl⟩
  rw [hp] at hA ⊢
  have hp2 : 0 ≤ p ∧ p < 64 := by omega
  obtain ⟨p1, p2⟩ := hp2
  obtain ⟨x1, x2⟩ := hx
  clear hp
  go_enter Try.func81, Try.ntmps81
  go_wp2
  go_ret2
  exact ⟨rfl, rfl⟩
end Go.Proofs.Ytnnfmlbgoplnaaa
