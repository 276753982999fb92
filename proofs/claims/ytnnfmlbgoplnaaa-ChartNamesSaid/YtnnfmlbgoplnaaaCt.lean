/-
  Counts in a world; two of them compared; isCounts of the program, may of the document.
-/
import Derived.Test.YtnnfmlbgoplnaaaCp
import Derived.StillTailTactics
set_option linter.unusedVariables false
set_option linter.unusedSimpArgs false
namespace Go.Proofs.Ytnnfmlbgoplnaaa
open Go Go.RowKit

/-- stand still here -/
def Stop (p : Prop) : Prop := p
theorem Stop.mk {p : Prop} (h : Stop p) : p := h
abbrev Ct.arr (c : Ct) : Array Value := #[.int .i64 c.i, .int .i64 c.n, .bool c.f, .bool c.l]
/-- a block that is counts -/
abbrev CtAt (w : World) (K : Nat) (c : Ct) : Prop := w.heap[K]? = some (.cells c.arr 61 (0, 0))
abbrev ct0 : Obj := .cells #[.int .i64 0, .int .i64 0, .bool false, .bool false] 61
theorem infoC : (Try.prog.info? 61).map (·.size) = some 4 := by kernel_rfl
theorem underC : ∃ fs, Try.prog.underlying 61 = some (.struct fs) := ⟨Try.prog.fieldsOf 61, by kernel_rfl⟩
section
variable {w w' W : World} {K g : Nat} {c d : Ct} {S : Nat → Prop}
theorem CtAt.lt (h : CtAt w K c) : K < w.heap.size := lt_of_block h
theorem CtAt.cells (h : CtAt w K c) :
    w.cell? ⟨K, 0, none⟩ = some (.int .i64 c.i) ∧ w.cell? ⟨K, 1, none⟩ = some (.int .i64 c.n) ∧ w.cell? ⟨K, 2, none⟩ = some (.bool c.f) ∧ w.cell? ⟨K, 3, none⟩ = some (.bool c.l) :=
  ⟨self_cell h 0 _ rfl, self_cell h 1 _ rfl, self_cell h 2 _ rfl, self_cell h 3 _ rfl⟩
theorem CtAt.below (h : CtAt w K c) (hb : Below w.heap.size w w') : CtAt w' K c := keep_block h hb
theorem CtAt.kept (h : CtAt w K c) (hk : Kept S w w') (hS : ¬ S K) : CtAt w' K c := (hk.block _ (lt_of_block h) hS).trans h
/-- a field is written -/
theorem CtAt.inuse (h : CtAt w K c) (x : Int) : CtAt (w.setCell ⟨K, 0, none⟩ (.int .i64 x)) K { c with i := x } := cells_set h 0 _
theorem CtAt.frozen (h : CtAt w K c) (x : Bool) : CtAt (w.setCell ⟨K, 2, none⟩ (.bool x)) K { c with f := x } := cells_set h 2 _
theorem CtAt.other (h : CtAt w K c) (hg : K ≠ g) (j : Nat) (u : Value) : CtAt (w.setCell ⟨g, j, none⟩ u) K c := (Below.heap_setCell w ⟨g, j, none⟩ u K hg).trans h
/-- what may change: a block that was not there -/
theorem below_one_kept (hb : Below W.heap.size W w) (h : Kept (· = g) w w') (hg : W.heap.size ≤ g) : Below W.heap.size W w' := below_kept hb h (by rintro k rfl; exact hg)
theorem wpList_storeC {ops : Array Oper} {rest : List Oper} {o : Oper} {a : Act} {Q : Exit → Act → World → Prop} (hgd : o.guard = none) (x y : Operand) (ho : o.op = .store 61 x y)
    (g : Nat) (c : Ct) (hx : a.eval x = .pointer (some ⟨g, 0, none⟩)) (hy : a.eval y = c.agg) (old : Array Value) (hg : w.heap[g]? = some (.cells old 61 (0, 0))) (hs : old.size = 4)
    (h : ∀ w', CtAt w' g c → Kept (· = g) w w' → wpList Try.prog ops Q rest (a.put o.dst undef) w') : wpList Try.prog ops Q (o :: rest) a w :=
  wpList_store_row hgd _ x y ho g c.arr hx hy _ old hg infoC hs (by simp [Value.oneCell']) (h _ (setRow_heap _ _ _ _ _ _ hg) ⟨rfl, rfl, rfl, by simp, fun k _ hn => setRow_other _ _ _ _ hn⟩)
theorem wpList_loadC {ops : Array Oper} {rest : List Oper} {o : Oper} {a : Act} {Q : Exit → Act → World → Prop} (hgd : o.guard = none) (x : Operand) (ho : o.op = .load 61 x)
    (g : Nat) (c : Ct) (hx : a.eval x = .pointer (some ⟨g, 0, none⟩)) (hg : CtAt w g c)
    (h : wpList Try.prog ops Q rest (a.put o.dst c.agg) w) : wpList Try.prog ops Q (o :: rest) a w := by
  obtain ⟨fs, hf⟩ := underC
  exact wpList_load_row hgd _ x ho g hx _ c.arr _ (.struct fs) hg hf rfl infoC h
/-! compared -/
theorem fieldsK : Try.prog.underlying 61 = some (.struct (Try.prog.fieldsOf 61)) := by kernel_rfl
theorem heldK : Try.prog.stoodInHeld 61 = false := by kernel_rfl
theorem guardK : Try.prog.eqGuardType Try.prog.depth 61 = false := by kernel_rfl
theorem fieldsOfK : Try.prog.fieldsOf 61 = #[⟨"Inuse", 3, 0, false, "", "", 0⟩, ⟨"Objects", 3, 1, false, "", "", 8⟩, ⟨"Frozen", 4, 2, false, "", "", 16⟩, ⟨"Live", 4, 3, false, "", "", 17⟩] := by kernel_rfl
theorem eqinK (w : World) (c d : Ct) : (Op.equalIn 10000 61 (.agg c.arr) (.agg d.arr)).run Try.prog w = .ok (decide (c = d)) w := by
  obtain ⟨a, b, f, l⟩ := c
  obtain ⟨a', b', f', l'⟩ := d
  rw [show (10000 : Nat) = 9999 + 1 from rfl, run_equalIn_agg _ _ _ _ _ fieldsK heldK, fieldsOfK]
  have e0 : ∀ x y w, (Op.equalIn 9999 3 (.int .i64 x) (.int .i64 y)).run Try.prog w = .ok (x == y) w := fun x y w => run_equalIn_int w 9998 3 .i64 .i64 x y Try.underlying3
  have e1 : ∀ x y w, (Op.equalIn 9999 4 (.bool x) (.bool y)).run Try.prog w = .ok (x == y) w := fun x y w => run_equalIn_bool' w 9998 4 x y Try.underlying4
  simp [Op.eqFields, go_sem, e0, e1, part]
  by_cases h1 : a = a' <;> simp [h1]
  by_cases h2 : b = b' <;> simp [h2]
  by_cases h3 : f = f' <;> simp [h3]
  by_cases h4 : l = l' <;> simp [h4]
theorem eqIs {q : Bool} (h : decide (c = d) = q) (w : World) : (Op.equalIn 10000 61 (.agg #[.int .i64 c.i, .int .i64 c.n, .bool c.f, .bool c.l]) (.agg #[.int .i64 d.i, .int .i64 d.n, .bool d.f, .bool d.l])).run Try.prog w = .ok q w := by rw [← h]; exact eqinK w c d
end
set_option maxHeartbeats 2000000 in
theorem cIsCounts (c : Ct) (q : Bool) (hq : decide (mayC c) = q) (w : World) :
    Calls Try.prog 90 #[c.agg] w fun e w' => e = .returned (.bool q) ∧ Below w.heap.size w w' := by
  have hz : ¬ ofSlab c → ∀ w, (Op.equalIn 10000 61 (.agg #[.int .i64 c.i, .int .i64 c.n, .bool c.f, .bool c.l]) (.agg #[.int .i64 0, .int .i64 0, .bool false, .bool false])).run Try.prog w = .ok q w := by
    intro h w
    refine eqIs (d := zC) ?_ w
    rw [← hq]
    exact decide_eq_decide.2 ⟨Or.inr, fun e => e.resolve_left h⟩
  have hs : ofSlab c → true = q := fun h => by rw [← hq]; exact (decide_eq_true (Or.inl h)).symm
  have hgd := guardK
  obtain ⟨i, n, f, l⟩ := c
  unfold ofSlab at hz hs
  dsimp only at hz hs ⊢
  clear hq
  cases l with
  | false =>
    have heq := hz (by simp)
    clear hz hs
    go_enter Try.func90, Try.ntmps90
    go_wp2
    go_ret
    exact ⟨by simp, below_one (Below.refl _ _) _⟩
  | true =>
    by_cases h1 : 1 ≤ n
    · by_cases h2 : n ≤ 16
      · by_cases h3 : 0 ≤ i
        · by_cases h4 : i ≤ n
          · have HQ := Lib.hid (hs ⟨rfl, h1, h2, h3, h4⟩)
            clear hz hs
            go_enter Try.func90, Try.ntmps90
            go_wp2
            go_ret
            exact ⟨ret_bool HQ.out, below_one (Below.refl _ _) _⟩
          · have heq := hz (fun e => h4 e.2.2.2.2)
            clear hz hs
            go_enter Try.func90, Try.ntmps90
            go_wp2
            go_ret
            exact ⟨by simp, below_one (Below.refl _ _) _⟩
        · have heq := hz (fun e => h3 e.2.2.2.1)
          clear hz hs
          go_enter Try.func90, Try.ntmps90
          go_wp2
          go_ret
          exact ⟨by simp, below_one (Below.refl _ _) _⟩
      · have heq := hz (fun e => h2 e.2.2.1)
        clear hz hs
        go_enter Try.func90, Try.ntmps90
        go_wp2
        go_ret
        exact ⟨by simp, below_one (Below.refl _ _) _⟩
    · have heq := hz (fun e => h1 e.2.1)
      clear hz hs
      go_enter Try.func90, Try.ntmps90
      go_wp2
      go_ret
      exact ⟨by simp, below_one (Below.refl _ _) _⟩
end Go.Proofs.Ytnnfmlbgoplnaaa
