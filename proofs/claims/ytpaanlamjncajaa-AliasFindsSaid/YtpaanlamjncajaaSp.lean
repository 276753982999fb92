/-
  Caches asked for, in a world: one, compared, stored, loaded; a list of them.
-/
import Derived.Test.YtpaanlamjncajaaPure
import Derived.StillTailTactics
set_option linter.unusedVariables false
set_option linter.unusedSimpArgs false
namespace Go.Proofs.Ytpaanlamjncajaa
open Go Go.RowKit

/-- stand still here -/
def Stop (p : Prop) : Prop := p
theorem Stop.mk {p : Prop} (h : Stop p) : p := h
abbrev Sp.arr (c : Sp) : Array Value := #[.int .i64 c.size, .int .i64 c.align, .int .i64 c.flags]
abbrev Sp.agg (c : Sp) : Value := .agg c.arr
abbrev SpAt (w : World) (K : Nat) (c : Sp) : Prop := w.heap[K]? = some (.cells c.arr 23 (0, 0))
abbrev sp0 : Obj := .cells #[.int .i64 0, .int .i64 0, .int .i64 0] 23
theorem infoC : (Try.prog.info? 23).map (·.size) = some 3 := by kernel_rfl
theorem underC : ∃ fs, Try.prog.underlying 23 = some (.struct fs) := ⟨Try.prog.fieldsOf 23, by kernel_rfl⟩
section
variable {w w' W : World} {K g : Nat} {c d : Sp} {S : Nat → Prop}
theorem SpAt.lt (h : SpAt w K c) : K < w.heap.size := lt_of_block h
theorem SpAt.cells (h : SpAt w K c) : w.cell? ⟨K, 0, none⟩ = some (.int .i64 c.size) ∧ w.cell? ⟨K, 1, none⟩ = some (.int .i64 c.align) ∧ w.cell? ⟨K, 2, none⟩ = some (.int .i64 c.flags) :=
  ⟨self_cell h 0 _ rfl, self_cell h 1 _ rfl, self_cell h 2 _ rfl⟩
theorem SpAt.below (h : SpAt w K c) (hb : Below w.heap.size w w') : SpAt w' K c := keep_block h hb
/-- what may change: a block that was not there -/
theorem below_one_kept (hb : Below W.heap.size W w) (h : Kept (· = g) w w') (hg : W.heap.size ≤ g) : Below W.heap.size W w' := below_kept hb h (by rintro k rfl; exact hg)
theorem wpList_storeC {ops : Array Oper} {rest : List Oper} {o : Oper} {a : Act} {Q : Exit → Act → World → Prop} (hgd : o.guard = none) (x y : Operand) (ho : o.op = .store 23 x y)
    (g : Nat) (c : Sp) (hx : a.eval x = .pointer (some ⟨g, 0, none⟩)) (hy : a.eval y = c.agg) (old : Array Value) (hg : w.heap[g]? = some (.cells old 23 (0, 0))) (hs : old.size = 3)
    (h : ∀ w', SpAt w' g c → Kept (· = g) w w' → wpList Try.prog ops Q rest (a.put o.dst undef) w') : wpList Try.prog ops Q (o :: rest) a w :=
  wpList_store_row hgd _ x y ho g c.arr hx hy _ old hg infoC hs (by simp [Value.oneCell']) (h _ (setRow_heap _ _ _ _ _ _ hg) ⟨rfl, rfl, rfl, by simp, fun k _ hn => setRow_other _ _ _ _ hn⟩)
theorem wpList_loadC {ops : Array Oper} {rest : List Oper} {o : Oper} {a : Act} {Q : Exit → Act → World → Prop} (hgd : o.guard = none) (x : Operand) (ho : o.op = .load 23 x)
    (g : Nat) (c : Sp) (hx : a.eval x = .pointer (some ⟨g, 0, none⟩)) (hg : SpAt w g c)
    (h : wpList Try.prog ops Q rest (a.put o.dst c.agg) w) : wpList Try.prog ops Q (o :: rest) a w := by
  obtain ⟨fs, hf⟩ := underC
  exact wpList_load_row hgd _ x ho g hx _ c.arr _ (.struct fs) hg hf rfl infoC h
/-! compared -/
theorem fieldsK : Try.prog.underlying 23 = some (.struct (Try.prog.fieldsOf 23)) := by kernel_rfl
theorem heldK : Try.prog.stoodInHeld 23 = false := by kernel_rfl
theorem guardK : Try.prog.eqGuardType Try.prog.depth 23 = false := by kernel_rfl
theorem fieldsOfK : Try.prog.fieldsOf 23 = #[⟨"Size", 3, 0, false, "", "", 0⟩, ⟨"Align", 3, 1, false, "", "", 8⟩, ⟨"Flags", 3, 2, false, "", "", 16⟩] := by kernel_rfl
theorem eqinK (w : World) (c d : Sp) : (Op.equalIn 10000 23 (.agg c.arr) (.agg d.arr)).run Try.prog w = .ok (decide (c = d)) w := by
  obtain ⟨a, b, f⟩ := c
  obtain ⟨a', b', f'⟩ := d
  rw [show (10000 : Nat) = 9999 + 1 from rfl, run_equalIn_agg _ _ _ _ _ fieldsK heldK, fieldsOfK]
  have e0 : ∀ x y w, (Op.equalIn 9999 3 (.int .i64 x) (.int .i64 y)).run Try.prog w = .ok (x == y) w := fun x y w => run_equalIn_int w 9998 3 .i64 .i64 x y Try.underlying3
  simp [Op.eqFields, go_sem, e0, part]
  by_cases h1 : a = a' <;> simp [h1]
  by_cases h2 : b = b' <;> simp [h2]
  by_cases h3 : f = f' <;> simp [h3]
theorem eqIs {q : Bool} (h : decide (c = d) = q) (w : World) : (Op.equalIn 10000 23 (.agg #[.int .i64 c.size, .int .i64 c.align, .int .i64 c.flags]) (.agg #[.int .i64 d.size, .int .i64 d.align, .int .i64 d.flags])).run Try.prog w = .ok q w := by rw [← h]; exact eqinK w c d
end
theorem zero_new (w : World) : SpAt (w.alloc sp0) w.heap.size zS := heap_new _ _
/-! ### lists -/
def Sp.cells (x : Sp) : List Value := [.int .i64 x.size, .int .i64 x.align, .int .i64 x.flags]
abbrev sps (l : List Sp) : List Value := l.flatMap Sp.cells
def ShowS (w : World) (v : Value) (l : List Sp) : Prop := Shows w v l.length 3 (sps l)
theorem sps_length (l : List Sp) : (sps l).length = l.length * 3 := by
  induction l with
  | nil => rfl
  | cons c r ih => simp only [sps, List.flatMap_cons, List.length_append, List.length_cons] at *; simp only [ih, Sp.cells, List.length_cons, List.length_nil]; omega
theorem sps_at (l : List Sp) (i j : Nat) (hi : i < l.length) (hj : j < 3) : (sps l)[i * 3 + j]? = some (l[i].cells[j]'(by simpa [Sp.cells] using hj)) := by
  induction l generalizing i with
  | nil => simp at hi
  | cons c r ih =>
    cases i with
    | zero =>
      simp only [sps, List.flatMap_cons, Nat.zero_mul, Nat.zero_add]
      rw [List.getElem?_append_left (by simpa [Sp.cells] using hj)]
      simp [Sp.cells, hj]
    | succ i =>
      simp only [sps, List.flatMap_cons]
      rw [List.getElem?_append_right (by simp [Sp.cells]; omega)]
      have := ih i (by simpa using hi)
      simp only [sps] at this
      have e : (i + 1) * 3 + j - c.cells.length = i * 3 + j := by simp [Sp.cells]; omega
      rw [e, this]
      simp
theorem ShowS.form {w : World} {v : Value} {l : List Sp} (h : ShowS w v l) : ∃ ao cap, v = .slice ao l.length cap ∧ (l.length ≤ cap ∧ cap ≤ 9223372036854775807) ∧
    ∀ i, i < l.length → ∃ b o, ao = some ⟨b, o, none⟩ ∧ w.cell? ⟨b, o + i * 3, none⟩ = some (.int .i64 (sp l i).size) ∧ w.cell? ⟨b, o + i * 3 + 1, none⟩ = some (.int .i64 (sp l i).align) ∧ w.cell? ⟨b, o + i * 3 + 2, none⟩ = some (.int .i64 (sp l i).flags) := by
  obtain ⟨hl, ao, cap, hv, hc, hs⟩ := h
  refine ⟨ao, cap, hv, by unfold maxLen at hc; omega, fun i hi => ?_⟩
  obtain ⟨b, o, ha, hx⟩ := hs (by omega)
  rw [← sp_at l i hi]
  refine ⟨b, o, ha, ?_, ?_, ?_⟩
  · have := hx (i * 3 + 0) (by omega); rw [sps_at l i 0 hi (by omega)] at this; exact this
  · have := hx (i * 3 + 1) (by omega); rw [sps_at l i 1 hi (by omega)] at this; exact this
  · have := hx (i * 3 + 2) (by omega); rw [sps_at l i 2 hi (by omega)] at this; exact this
theorem ShowS.below {w w' : World} {v : Value} {l : List Sp} (h : ShowS w v l) (hb : Below w.heap.size w w') : ShowS w' v l := Shows.below h hb
theorem ShowS.nil (w : World) : ShowS w (.slice none 0 0) [] := Shows.nil w 3
theorem sps_take (l : List Sp) (m : Nat) : sps (l.take m) = (sps l).take (m * 3) := by
  induction l generalizing m with
  | nil => simp
  | cons c r ih =>
    cases m with
    | zero => simp
    | succ m =>
      simp only [List.take_succ_cons, sps, List.flatMap_cons] at *
      rw [ih, show (m + 1) * 3 = c.cells.length + m * 3 by simp [Sp.cells]; omega, List.take_length_add_append]
/-- the first m of them -/
theorem ShowS.first {w : World} {ao : Option Addr} {cap m : Nat} {l : List Sp} (h : ShowS w (.slice ao l.length cap) l) (hm : m ≤ l.length) : ShowS w (.slice ao m cap) (l.take m) := by
  unfold ShowS
  rw [List.length_take, Nat.min_eq_left hm, sps_take]
  obtain ⟨hl, ao', cap', hv, hc, hs⟩ := h
  cases hv
  refine ⟨by rw [List.length_take, sps_length]; omega, ao, cap, rfl, by omega, fun hn => ?_⟩
  obtain ⟨b, o, ha, hx⟩ := hs (by omega)
  refine ⟨b, o, ha, fun j hj => ?_⟩
  rw [hx j (by omega), List.getElem?_take, if_pos (by omega)]
/-- a block whose cells are a table's -/
theorem lit_s (w : World) (t : TypeId) (l : List Sp) (n : Nat) (hn : l.length = n) (hm : n ≤ 10000) : ShowS (w.alloc (.cells (sps l).toArray t)) (.slice (some ⟨w.heap.size, 0, none⟩) n n) l := by
  unfold ShowS
  rw [hn]
  refine ⟨by rw [sps_length]; omega, _, n, rfl, by unfold maxLen; omega, fun _ => ⟨_, 0, rfl, fun j hj => ?_⟩⟩
  have hb : (w.alloc (.cells (sps l).toArray t)).heap[w.heap.size]? = some (.cells (sps l).toArray t) := heap_new _ _
  unfold World.cell?
  dsimp only
  rw [hb]
  simp
theorem infoS : (Try.prog.info? 23).map (fun i => (i.zero, i.size, i.bytes)) = some (some (.agg #[.int .i64 0, .int .i64 0, .int .i64 0]), 3, 24) := by kernel_rfl

end Go.Proofs.Ytpaanlamjncajaa
