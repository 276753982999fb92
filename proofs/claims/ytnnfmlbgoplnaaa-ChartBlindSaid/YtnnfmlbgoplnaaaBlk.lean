/-
  Blocks that are structs of so many cells: stored whole, a cell of them, loaded; what stays.
-/
import Derived.Test.YtnnfmlbgoplnaaaRps
set_option linter.unusedVariables false
set_option linter.unusedSimpArgs false
namespace Go.Proofs.Ytnnfmlbgoplnaaa
open Go Go.RowKit

abbrev BlkAt (T : TypeId) (w : World) (K : Nat) (cs : Array Value) : Prop := w.heap[K]? = some (.cells cs T (0, 0))
/-- a struct of n cells -/
structure RT (T : TypeId) (n : Nat) : Prop where
  info : (Try.prog.info? T).map (·.size) = some n
  under : ∃ fs, Try.prog.underlying T = some (.struct fs)
theorem rtSlot : RT 59 4 := ⟨by kernel_rfl, Try.prog.fieldsOf 59, by kernel_rfl⟩
theorem rtSlab : RT 63 5 := ⟨by kernel_rfl, Try.prog.fieldsOf 63, by kernel_rfl⟩
theorem rtCore : RT 40 4 := ⟨by kernel_rfl, Try.prog.fieldsOf 40, by kernel_rfl⟩
theorem rtCts : RT 61 4 := ⟨by kernel_rfl, Try.prog.fieldsOf 61, by kernel_rfl⟩
section
variable {T : TypeId} {n : Nat} {w w' W : World} {K g j : Nat} {cs : Array Value}
theorem BlkAt.lt (h : BlkAt T w K cs) : K < w.heap.size := lt_of_block h
theorem BlkAt.below (h : BlkAt T w K cs) (hb : Below w.heap.size w w') : BlkAt T w' K cs := keep_block h hb
theorem BlkAt.kept (h : BlkAt T w K cs) (hk : Kept (· = g) w w') (hn : K ≠ g) : BlkAt T w' K cs := (hk.block K (BlkAt.lt h) hn).trans h
theorem BlkAt.cell (h : BlkAt T w K cs) {u : Value} (hu : cs[j]? = some u) : w.cell? ⟨K, j, none⟩ = some u := self_cell h j _ hu
theorem wpList_storeR {ops : Array Oper} {rest : List Oper} {o : Oper} {c : Act} {Q : Exit → Act → World → Prop} (hT : RT T n) (hgd : o.guard = none) (x y : Operand) (ho : o.op = .store T x y)
    (g : Nat) (cs : Array Value) (hx : c.eval x = .pointer (some ⟨g, 0, none⟩)) (hy : c.eval y = .agg cs) (hn : cs.size = n) (h1 : cs.all (·.oneCell') = true) (old : Array Value) (hg : w.heap[g]? = some (.cells old T (0, 0))) (hs : old.size = n)
    (h : ∀ w', BlkAt T w' g cs → Kept (· = g) w w' → wpList Try.prog ops Q rest (c.put o.dst undef) w') : wpList Try.prog ops Q (o :: rest) c w :=
  wpList_store_row hgd _ x y ho g cs hx hy _ old hg (by rw [hn]; exact hT.info) (by rw [hs, hn]) h1 (h _ (setRow_heap _ _ _ _ _ _ hg) ⟨rfl, rfl, rfl, by simp, fun k _ hn => setRow_other _ _ _ _ hn⟩)
theorem wpList_loadR {ops : Array Oper} {rest : List Oper} {o : Oper} {c : Act} {Q : Exit → Act → World → Prop} (hT : RT T n) (hgd : o.guard = none) (x : Operand) (ho : o.op = .load T x)
    (g : Nat) (cs : Array Value) (hn : cs.size = n) (hx : c.eval x = .pointer (some ⟨g, 0, none⟩)) (hg : BlkAt T w g cs)
    (h : wpList Try.prog ops Q rest (c.put o.dst (.agg cs)) w) : wpList Try.prog ops Q (o :: rest) c w := by
  obtain ⟨fs, hf⟩ := hT.under
  exact wpList_load_row hgd _ x ho g hx _ cs _ (.struct fs) hg hf rfl (by rw [hn]; exact hT.info) h
theorem infoIs : (Try.prog.info? 30).map (·.size) = some 1 := by kernel_rfl
/-- a list, stored in a cell -/
theorem wpList_storeS {ops : Array Oper} {rest : List Oper} {o : Oper} {a : Act} {Q : Exit → Act → World → Prop} (hgd : o.guard = none) (x y : Operand) (ho : o.op = .store 30 x y)
    (g j : Nat) (u : Value) (hx : a.eval x = .pointer (some ⟨g, j, none⟩)) (hy : a.eval y = u) (hu : ∃ ao n cp, u = .slice ao n cp) (cs : Array Value) (hg : BlkAt T w g cs) (hj : j < cs.size)
    (h : ∀ w', BlkAt T w' g (cs.setIfInBounds j u) → Kept (· = g) w w' → wpList Try.prog ops Q rest (a.put o.dst undef) w') : wpList Try.prog ops Q (o :: rest) a w := by
  have hc : w.cell? ⟨g, j, none⟩ = some (cs[j]'hj) := self_cell hg j _ (Array.getElem?_eq_getElem _)
  have hf := self_free hg j
  have hn := h (w.setCell ⟨g, j, none⟩ u) (cells_set hg j _) (Kept.setCell (S := (· = g)) (p := ⟨g, j, none⟩) (Kept.refl _ _) rfl _)
  obtain ⟨ao, m, cp, rfl⟩ := hu
  refine wpList_plain hgd fun K hK => ?_
  have h2 := hK _ _ hn
  unfold Oper.wp execOp
  simp only [ho, hx, hy]
  simp [go_sem, hc, hf]
  exact h2
/-- a list, stored in a cell -/
theorem wpList_storeSl {ops : Array Oper} {rest : List Oper} {o : Oper} {a : Act} {Q : Exit → Act → World → Prop} (hgd : o.guard = none) (x y : Operand) (ho : o.op = .store 37 x y)
    (g j : Nat) (u : Value) (hx : a.eval x = .pointer (some ⟨g, j, none⟩)) (hy : a.eval y = u) (hu : ∃ ao n cp, u = .slice ao n cp) (cs : Array Value) (hg : BlkAt T w g cs) (hj : j < cs.size)
    (h : ∀ w', BlkAt T w' g (cs.setIfInBounds j u) → Kept (· = g) w w' → wpList Try.prog ops Q rest (a.put o.dst undef) w') : wpList Try.prog ops Q (o :: rest) a w := by
  have hc : w.cell? ⟨g, j, none⟩ = some (cs[j]'hj) := self_cell hg j _ (Array.getElem?_eq_getElem _)
  have hf := self_free hg j
  have hn := h (w.setCell ⟨g, j, none⟩ u) (cells_set hg j _) (Kept.setCell (S := (· = g)) (p := ⟨g, j, none⟩) (Kept.refl _ _) rfl _)
  obtain ⟨ao, m, cp, rfl⟩ := hu
  refine wpList_plain hgd fun K hK => ?_
  have h2 := hK _ _ hn
  unfold Oper.wp execOp
  simp only [ho, hx, hy]
  simp [go_sem, hc, hf]
  exact h2
/-- a list, stored in a cell -/
theorem wpList_storeSb {ops : Array Oper} {rest : List Oper} {o : Oper} {a : Act} {Q : Exit → Act → World → Prop} (hgd : o.guard = none) (x y : Operand) (ho : o.op = .store 38 x y)
    (g j : Nat) (u : Value) (hx : a.eval x = .pointer (some ⟨g, j, none⟩)) (hy : a.eval y = u) (hu : ∃ ao n cp, u = .slice ao n cp) (cs : Array Value) (hg : BlkAt T w g cs) (hj : j < cs.size)
    (h : ∀ w', BlkAt T w' g (cs.setIfInBounds j u) → Kept (· = g) w w' → wpList Try.prog ops Q rest (a.put o.dst undef) w') : wpList Try.prog ops Q (o :: rest) a w := by
  have hc : w.cell? ⟨g, j, none⟩ = some (cs[j]'hj) := self_cell hg j _ (Array.getElem?_eq_getElem _)
  have hf := self_free hg j
  have hn := h (w.setCell ⟨g, j, none⟩ u) (cells_set hg j _) (Kept.setCell (S := (· = g)) (p := ⟨g, j, none⟩) (Kept.refl _ _) rfl _)
  obtain ⟨ao, m, cp, rfl⟩ := hu
  refine wpList_plain hgd fun K hK => ?_
  have h2 := hK _ _ hn
  unfold Oper.wp execOp
  simp only [ho, hx, hy]
  simp [go_sem, hc, hf]
  exact h2
theorem own_kept {B : Nat} {v : Value} {l : List Int} (h : OwnI B w v l) (hk : Kept (· = g) w w') (hb : BlkAt T w g cs) (hT : 3 ≠ T) : OwnI B w' v l :=
  own_kept2 (Ts := [T]) h hk (by rintro k rfl; exact ⟨cs, T, (0, 0), hb, by simp⟩) (by simpa using hT)
theorem intSlot : 3 ≠ 59 := by decide
theorem intSlab : 3 ≠ 63 := by decide
theorem intCore : 3 ≠ 40 := by decide
end
theorem OwnI.slice {B : Nat} {w : World} {v : Value} {l : List Int} (h : OwnI B w v l) : ∃ ao n cp, v = .slice ao n cp := by
  obtain ⟨a, c, rfl, _⟩ := own_shape h
  exact ⟨_, _, _, rfl⟩
end Go.Proofs.Ytnnfmlbgoplnaaa
