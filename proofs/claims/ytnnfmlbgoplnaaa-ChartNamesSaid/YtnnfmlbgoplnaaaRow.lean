/-
  Rows of structs of one's own that hold lists: of slots, of slabs; appended to, kept.
-/
import Derived.Test.YtnnfmlbgoplnaaaRsb
set_option linter.unusedVariables false
set_option linter.unusedSimpArgs false
namespace Go.Proofs.Ytnnfmlbgoplnaaa
open Go Go.RowKit

theorem infoSl : (Try.prog.info? 59).map (fun i => (i.zero, i.size, i.bytes)) = some (some (.agg #[.int .i64 0, .slice none 0 0, .int .u64 0, .slice none 0 0]), 4, 64) := by kernel_rfl
theorem infoSb : (Try.prog.info? 63).map (fun i => (i.zero, i.size, i.bytes)) = some (some (.agg #[.int .i64 0, .int .i64 0, .bool false, .bool false, .slice none 0 0]), 5, 48) := by kernel_rfl
/-- a slot with its lists' values -/
abbrev SlV := Sl × Value × Value
abbrev SbV := Sb × Value
def slC (x : SlV) : List Value := [.int .i64 x.1.slab, x.2.1, .int .u64 x.1.turn, x.2.2]
def sbC (x : SbV) : List Value := [.int .i64 x.1.ct.i, .int .i64 x.1.ct.n, .bool x.1.ct.f, .bool x.1.ct.l, x.2]
def OwnSl (B : Nat) (w : World) (v : Value) (M : List SlV) : Prop := w.ownsRow B 59 4 v M.length (M.flatMap slC) ∧ ∀ x ∈ M, OwnI B w x.2.1 x.1.list ∧ OwnI B w x.2.2 x.1.parts
def OwnSb (B : Nat) (w : World) (v : Value) (M : List SbV) : Prop := w.ownsRow B 63 5 v M.length (M.flatMap sbC) ∧ ∀ x ∈ M, OwnI B w x.2 x.1.first
theorem slSb : 59 ≠ 63 := by decide
theorem slCore : 59 ≠ 40 := by decide
theorem sbCore : 63 ≠ 40 := by decide
theorem chSl : 24 ≠ 59 := by decide
theorem chSb : 24 ≠ 63 := by decide
section
variable {T : TypeId} {n B K g : Nat} {w w' : World} {v : Value} {cs : Array Value} {Ts : List TypeId}
theorem KT.blk (h : KT Ts w w') (hb : BlkAt T w K cs) (hT : T ∉ Ts) : BlkAt T w' K cs := by
  obtain ⟨S, hk, hS⟩ := h
  exact (hk.block K (lt_of_block hb) (fun e => (hS K e).ne hb hT rfl)).trans hb
theorem KT.ownR {k : Nat} {xs : List Value} (h : KT Ts w w') (ho : w.ownsRow B T k v n xs) (hT : T ∉ Ts) : w'.ownsRow B T k v n xs := by
  obtain ⟨S, hk, hS⟩ := h
  exact own_kept2 ho hk hS hT
theorem KT.ownI {l : List Int} (h : KT Ts w w') (ho : OwnI B w v l) (hT : 3 ∉ Ts) : OwnI B w' v l := KT.ownR h ho hT
theorem OwnSl.turn {M : List SlV} (h : OwnSl B w v M) (hk : KT Ts w w') (h1 : 59 ∉ Ts) (h2 : 3 ∉ Ts) : OwnSl B w' v M := ⟨hk.ownR h.1 h1, fun x hx => ⟨hk.ownI (h.2 x hx).1 h2, hk.ownI (h.2 x hx).2 h2⟩⟩
theorem OwnSb.turn {M : List SbV} (h : OwnSb B w v M) (hk : KT Ts w w') (h1 : 63 ∉ Ts) (h2 : 3 ∉ Ts) : OwnSb B w' v M := ⟨hk.ownR h.1 h1, fun x hx => hk.ownI (h.2 x hx) h2⟩
theorem KT.one (hk : Kept (· = g) w w') (hb : BlkAt T w g cs) : KT [T] w w' := ⟨_, hk, by rintro k rfl; exact ⟨cs, T, (0, 0), hb, by simp⟩⟩
theorem OwnSl.below {M : List SlV} (h : OwnSl B w v M) (hb : Below w.heap.size w w') : OwnSl B w' v M := h.turn (Ts := []) (KT.ofBelow hb) (by simp) (by simp)
theorem OwnSb.below {M : List SbV} (h : OwnSb B w v M) (hb : Below w.heap.size w w') : OwnSb B w' v M := h.turn (Ts := []) (KT.ofBelow hb) (by simp) (by simp)
theorem OwnSl.nil (B : Nat) (w : World) : OwnSl B w (.slice none 0 0) [] := ⟨World.ownsRow_nil _ _ _ _, fun x hx => by simp at hx⟩
theorem OwnSb.nil (B : Nat) (w : World) : OwnSb B w (.slice none 0 0) [] := ⟨World.ownsRow_nil _ _ _ _, fun x hx => by simp at hx⟩
/-- what an append to a row of one's own changes -/
theorem kt_grown {k : Nat} {xs : List Value} (ho : w.ownsRow B T k v n xs) (hg : w.grownBy w' v.ownBlock) : KT [T] w w' := by
  rcases ho.2 with ⟨rfl, _⟩ | ⟨r, cap, cur, rfl, hb, hr, _⟩
  · exact ⟨fun _ => False, ⟨hg.os, hg.tape, hg.output, hg.size, fun j hj _ => hg.block j hj (by simp [Value.ownBlock])⟩, fun _ e => e.elim⟩
  · exact ⟨(· = r), ⟨hg.os, hg.tape, hg.output, hg.size, fun j hj hn => hg.block j hj (by simpa [Value.ownBlock] using fun e => hn (by first | exact e | exact e.symm))⟩, by rintro j rfl; exact ⟨cur, T, (0, 0), hr, by simp⟩⟩
end
theorem slC_one (x : SlV) (h1 : x.2.1.oneCell' = true) (h2 : x.2.2.oneCell' = true) : ∀ u ∈ slC x, u.oneCell' = true := by
  intro u hu
  simp only [slC, List.mem_cons, List.not_mem_nil, or_false] at hu
  rcases hu with rfl | rfl | rfl | rfl
  · rfl
  · exact h1
  · rfl
  · exact h2
theorem sbC_one (x : SbV) (h1 : x.2.oneCell' = true) : ∀ u ∈ sbC x, u.oneCell' = true := by
  intro u hu
  simp only [sbC, List.mem_cons, List.not_mem_nil, or_false] at hu
  rcases hu with rfl | rfl | rfl | rfl | rfl
  · rfl
  · rfl
  · rfl
  · rfl
  · exact h1
theorem slice_one {B : Nat} {w : World} {v : Value} {l : List Int} (h : OwnI B w v l) : v.oneCell' = true := by
  obtain ⟨ao, n, cp, rfl⟩ := h.slice
  rfl
section
variable {B : Nat} {w : World} {v : Value}
/-- one more slot: the literal's block is new in w -/
theorem run_appendSl {M : List SlV} (h : OwnSl B w v M) (x : SlV) (hx : OwnI B w x.2.1 x.1.list ∧ OwnI B w x.2.2 x.1.parts) (hn : M.length ≤ 1000) (hB : B ≤ w.heap.size) (ty : TypeId) :
    ∃ ao cap w', (Builtin.append_ #[37, 37] ty #[v, .slice (some ⟨w.heap.size, 0, none⟩) 1 1]).run Try.prog (w.alloc (.cells (slC x).toArray 59)) = .ok (.slice ao (M.length + 1) cap) w' ∧ OwnSl B w' (.slice ao (M.length + 1) cap) (M ++ [x]) ∧
      KT [59] (w.alloc (.cells (slC x).toArray 59)) w' ∧ Below B w w' := by
  obtain ⟨i0, hi, hz0, hz1, hz2⟩ := info_parts infoSl
  have hb := below_one (Below.refl w.heap.size w) (.cells (slC x).toArray 59)
  have hown := h.below hb
  have hcell : ∀ j u, (slC x)[j]? = some u → (w.alloc (.cells (slC x).toArray 59)).cell? ((⟨w.heap.size, 0, none⟩ : Addr).add j) = some u := by
    intro j u hj
    rw [plain_add, Nat.zero_add]
    exact self_cell (heap_new _ _) j u (by simpa using hj)
  obtain ⟨v', w', hr, hown', hg, _, _⟩ := run_append_own_at (P := Try.prog) (w.alloc (.cells (slC x).toArray 59)) B 37 ty 59 i0 _ 4 64 Try.underlying37 hi hz0 hz1 hz2 rfl (by decide) v M.length (M.flatMap slC) hown.1 ⟨w.heap.size, 0, none⟩ 1 1 (slC x) rfl hcell (slC_one x (slice_one hx.1) (slice_one hx.2)) (by unfold maxLen; omega) (by omega) (by rw [size_alloc]; omega)
  have hkt := kt_grown hown.1 hg
  obtain ⟨a', c', rfl, _⟩ := own_shape hown'
  refine ⟨a', c', w', hr, ⟨?_, ?_⟩, hkt, (hb.mono hB).grown hg (by first | exact hB | (rw [size_alloc]; omega) | exact Nat.le_refl _) (own_ge hown.1)⟩
  · rw [List.length_append, List.length_singleton, List.flatMap_append]
    simpa using hown'
  · intro y hy
    rcases List.mem_append.1 hy with hy | hy
    · exact ⟨hkt.ownI (hown.2 y hy).1 (by simp), hkt.ownI (hown.2 y hy).2 (by simp)⟩
    · obtain rfl : y = x := by simpa using hy
      exact ⟨hkt.ownI (hx.1.below hb) (by simp), hkt.ownI (hx.2.below hb) (by simp)⟩
theorem run_appendSb {M : List SbV} (h : OwnSb B w v M) (x : SbV) (hx : OwnI B w x.2 x.1.first) (hn : M.length ≤ 1000) (hB : B ≤ w.heap.size) (ty : TypeId) :
    ∃ ao cap w', (Builtin.append_ #[38, 38] ty #[v, .slice (some ⟨w.heap.size, 0, none⟩) 1 1]).run Try.prog (w.alloc (.cells (sbC x).toArray 63)) = .ok (.slice ao (M.length + 1) cap) w' ∧ OwnSb B w' (.slice ao (M.length + 1) cap) (M ++ [x]) ∧
      KT [63] (w.alloc (.cells (sbC x).toArray 63)) w' ∧ Below B w w' := by
  obtain ⟨i0, hi, hz0, hz1, hz2⟩ := info_parts infoSb
  have hb := below_one (Below.refl w.heap.size w) (.cells (sbC x).toArray 63)
  have hown := h.below hb
  have hcell : ∀ j u, (sbC x)[j]? = some u → (w.alloc (.cells (sbC x).toArray 63)).cell? ((⟨w.heap.size, 0, none⟩ : Addr).add j) = some u := by
    intro j u hj
    rw [plain_add, Nat.zero_add]
    exact self_cell (heap_new _ _) j u (by simpa using hj)
  obtain ⟨v', w', hr, hown', hg, _, _⟩ := run_append_own_at (P := Try.prog) (w.alloc (.cells (sbC x).toArray 63)) B 38 ty 63 i0 _ 5 48 Try.underlying38 hi hz0 hz1 hz2 rfl (by decide) v M.length (M.flatMap sbC) hown.1 ⟨w.heap.size, 0, none⟩ 1 1 (sbC x) rfl hcell (sbC_one x (slice_one hx)) (by unfold maxLen; omega) (by omega) (by rw [size_alloc]; omega)
  have hkt := kt_grown hown.1 hg
  obtain ⟨a', c', rfl, _⟩ := own_shape hown'
  refine ⟨a', c', w', hr, ⟨?_, ?_⟩, hkt, (hb.mono hB).grown hg (by first | exact hB | (rw [size_alloc]; omega) | exact Nat.le_refl _) (own_ge hown.1)⟩
  · rw [List.length_append, List.length_singleton, List.flatMap_append]
    simpa using hown'
  · intro y hy
    rcases List.mem_append.1 hy with hy | hy
    · exact hkt.ownI (hown.2 y hy) (by simp)
    · obtain rfl : y = x := by simpa using hy
      exact hkt.ownI (hx.below hb) (by simp)
theorem wpList_appendSl {ops : Array Oper} {rest : List Oper} {o : Oper} {a : Act} {Q : Exit → Act → World → Prop} (hgd : o.guard = none) (s y : Operand)
    (ho : o.op = .call { callee := .builtin .append, args := #[s, y], argTypes := #[37, 37] })
    (B : Nat) (v : Value) (M : List SlV) (x : SlV) (hs : a.eval s = v) (hy : a.eval y = .slice (some ⟨w.heap.size, 0, none⟩) 1 1) (h : OwnSl B w v M) (hx : OwnI B w x.2.1 x.1.list ∧ OwnI B w x.2.2 x.1.parts) (hn : M.length ≤ 1000) (hB : B ≤ w.heap.size)
    (hK : ∀ ao cap w', OwnSl B w' (.slice ao (M.length + 1) cap) (M ++ [x]) → KT [59] (w.alloc (.cells (slC x).toArray 59)) w' → Below B w w' → wpList Try.prog ops Q rest (a.put o.dst (.slice ao (M.length + 1) cap)) w') :
    wpList Try.prog ops Q (o :: rest) a (w.alloc (.cells (slC x).toArray 59)) := by
  refine wpList_plain hgd fun K hK' => ?_
  obtain ⟨ao, cap, w', hr, h1, h2, h3⟩ := run_appendSl h x hx hn hB o.type
  unfold Oper.wp execOp
  simp only [ho, resolve, invoke, builtin, Sem.run_bind, Sem.run_pure, Result.andThen_ok, List.map_toArray, List.map_cons, List.map_nil, hs, hy, hr]
  exact hK' _ _ (hK _ _ _ h1 h2 h3)
theorem wpList_appendSb {ops : Array Oper} {rest : List Oper} {o : Oper} {a : Act} {Q : Exit → Act → World → Prop} (hgd : o.guard = none) (s y : Operand)
    (ho : o.op = .call { callee := .builtin .append, args := #[s, y], argTypes := #[38, 38] })
    (B : Nat) (v : Value) (M : List SbV) (x : SbV) (hs : a.eval s = v) (hy : a.eval y = .slice (some ⟨w.heap.size, 0, none⟩) 1 1) (h : OwnSb B w v M) (hx : OwnI B w x.2 x.1.first) (hn : M.length ≤ 1000) (hB : B ≤ w.heap.size)
    (hK : ∀ ao cap w', OwnSb B w' (.slice ao (M.length + 1) cap) (M ++ [x]) → KT [63] (w.alloc (.cells (sbC x).toArray 63)) w' → Below B w w' → wpList Try.prog ops Q rest (a.put o.dst (.slice ao (M.length + 1) cap)) w') :
    wpList Try.prog ops Q (o :: rest) a (w.alloc (.cells (sbC x).toArray 63)) := by
  refine wpList_plain hgd fun K hK' => ?_
  obtain ⟨ao, cap, w', hr, h1, h2, h3⟩ := run_appendSb h x hx hn hB o.type
  unfold Oper.wp execOp
  simp only [ho, resolve, invoke, builtin, Sem.run_bind, Sem.run_pure, Result.andThen_ok, List.map_toArray, List.map_cons, List.map_nil, hs, hy, hr]
  exact hK' _ _ (hK _ _ _ h1 h2 h3)
end
end Go.Proofs.Ytnnfmlbgoplnaaa
