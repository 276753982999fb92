/-
  copy, of pages; slices.Repeat of one page; math/bits.Mul by one.
-/
import Derived.Test.YtpohfecbogppkaaFrees
import Derived.Laws.MakeOwn
import Derived.Laws.CopyOwn
import Derived.Laws.Bits64b
import Derived.Deep.RegionLaw
set_option linter.unusedVariables false
set_option linter.unusedSimpArgs false
namespace Go.Proofs.Ytpohfecbogppkaa
open Go Go.RowKit

theorem makeP (n : Nat) (hn : n ≤ 10000) : ∃ O : Obj, (∀ w : World, (Instr.makeSlice 37 (.int .i64 (n : Int)) (.int .i64 (n : Int))).run Try.prog w = .ok (.slice (some ⟨w.heap.size, 0, none⟩) n n) (w.alloc O)) ∧ ∀ w : World, TabIs (w.alloc O) w.heap.size n (fun _ => pz) := by
  obtain ⟨i0, hi, hz0, hz1, hz2⟩ := info_parts infoP
  refine ⟨.cells (madeCells (Value.agg #[.int .i64 0, .int .i64 0, .int .i64 0]).cells (n * 3)) 51, fun w => ?_, fun w => ⟨_, heap_new w _, fun i hi => ?_⟩⟩
  · have h := run_make (P := Try.prog) w 37 51 i0 _ Try.underlying37 hi hz0 .i64 .i64 (n : Int) (n : Int) (by omega) (Int.le_refl _) (by rw [hz2]; omega) (by omega)
    rw [hz1] at h
    simpa using h
  · have hsz : (Value.agg #[.int .i64 0, .int .i64 0, .int .i64 0]).cells.size = 3 := rfl
    have key : ∀ j, j < n * 3 → (madeCells (Value.agg #[.int .i64 0, .int .i64 0, .int .i64 0]).cells (n * 3))[j]? = some (.int .i64 0) := by
      intro j hj
      have h3 : j % 3 < 3 := Nat.mod_lt _ (by decide)
      simp only [madeCells, Array.getElem?_map, Array.getElem?_range, hj, if_true, Option.map_some, hsz]
      rcases (by omega : j % 3 = 0 ∨ j % 3 = 1 ∨ j % 3 = 2) with h | h | h <;> rw [h] <;> rfl
    exact ⟨key _ (by omega), key _ (by omega), key _ (by omega)⟩
theorem plain_add (b o j : Nat) : (⟨b, o, none⟩ : Addr).add j = ⟨b, o + j, none⟩ := by
  by_cases h0 : j = 0
  · subst h0; rfl
  · simp [Addr.add, h0]
/-- pages are copied into a table: N of them, from page k on -/
theorem run_copy3 {w : World} {g n k N b o dLen dCap sLen sCap : Nat} {f h : Nat → Pg} (ty : TypeId) (ht : TabIs w g n f) (hN : N = Nat.min sLen dLen) (hfit : k + N ≤ n)
    (hsrc : ∀ j, j < N → w.cell? ⟨b, o + j * 3, none⟩ = some (.int .i64 (h j).kind) ∧ w.cell? ⟨b, o + j * 3 + 1, none⟩ = some (.int .i64 (h j).order) ∧ w.cell? ⟨b, o + j * 3 + 2, none⟩ = some (.int .i64 (h j).cache)) :
    ∃ w', (Builtin.copy_ #[37, 37] ty #[.slice (some ⟨g, k * 3, none⟩) dLen dCap, .slice (some ⟨b, o, none⟩) sLen sCap]).run Try.prog w = .ok (goInt N) w' ∧
      TabIs w' g n (fun i => if k ≤ i ∧ i < k + N then h (i - k) else f i) ∧ ∀ (B : Nat) (w0 : World), Below B w0 w → B ≤ g → Below B w0 w' := by
  obtain ⟨c, hb, hc⟩ := ht
  obtain ⟨i0, hi, hz0, hz1, hz2⟩ := info_parts infoP
  have hlen : (pgs (mk N h)).length = N * 3 := by rw [pgs_length, mk_length]
  have hcells : ∀ j v, (pgs (mk N h))[j]? = some v → w.cell? ((⟨b, o, none⟩ : Addr).add j) = some v := by
    intro j v hj
    have hlt := (List.getElem?_eq_some_iff.1 hj).1
    rw [hlen] at hlt
    obtain ⟨q, r, rfl, hr⟩ : ∃ q r, j = q * 3 + r ∧ r < 3 := ⟨j / 3, j % 3, by omega, by omega⟩
    have hq : q < N := by omega
    rw [pgs_at (mk N h) q r (by rw [mk_length]; exact hq) hr] at hj
    obtain ⟨s0, s1, s2⟩ := hsrc q hq
    have he : (mk N h)[q]'(by rw [mk_length]; exact hq) = h q := by rw [pg_at _ _ (by rw [mk_length]; exact hq), pg_mk _ hq]
    rw [plain_add]
    simp only [he] at hj
    match r, hr with
    | 0, _ => rw [Nat.add_zero, s0]; simpa [Pg.cells] using hj
    | 1, _ => rw [← Nat.add_assoc, s1]; simpa [Pg.cells] using hj
    | 2, _ => rw [← Nat.add_assoc, s2]; simpa [Pg.cells] using hj
  have hsize : n = 0 ∨ n * 3 ≤ c.size := by
    by_cases h0 : n = 0
    · exact .inl h0
    · right
      have := (Array.getElem?_eq_some_iff.1 (hc (n - 1) (by omega)).2.2).1
      omega
  have hfit3 : k * 3 + (pgs (mk N h)).length ≤ c.size ∨ N = 0 := by
    rw [hlen]
    omega
  have h1 := pgs_one (mk N h)
  have hl := run_loadCells_list (P := Try.prog) w ⟨b, o, none⟩ (pgs (mk N h)) hcells
  rw [hlen] at hl
  by_cases hN0 : N = 0
  · subst hN0
    refine ⟨w, ?_, ⟨c, hb, fun i hi => by dsimp only; rw [if_neg (by omega)]; exact hc i hi⟩, fun B w0 hB _ => hB⟩
    have e0 : (loadCells ⟨b, o, none⟩ 0).run Try.prog w = .ok #[] w := by simpa using run_loadCells_list (P := Try.prog) w ⟨b, o, none⟩ [] (by simp)
    simp [Builtin.copy_, run_underlying Try.underlying37, Builtin.lenOf, Builtin.firstCells, sizeOf, typeInfo, hi, hz1, ← hN, e0, storeCells]
  · have hst := run_storeCells_at Try.prog g (k * 3) _ (pgs (mk N h)) 0 c w hb (by omega) h1
    refine ⟨w.setRow g (c.toList.take (k * 3 + 0) ++ pgs (mk N h) ++ c.toList.drop (k * 3 + 0 + (pgs (mk N h)).length)).toArray, ?_, ⟨_, setRow_heap w g _ _ _ _ hb, fun i hi => ?_⟩, fun B w0 hB hBg => below_setRow hB hBg _⟩
    · simp [Builtin.copy_, run_underlying Try.underlying37, Builtin.lenOf, Builtin.firstCells, sizeOf, typeInfo, hi, hz1, ← hN, hl, hst]
    · have key : ∀ r, r < 3 → (c.toList.take (k * 3 + 0) ++ pgs (mk N h) ++ c.toList.drop (k * 3 + 0 + (pgs (mk N h)).length)).toArray[i * 3 + r]? = if k ≤ i ∧ i < k + N then (pgs (mk N h))[(i - k) * 3 + r]? else c[i * 3 + r]? := by
        intro r hr
        rw [List.getElem?_toArray, Nat.add_zero]
        have hkl : k * 3 ≤ c.size := by omega
        by_cases h2 : i < k
        · rw [if_neg (by omega), List.append_assoc, List.getElem?_append_left (by simp; omega), List.getElem?_take, if_pos (by omega)]
          simp
        · by_cases h3 : i < k + N
          · rw [if_pos (by omega), List.append_assoc, List.getElem?_append_right (by simp; omega), List.getElem?_append_left (by rw [hlen]; simp; omega)]
            congr 1
            simp
            omega
          · rw [if_neg (by omega), List.getElem?_append_right (by rw [List.length_append, hlen]; simp; omega), List.getElem?_drop, List.length_append, hlen]
            rw [show k * 3 + N * 3 + (i * 3 + r - ((List.take (k * 3) c.toList).length + N * 3)) = i * 3 + r by simp; omega]
            simp
      dsimp only
      have k0 := key 0 (by omega)
      have k1 := key 1 (by omega)
      have k2 := key 2 (by omega)
      rw [Nat.add_zero] at k0
      by_cases h2 : k ≤ i ∧ i < k + N
      · rw [if_pos h2] at k0 k1 k2 ⊢
        have hq : i - k < N := by omega
        have he : (mk N h)[i - k]'(by rw [mk_length]; exact hq) = h (i - k) := by rw [pg_at _ _ (by rw [mk_length]; exact hq), pg_mk _ hq]
        rw [pgs_at (mk N h) (i - k) 0 (by rw [mk_length]; exact hq) (by decide), he] at k0
        rw [pgs_at (mk N h) (i - k) 1 (by rw [mk_length]; exact hq) (by decide), he] at k1
        rw [pgs_at (mk N h) (i - k) 2 (by rw [mk_length]; exact hq) (by decide), he] at k2
        exact ⟨k0, k1, k2⟩
      · rw [if_neg h2] at k0 k1 k2 ⊢
        obtain ⟨c0, c1, c2⟩ := hc i hi
        exact ⟨k0.trans c0, k1.trans c1, k2.trans c2⟩
theorem wpList_copy3 {w : World} {ops : Array Oper} {rest : List Oper} {oo : Oper} {a : Act} {Q : Exit → Act → World → Prop} (hgd : oo.guard = none) (d s : Operand)
    (ho : oo.op = .call { callee := .builtin .copy, args := #[d, s], argTypes := #[37, 37] })
    {g n k N b o dLen dCap sLen sCap : Nat} {f h : Nat → Pg} (hd : a.eval d = .slice (some ⟨g, k * 3, none⟩) dLen dCap) (hs : a.eval s = .slice (some ⟨b, o, none⟩) sLen sCap)
    (ht : TabIs w g n f) (hN : N = Nat.min sLen dLen) (hfit : k + N ≤ n)
    (hsrc : ∀ j, j < N → w.cell? ⟨b, o + j * 3, none⟩ = some (.int .i64 (h j).kind) ∧ w.cell? ⟨b, o + j * 3 + 1, none⟩ = some (.int .i64 (h j).order) ∧ w.cell? ⟨b, o + j * 3 + 2, none⟩ = some (.int .i64 (h j).cache))
    (hK : ∀ w', TabIs w' g n (fun i => if k ≤ i ∧ i < k + N then h (i - k) else f i) → (∀ (B : Nat) (w0 : World), Below B w0 w → B ≤ g → Below B w0 w') → wpList Try.prog ops Q rest (a.put oo.dst (.int .i64 N)) w') : wpList Try.prog ops Q (oo :: rest) a w := by
  obtain ⟨w', hrun, h1, h2⟩ := run_copy3 (dCap := dCap) (sCap := sCap) oo.type ht hN hfit hsrc
  refine wpList_plain hgd fun K hK2 => ?_
  unfold Oper.wp
  simp [execOp, ho, resolve, invoke, builtin, hd, hs, hrun, Result.andThen]
  exact hK2 _ _ (hK w' h1 h2)
theorem step_copy3 {w : World} {ops : Array Oper} {oo : Oper} {a : Act} {K : Act → World → Prop} {Q : Exit → Act → World → Prop} {E : Prop} (hgd : oo.guard = none) (d s : Operand)
    (ho : oo.op = .call { callee := .builtin .copy, args := #[d, s], argTypes := #[37, 37] })
    {g n k N b o dLen dCap sLen sCap : Nat} {f h : Nat → Pg} (hd : a.eval d = .slice (some ⟨g, k * 3, none⟩) dLen dCap) (hs : a.eval s = .slice (some ⟨b, o, none⟩) sLen sCap)
    (ht : TabIs w g n f) (hN : N = Nat.min sLen dLen) (hfit : k + N ≤ n)
    (hsrc : ∀ j, j < N → w.cell? ⟨b, o + j * 3, none⟩ = some (.int .i64 (h j).kind) ∧ w.cell? ⟨b, o + j * 3 + 1, none⟩ = some (.int .i64 (h j).order) ∧ w.cell? ⟨b, o + j * 3 + 2, none⟩ = some (.int .i64 (h j).cache))
    (hK : ∀ w', TabIs w' g n (fun i => if k ≤ i ∧ i < k + N then h (i - k) else f i) → (∀ (B : Nat) (w0 : World), Below B w0 w → B ≤ g → Below B w0 w') → K (a.put oo.dst (.int .i64 N)) w') :
    if Region.wanted oo (yielded ops a.tmps) = true then Oper.wp Try.prog oo a w K Q else E := by
  have hw : Region.wanted oo (yielded ops a.tmps) = true := by simp [Region.wanted, hgd]
  rw [if_pos hw]
  obtain ⟨w', hrun, h1, h2⟩ := run_copy3 (dCap := dCap) (sCap := sCap) oo.type ht hN hfit hsrc
  unfold Oper.wp
  simp [execOp, ho, resolve, invoke, builtin, hd, hs, hrun, Result.andThen]
  exact hK w' h1 h2
end Go.Proofs.Ytpohfecbogppkaa
