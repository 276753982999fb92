/-
  copy, of accounts; slices.Repeat of one account; New of the program's counters.
-/
import Derived.Test.YtahkfagfobfliaaCv
import Derived.Laws.MakeOwn
import Derived.Laws.CopyOwn
import Derived.Laws.Bits64b
import Derived.Deep.RegionLaw
set_option linter.unusedVariables false
set_option linter.unusedSimpArgs false
namespace Go.Proofs.Ytahkfagfobfliaa
open Go Go.RowKit

theorem infoA : (Try.prog.info? 49).map (fun i => (i.zero, i.size, i.bytes)) = some (some (.agg #[.int .i64 0, .int .i64 0]), 2, 16) := by kernel_rfl
theorem makeA (n : Nat) (hn : n ≤ 10000) : ∃ O : Obj, (∀ w : World, (Instr.makeSlice 43 (.int .i64 (n : Int)) (.int .i64 (n : Int))).run Try.prog w = .ok (.slice (some ⟨w.heap.size, 0, none⟩) n n) (w.alloc O)) ∧ ∀ w : World, RowG (w.alloc O) w.heap.size 49 (n * 2) (fun _ => .int .i64 0) := by
  obtain ⟨i0, hi, hz0, hz1, hz2⟩ := info_parts infoA
  refine ⟨.cells (madeCells (Value.agg #[.int .i64 0, .int .i64 0]).cells (n * 2)) 49, fun w => ?_, fun w => ⟨_, heap_new w _, fun j hj => ?_⟩⟩
  · have h := run_make (P := Try.prog) w 43 49 i0 _ Try.underlying43 hi hz0 .i64 .i64 (n : Int) (n : Int) (by omega) (Int.le_refl _) (by rw [hz2]; omega) (by omega)
    rw [hz1] at h
    simpa using h
  · have hsz : (Value.agg #[.int .i64 0, .int .i64 0]).cells.size = 2 := rfl
    have h3 : j % 2 < 2 := Nat.mod_lt _ (by decide)
    simp only [madeCells, Array.getElem?_map, Array.getElem?_range, hj, if_true, Option.map_some, hsz]
    rcases (by omega : j % 2 = 0 ∨ j % 2 = 1) with h | h <;> rw [h] <;> rfl
/-- accounts are copied into a row: N of them, from the k-th on -/
theorem run_copyA {w : World} {g n k N b o dLen dCap sLen sCap : Nat} {f h : Nat → Value} (ty : TypeId) (ht : RowG w g 49 (n * 2) f) (hN : N = Nat.min sLen dLen) (hfit : k + N ≤ n) (h1 : ∀ j, (h j).oneCell' = true)
    (hsrc : ∀ j, j < N * 2 → w.cell? ⟨b, o + j, none⟩ = some (h j)) :
    ∃ w', (Builtin.copy_ #[43, 43] ty #[.slice (some ⟨g, k * 2, none⟩) dLen dCap, .slice (some ⟨b, o, none⟩) sLen sCap]).run Try.prog w = .ok (goInt N) w' ∧
      RowG w' g 49 (n * 2) (fun i => if k * 2 ≤ i ∧ i < k * 2 + N * 2 then h (i - k * 2) else f i) ∧ ∀ (B : Nat) (w0 : World), Below B w0 w → B ≤ g → Below B w0 w' := by
  obtain ⟨c, hb, hc⟩ := ht
  obtain ⟨i0, hi, hz0, hz1, hz2⟩ := info_parts infoA
  obtain ⟨X, hX⟩ : ∃ X, (List.range (N * 2)).map h = X := ⟨_, rfl⟩
  have hlen : X.length = N * 2 := by rw [← hX]; simp
  have hXat : ∀ j, j < N * 2 → X[j]? = some (h j) := fun j hj => by rw [← hX]; simp [hj]
  have hone : ∀ u ∈ X, u.oneCell' = true := by
    intro u hu
    rw [← hX] at hu
    obtain ⟨j, _, rfl⟩ := List.mem_map.1 hu
    exact h1 j
  have hcells : ∀ j v, X[j]? = some v → w.cell? ((⟨b, o, none⟩ : Addr).add j) = some v := by
    intro j v hj
    have hlt := (List.getElem?_eq_some_iff.1 hj).1
    rw [hlen] at hlt
    rw [plain_add, hsrc j hlt, ← hj, hXat j hlt]
  have hl := run_loadCells_list (P := Try.prog) w ⟨b, o, none⟩ X hcells
  rw [hlen] at hl
  by_cases hN0 : N = 0
  · subst hN0
    refine ⟨w, ?_, ⟨c, hb, fun i hi => by dsimp only; rw [if_neg (by omega)]; exact hc i hi⟩, fun B w0 hB _ => hB⟩
    have e0 : (loadCells ⟨b, o, none⟩ 0).run Try.prog w = .ok #[] w := by simpa using run_loadCells_list (P := Try.prog) w ⟨b, o, none⟩ [] (by simp)
    simp [Builtin.copy_, run_underlying Try.underlying43, Builtin.lenOf, Builtin.firstCells, sizeOf, typeInfo, hi, hz1, ← hN, e0, storeCells]
  · have hsize : n * 2 ≤ c.size := by
      have := (Array.getElem?_eq_some_iff.1 (hc (n * 2 - 1) (by omega))).1
      omega
    have hst := run_storeCells_at Try.prog g (k * 2) _ X 0 c w hb (by omega) hone
    refine ⟨w.setRow g (c.toList.take (k * 2 + 0) ++ X ++ c.toList.drop (k * 2 + 0 + X.length)).toArray, ?_, ⟨_, setRow_heap w g _ _ _ _ hb, fun i hi => ?_⟩, fun B w0 hB hBg => below_setRow hB hBg _⟩
    · simp [Builtin.copy_, run_underlying Try.underlying43, Builtin.lenOf, Builtin.firstCells, sizeOf, typeInfo, hi, hz1, ← hN, hl, hst]
    · rw [List.getElem?_toArray, Nat.add_zero]
      dsimp only
      have hkl : k * 2 ≤ c.size := by omega
      by_cases h2 : i < k * 2
      · rw [if_neg (by omega), List.append_assoc, List.getElem?_append_left (by simp; omega), List.getElem?_take, if_pos (by omega)]
        simpa using hc i hi
      · by_cases h3 : i < k * 2 + N * 2
        · rw [if_pos (by omega), List.append_assoc, List.getElem?_append_right (by simp; omega), List.getElem?_append_left (by rw [hlen]; simp; omega)]
          rw [← hXat (i - k * 2) (by omega)]
          congr 1
          simp
          omega
        · rw [if_neg (by omega), List.getElem?_append_right (by rw [List.length_append, hlen]; simp; omega), List.getElem?_drop, List.length_append, hlen]
          rw [show k * 2 + N * 2 + (i - ((List.take (k * 2) c.toList).length + N * 2)) = i by simp; omega]
          simpa using hc i hi
theorem wpList_copyA {w : World} {ops : Array Oper} {rest : List Oper} {oo : Oper} {a : Act} {Q : Exit → Act → World → Prop} (hgd : oo.guard = none) (d s : Operand)
    (ho : oo.op = .call { callee := .builtin .copy, args := #[d, s], argTypes := #[43, 43] })
    {g n k N b o dLen dCap sLen sCap : Nat} {f h : Nat → Value} (hd : a.eval d = .slice (some ⟨g, k * 2, none⟩) dLen dCap) (hs : a.eval s = .slice (some ⟨b, o, none⟩) sLen sCap)
    (ht : RowG w g 49 (n * 2) f) (hN : N = Nat.min sLen dLen) (hfit : k + N ≤ n) (h1 : ∀ j, (h j).oneCell' = true)
    (hsrc : ∀ j, j < N * 2 → w.cell? ⟨b, o + j, none⟩ = some (h j))
    (hK : ∀ w', RowG w' g 49 (n * 2) (fun i => if k * 2 ≤ i ∧ i < k * 2 + N * 2 then h (i - k * 2) else f i) → (∀ (B : Nat) (w0 : World), Below B w0 w → B ≤ g → Below B w0 w') → wpList Try.prog ops Q rest (a.put oo.dst (.int .i64 N)) w') : wpList Try.prog ops Q (oo :: rest) a w := by
  obtain ⟨w', hrun, h1, h2⟩ := run_copyA (dCap := dCap) (sCap := sCap) oo.type ht hN hfit h1 hsrc
  refine wpList_plain hgd fun K hK2 => ?_
  unfold Oper.wp
  simp [execOp, ho, resolve, invoke, builtin, hd, hs, hrun, Result.andThen]
  exact hK2 _ _ (hK w' h1 h2)
theorem step_copyA {w : World} {ops : Array Oper} {oo : Oper} {a : Act} {K : Act → World → Prop} {Q : Exit → Act → World → Prop} {E : Prop} (hgd : oo.guard = none) (d s : Operand)
    (ho : oo.op = .call { callee := .builtin .copy, args := #[d, s], argTypes := #[43, 43] })
    {g n k N b o dLen dCap sLen sCap : Nat} {f h : Nat → Value} (hd : a.eval d = .slice (some ⟨g, k * 2, none⟩) dLen dCap) (hs : a.eval s = .slice (some ⟨b, o, none⟩) sLen sCap)
    (ht : RowG w g 49 (n * 2) f) (hN : N = Nat.min sLen dLen) (hfit : k + N ≤ n) (h1 : ∀ j, (h j).oneCell' = true)
    (hsrc : ∀ j, j < N * 2 → w.cell? ⟨b, o + j, none⟩ = some (h j))
    (hK : ∀ w', RowG w' g 49 (n * 2) (fun i => if k * 2 ≤ i ∧ i < k * 2 + N * 2 then h (i - k * 2) else f i) → (∀ (B : Nat) (w0 : World), Below B w0 w → B ≤ g → Below B w0 w') → K (a.put oo.dst (.int .i64 N)) w') :
    if Region.wanted oo (yielded ops a.tmps) = true then Oper.wp Try.prog oo a w K Q else E := by
  have hw : Region.wanted oo (yielded ops a.tmps) = true := by simp [Region.wanted, hgd]
  rw [if_pos hw]
  obtain ⟨w', hrun, h1, h2⟩ := run_copyA (dCap := dCap) (sCap := sCap) oo.type ht hN hfit h1 hsrc
  unfold Oper.wp
  simp [execOp, ho, resolve, invoke, builtin, hd, hs, hrun, Result.andThen]
  exact hK w' h1 h2
theorem mask_small (n : Nat) (h : n ≤ 1024) : Go.bits .and .u64 (n : Int) 4294967295 = (n : Int) := by
  have h1 := bits_and_u64_nat n 4294967295 (by omega) (by omega)
  have e : n &&& 4294967295 = n % 4294967296 := Nat.and_two_pow_sub_one_eq_mod n 32
  rw [e, Nat.mod_eq_of_lt (by omega)] at h1
  exact h1
set_option maxHeartbeats 2000000 in
theorem cMul64 (n : Nat) (h1 : 1 ≤ n) (h : n ≤ 1024) (w : World) :
    Calls Try.prog 45 #[.int .u64 1, .int .u64 n] w fun e w' => e = .returned (.tuple #[.int .u64 0, .int .u64 n]) ∧ w' = w := by
  have m1 : Go.bits .and .u64 1 4294967295 = 1 := mask_small 1 (by omega)
  have m0 : Go.bits .and .u64 0 4294967295 = 0 := mask_small 0 (by omega)
  have mn := mask_small n h
  have d1 : (n : Int) / 4294967296 = 0 := by omega
  go_enter Try.func45, Try.ntmps45
  go_wp2
  go_ret2
  exact ⟨rfl, rfl⟩
set_option maxHeartbeats 2000000 in
theorem cMul (n : Nat) (h1 : 1 ≤ n) (h : n ≤ 1024) (w : World) :
    Calls Try.prog 36 #[.int .u64 1, .int .u64 n] w fun e w' => e = .returned (.tuple #[.int .u64 0, .int .u64 n]) ∧ w' = w := by
  go_enter Try.func36, Try.ntmps36
  go_wp2_with (go_at_call 45; refine (cMul64 n h1 h _).mono ?_; rintro e w' ⟨rfl, rfl⟩)
  go_ret2
  exact ⟨rfl, rfl⟩
/-- one account, over and over -/
def repF (a b : Int) (j : Nat) : Value := .int .i64 (if j % 2 = 0 then a else b)
set_option maxHeartbeats 1000000 in
set_option maxRecDepth 100000 in
theorem cRepeat (a c : Int) (b n : Nat) (h1 : 1 ≤ n) (hn : n ≤ 1024) (w : World) (hs : w.cell? ⟨b, 0, none⟩ = some (.int .i64 a) ∧ w.cell? ⟨b, 1, none⟩ = some (.int .i64 c)) :
    Calls Try.prog 23 #[.slice (some ⟨b, 0, none⟩) 1 1, .int .i64 n] w fun e w' => ∃ g, e = .returned (.slice (some ⟨g, 0, none⟩) n n) ∧ w.heap.size ≤ g ∧ RowG w' g 49 (n * 2) (repF a c) ∧ Below w.heap.size w w' := by
  obtain ⟨O, hO, hr⟩ := makeA n (by omega)
  have HS := Lib.hid hs
  have HR := Lib.hid hr
  have HO1 : Hid (∀ j, (repF a c j).oneCell' = true) := Lib.hid (fun _ => rfl)
  clear hs hr
  go_enter Try.func23, Try.ntmps23
  go_wp2_with fail
  refine (cMul n h1 hn _).mono ?_
  rintro e w' ⟨rfl, rfl⟩
  have ht0 := HR.out w'
  have hsrc : ∀ j, j < 1 * 2 → (w'.alloc O).cell? ⟨b, 0 + j, none⟩ = some (repF a c j) := fun j hj => by
    rcases (by omega : j = 0 ∨ j = 1) with rfl | rfl
    · exact cell_keep (below_one (Below.refl _ _) _) HS.out.1
    · exact cell_keep (below_one (Below.refl _ _) _) HS.out.2
  have HSRC := Lib.hid hsrc
  have HT0 := Lib.hid ht0
  clear hsrc ht0
  go_wp2_with (refine wpList_copyA (by rfl) (.tmp 31) (.tmp 32) (by rfl) (g := w'.heap.size) (n := n) (k := 0) (N := 1) (b := b) (o := 0) (dLen := n) (dCap := n) (sLen := 1) (sCap := 1) (f := fun _ => .int .i64 0) (h := repF a c) (by first | rfl | simp) (by rfl) HT0.out (by simp [Nat.min_def]; omega) (by omega) HO1.out HSRC.out ?_)
  intro w2 ht hbk
  have hb2 : Below w'.heap.size w' w2 := hbk _ _ (below_one (Below.refl _ _) _) (Nat.le_refl _)
  have HT1 : Hid (∃ f, RowG w2 w'.heap.size 49 (n * 2) f ∧ ∀ i, i < 1 * 2 → f i = repF a c i) := Lib.hid ⟨_, ht, fun i hi => by
    rw [if_pos (by omega)]⟩
  have HB2 := Lib.hid hb2
  clear ht hbk hb2
  go_wp2
  go_wp2
  go_loopw [8] (fun x wr => ∃ k : Nat, 1 ≤ k ∧ k ≤ n ∧ x = .int .i64 k ∧ Hid (∃ f, RowG wr w'.heap.size 49 (n * 2) f ∧ ∀ i, i < k * 2 → f i = repF a c i) ∧ Hid (Below w'.heap.size w' wr)) (fun x _ => n - (intOf x).toNat)
  case atStart => exact ⟨1, by omega, h1, by first | rfl | go_num, HT1, HB2⟩
  case round =>
    obtain ⟨k, hk1, hk2, rfl, HTK, HBK⟩ := hrel
    by_cases hlt : k < n
    · obtain ⟨f, htf, hpin⟩ := HTK.out
      obtain ⟨N, hN⟩ : ∃ N, N = Nat.min k (n - k) := ⟨_, rfl⟩
      have hN1 : 1 ≤ N ∧ N ≤ k ∧ k + N ≤ n := by rw [hN]; simp only [Nat.min_def]; split <;> omega
      have HN := Lib.hid hN
      have hsum : IntKind.i64.wrap ((k : Int) + (N : Int)) = (k : Int) + (N : Int) := IntWalk.i64_in _ (by omega)
      have HSRC : Hid (∀ j, j < N * 2 → wr.cell? ⟨w'.heap.size, 0 + j, none⟩ = some (repF a c j)) := Lib.hid (fun j hj => by
        rw [Nat.zero_add, htf.cell (by omega), hpin j (by omega)])
      have HTF := Lib.hid htf
      have HP := Lib.hid hpin
      clear hN htf hpin
      have b0 : (0 : Int) ≤ (k : Int) := by omega
      have b1 : (k : Int) ≤ (n : Int) := by omega
      have b2 : (k : Int) < (n : Int) := by omega
      have b3 : ¬ n = k := by omega
      have b4 : n - k ≠ 0 := by omega
      clear HR HS
      go_wp2
      go_region_held3 (fun W => True) (trivial) (first | (refine step_copyA rfl (.tmp 41) (.tmp 44) rfl (g := w'.heap.size) (n := n) (k := k) (N := N) (b := w'.heap.size) (o := 0) (dLen := n - k) (dCap := n - k) (sLen := k) (sCap := n) (f := f) (h := repF a c) (by kernel_rfl) (by kernel_rfl) HTF.out HN.out (by omega) HO1.out HSRC.out ?_; intro w4 ht4 hb4))
      go_wp2
      go_roundw
      case rel => exact ⟨k + N, by omega, by omega, by go_num, Lib.hid ⟨_, ht4, fun i hi => by
        split
        · unfold repF
          rw [show (i - k * 2) % 2 = i % 2 by omega]
        · exact HP.out i (by omega)⟩, Lib.hid (hb4 _ _ HBK.out.drew (Nat.le_refl _))⟩
      case measure => simp [intOf]; omega
    · obtain rfl : k = n := by omega
      obtain ⟨f, htf, hpin⟩ := HTK.out
      have HE := Lib.hid (htf.congr (f' := repF a c) hpin)
      clear htf hpin
      go_wp2
      go_ret
      exact ⟨_, rfl, Nat.le_refl _, HE.out, HBK.out⟩
theorem lit2 {w : World} {K : Nat} {T : TypeId} {u v : Value} (h : w.heap[K]? = some (.cells #[u, v] T (0, 0))) : w.cell? ⟨K, 0, none⟩ = some u ∧ w.cell? ⟨K, 1, none⟩ = some v := ⟨self_cell h 0 _ rfl, self_cell h 1 _ rfl⟩
theorem cv_new {w : World} {g : Nat} (h : RowG w g 49 (16 * 2) (repF 0 9007199254740991)) : CV (w.alloc (.cells #[.slice (some ⟨g, 0, none⟩) 16 16] 45)) w.heap.size g noC :=
  ⟨heap_new _ _, (h.kept (S := fun _ => False) (Kept.ofBelow (below_one (Below.refl _ _) _)) (fun e => e)).congr (fun i hi => rfl)⟩
set_option maxHeartbeats 1000000 in
theorem cNew (w : World) : Calls Try.prog 8 #[] w fun e w' => ∃ B g, e = .returned (.pointer (some ⟨B, 0, none⟩)) ∧ CV w' B g noC ∧ Below w.heap.size w w' ∧ w.heap.size ≤ B ∧ w.heap.size ≤ g := by
  have HL := Lib.hid (lit2 (heap_new w (.cells #[.int .i64 0, .int .i64 9007199254740991] 49)))
  go_enter Try.func8, Try.ntmps8
  go_wp2_with fail
  refine (cRepeat 0 9007199254740991 w.heap.size 16 (by decide) (by decide) _ HL.out).mono ?_
  rintro e w1 ⟨g, rfl, hg, ht, hb⟩
  rw [size_alloc] at hg
  have hg1 : w.heap.size ≤ g := by omega
  have hb1 := below_then (below_one (Below.refl _ w) _) hb
  have HC := Lib.hid (cv_new ht)
  have HB := Lib.hid (below_one hb1 (.cells #[.slice (some ⟨g, 0, none⟩) 16 16] 45))
  have hsz := hb1.size
  clear ht hb hb1 hg
  go_wp2
  go_ret
  exact ⟨_, g, rfl, HC.out, HB.out, hsz, hg1⟩
end Go.Proofs.Ytahkfagfobfliaa
