/-
  Pages that are whole, as the program makes them.
-/
import Derived.Test.YtlljomnpdgmifaaBFree
import Derived.Laws.MakeOwn
import Derived.Laws.CopyOwn
import Derived.Laws.Bits64b
import Derived.Deep.RegionLaw
set_option linter.unusedVariables false
set_option linter.unusedSimpArgs false
namespace Go.Proofs.Ytlljomnpdgmifaa
open Go Go.RowKit

theorem makeP (n : Nat) (hn : n ≤ 10000) : ∃ O : Obj, (∀ w : World, (Instr.makeSlice 75 (.int .i64 (n : Int)) (.int .i64 (n : Int))).run Try.prog w = .ok (.slice (some ⟨w.heap.size, 0, none⟩) n n) (w.alloc O)) ∧ ∀ w : World, TabIs (w.alloc O) w.heap.size n (fun _ => pz) := by
  obtain ⟨i0, hi, hz0, hz1, hz2⟩ := info_parts infoP
  refine ⟨.cells (madeCells (Value.agg #[.int .i64 0, .int .i64 0, .int .i64 0]).cells (n * 3)) 99, fun w => ?_, fun w => ⟨_, heap_new w _, fun i hi => ?_⟩⟩
  · have h := run_make (P := Try.prog) w 75 99 i0 _ Try.underlying75 hi hz0 .i64 .i64 (n : Int) (n : Int) (by omega) (Int.le_refl _) (by rw [hz2]; omega) (by omega)
    rw [hz1] at h
    simpa using h
  · have hsz : (Value.agg #[.int .i64 0, .int .i64 0, .int .i64 0]).cells.size = 3 := rfl
    have key : ∀ j, j < n * 3 → (madeCells (Value.agg #[.int .i64 0, .int .i64 0, .int .i64 0]).cells (n * 3))[j]? = some (.int .i64 0) := by
      intro j hj
      have h3 : j % 3 < 3 := Nat.mod_lt _ (by decide)
      simp only [madeCells, Array.getElem?_map, Array.getElem?_range, hj, if_true, Option.map_some, hsz]
      rcases (by omega : j % 3 = 0 ∨ j % 3 = 1 ∨ j % 3 = 2) with h | h | h <;> rw [h] <;> rfl
    exact ⟨key _ (by omega), key _ (by omega), key _ (by omega)⟩
set_option maxRecDepth 100000 in
/-- pages are copied into a table: N of them, from page k on -/
theorem run_copy3 {w : World} {g n k N b o dLen dCap sLen sCap : Nat} {f h : Nat → Pg} (ty : TypeId) (ht : TabIs w g n f) (hN : N = Nat.min sLen dLen) (hfit : k + N ≤ n)
    (hsrc : ∀ j, j < N → w.cell? ⟨b, o + j * 3, none⟩ = some (.int .i64 (h j).kind) ∧ w.cell? ⟨b, o + j * 3 + 1, none⟩ = some (.int .i64 (h j).order) ∧ w.cell? ⟨b, o + j * 3 + 2, none⟩ = some (.int .i64 (h j).cache)) :
    ∃ w', (Builtin.copy_ #[75, 75] ty #[.slice (some ⟨g, k * 3, none⟩) dLen dCap, .slice (some ⟨b, o, none⟩) sLen sCap]).run Try.prog w = .ok (goInt N) w' ∧
      TabIs w' g n (fun i => if k ≤ i ∧ i < k + N then h (i - k) else f i) ∧ ∀ (B : Nat) (w0 : World), Below B w0 w → B ≤ g → Below B w0 w' := by
  obtain ⟨c, hb, hc⟩ := ht
  obtain ⟨i0, hi, hz0, hz1, hz2⟩ := info_parts infoP
  have hlen : (pgs (mk N h)).length = N * 3 := by rw [pgs_length, mk_length]
  have hcells : ∀ j v, (pgs (mk N h))[j]? = some v → w.cell? ((⟨b, o, none⟩ : Addr).add j) = some v := by
    intro j v hj
    have hlt := (List.getElem?_eq_some_iff.1 hj).1
    rw [hlen] at hlt
    obtain ⟨q, r, rfl, hr⟩ : ∃ q r, j = q * 3 + r ∧ r < 3 := ⟨j / 3, j % 3, by omega, by omega⟩
    have hq : q < N := by omega
    rw [pgs_at (mk N h) q r (by rw [mk_length]; exact hq) hr] at hj
    obtain ⟨s0, s1, s2⟩ := hsrc q hq
    have he : (mk N h)[q]'(by rw [mk_length]; exact hq) = h q := by rw [pg_at _ _ (by rw [mk_length]; exact hq), pg_mk _ hq]
    rw [plain_add]
    simp only [he] at hj
    match r, hr with
    | 0, _ => rw [Nat.add_zero, s0]; simpa [Pg.cells] using hj
    | 1, _ => rw [← Nat.add_assoc, s1]; simpa [Pg.cells] using hj
    | 2, _ => rw [← Nat.add_assoc, s2]; simpa [Pg.cells] using hj
  have hsize : n = 0 ∨ n * 3 ≤ c.size := by
    by_cases h0 : n = 0
    · exact .inl h0
    · right
      have := (Array.getElem?_eq_some_iff.1 (hc (n - 1) (by omega)).2.2).1
      omega
  have hfit3 : k * 3 + (pgs (mk N h)).length ≤ c.size ∨ N = 0 := by
    rw [hlen]
    omega
  have h1 := pgs_one (mk N h)
  have hl := run_loadCells_list (P := Try.prog) w ⟨b, o, none⟩ (pgs (mk N h)) hcells
  rw [hlen] at hl
  by_cases hN0 : N = 0
  · subst hN0
    refine ⟨w, ?_, ⟨c, hb, fun i hi => by dsimp only; rw [if_neg (by omega)]; exact hc i hi⟩, fun B w0 hB _ => hB⟩
    have e0 : (loadCells ⟨b, o, none⟩ 0).run Try.prog w = .ok #[] w := by simpa using run_loadCells_list (P := Try.prog) w ⟨b, o, none⟩ [] (by simp)
    simp [Builtin.copy_, run_underlying Try.underlying75, Builtin.lenOf, Builtin.firstCells, sizeOf, typeInfo, hi, hz1, ← hN, e0, storeCells]
  · have hst := run_storeCells_at Try.prog g (k * 3) _ (pgs (mk N h)) 0 c w hb (by omega) h1
    refine ⟨w.setRow g (c.toList.take (k * 3 + 0) ++ pgs (mk N h) ++ c.toList.drop (k * 3 + 0 + (pgs (mk N h)).length)).toArray, ?_, ⟨_, setRow_heap w g _ _ _ _ hb, fun i hi => ?_⟩, fun B w0 hB hBg => below_setRow hB hBg _⟩
    · simp [Builtin.copy_, run_underlying Try.underlying75, Builtin.lenOf, Builtin.firstCells, sizeOf, typeInfo, hi, hz1, ← hN, hl, hst]
    · have key : ∀ r, r < 3 → (c.toList.take (k * 3 + 0) ++ pgs (mk N h) ++ c.toList.drop (k * 3 + 0 + (pgs (mk N h)).length)).toArray[i * 3 + r]? = if k ≤ i ∧ i < k + N then (pgs (mk N h))[(i - k) * 3 + r]? else c[i * 3 + r]? := by
        intro r hr
        rw [List.getElem?_toArray, Nat.add_zero]
        have hkl : k * 3 ≤ c.size := by omega
        by_cases h2 : i < k
        · rw [if_neg (by omega), List.append_assoc, List.getElem?_append_left (by simp; omega), List.getElem?_take, if_pos (by omega)]
          simp
        · by_cases h3 : i < k + N
          · rw [if_pos (by omega), List.append_assoc, List.getElem?_append_right (by simp; omega), List.getElem?_append_left (by rw [hlen]; simp; omega)]
            congr 1
            simp
            omega
          · rw [if_neg (by omega), List.getElem?_append_right (by rw [List.length_append, hlen]; simp; omega), List.getElem?_drop, List.length_append, hlen]
            rw [show k * 3 + N * 3 + (i * 3 + r - ((List.take (k * 3) c.toList).length + N * 3)) = i * 3 + r by simp; omega]
            simp
      dsimp only
      have k0 := key 0 (by omega)
      have k1 := key 1 (by omega)
      have k2 := key 2 (by omega)
      rw [Nat.add_zero] at k0
      by_cases h2 : k ≤ i ∧ i < k + N
      · rw [if_pos h2] at k0 k1 k2 ⊢
        have hq : i - k < N := by omega
        have he : (mk N h)[i - k]'(by rw [mk_length]; exact hq) = h (i - k) := by rw [pg_at _ _ (by rw [mk_length]; exact hq), pg_mk _ hq]
        rw [pgs_at (mk N h) (i - k) 0 (by rw [mk_length]; exact hq) (by decide), he] at k0
        rw [pgs_at (mk N h) (i - k) 1 (by rw [mk_length]; exact hq) (by decide), he] at k1
        rw [pgs_at (mk N h) (i - k) 2 (by rw [mk_length]; exact hq) (by decide), he] at k2
        exact ⟨k0, k1, k2⟩
      · rw [if_neg h2] at k0 k1 k2 ⊢
        obtain ⟨c0, c1, c2⟩ := hc i hi
        exact ⟨k0.trans c0, k1.trans c1, k2.trans c2⟩
theorem wpList_copy3 {w : World} {ops : Array Oper} {rest : List Oper} {oo : Oper} {a : Act} {Q : Exit → Act → World → Prop} (hgd : oo.guard = none) (d s : Operand)
    (ho : oo.op = .call { callee := .builtin .copy, args := #[d, s], argTypes := #[75, 75] })
    {g n k N b o dLen dCap sLen sCap : Nat} {f h : Nat → Pg} (hd : a.eval d = .slice (some ⟨g, k * 3, none⟩) dLen dCap) (hs : a.eval s = .slice (some ⟨b, o, none⟩) sLen sCap)
    (ht : TabIs w g n f) (hN : N = Nat.min sLen dLen) (hfit : k + N ≤ n)
    (hsrc : ∀ j, j < N → w.cell? ⟨b, o + j * 3, none⟩ = some (.int .i64 (h j).kind) ∧ w.cell? ⟨b, o + j * 3 + 1, none⟩ = some (.int .i64 (h j).order) ∧ w.cell? ⟨b, o + j * 3 + 2, none⟩ = some (.int .i64 (h j).cache))
    (hK : ∀ w', TabIs w' g n (fun i => if k ≤ i ∧ i < k + N then h (i - k) else f i) → (∀ (B : Nat) (w0 : World), Below B w0 w → B ≤ g → Below B w0 w') → wpList Try.prog ops Q rest (a.put oo.dst (.int .i64 N)) w') : wpList Try.prog ops Q (oo :: rest) a w := by
  obtain ⟨w', hrun, h1, h2⟩ := run_copy3 (dCap := dCap) (sCap := sCap) oo.type ht hN hfit hsrc
  refine wpList_plain hgd fun K hK2 => ?_
  unfold Oper.wp
  simp [execOp, ho, resolve, invoke, builtin, hd, hs, hrun, Result.andThen]
  exact hK2 _ _ (hK w' h1 h2)
theorem step_copy3 {w : World} {ops : Array Oper} {oo : Oper} {a : Act} {K : Act → World → Prop} {Q : Exit → Act → World → Prop} {E : Prop} (hgd : oo.guard = none) (d s : Operand)
    (ho : oo.op = .call { callee := .builtin .copy, args := #[d, s], argTypes := #[75, 75] })
    {g n k N b o dLen dCap sLen sCap : Nat} {f h : Nat → Pg} (hd : a.eval d = .slice (some ⟨g, k * 3, none⟩) dLen dCap) (hs : a.eval s = .slice (some ⟨b, o, none⟩) sLen sCap)
    (ht : TabIs w g n f) (hN : N = Nat.min sLen dLen) (hfit : k + N ≤ n)
    (hsrc : ∀ j, j < N → w.cell? ⟨b, o + j * 3, none⟩ = some (.int .i64 (h j).kind) ∧ w.cell? ⟨b, o + j * 3 + 1, none⟩ = some (.int .i64 (h j).order) ∧ w.cell? ⟨b, o + j * 3 + 2, none⟩ = some (.int .i64 (h j).cache))
    (hK : ∀ w', TabIs w' g n (fun i => if k ≤ i ∧ i < k + N then h (i - k) else f i) → (∀ (B : Nat) (w0 : World), Below B w0 w → B ≤ g → Below B w0 w') → K (a.put oo.dst (.int .i64 N)) w') :
    if Region.wanted oo (yielded ops a.tmps) = true then Oper.wp Try.prog oo a w K Q else E := by
  have hw : Region.wanted oo (yielded ops a.tmps) = true := by simp [Region.wanted, hgd]
  rw [if_pos hw]
  obtain ⟨w', hrun, h1, h2⟩ := run_copy3 (dCap := dCap) (sCap := sCap) oo.type ht hN hfit hsrc
  unfold Oper.wp
  simp [execOp, ho, resolve, invoke, builtin, hd, hs, hrun, Result.andThen]
  exact hK w' h1 h2

theorem mask_small (n : Nat) (h : n ≤ 1024) : Go.bits .and .u64 (n : Int) 4294967295 = (n : Int) := by
  have h1 := bits_and_u64_nat n 4294967295 (by omega) (by omega)
  have e : n &&& 4294967295 = n % 4294967296 := Nat.and_two_pow_sub_one_eq_mod n 32
  rw [e, Nat.mod_eq_of_lt (by omega)] at h1
  exact h1
set_option maxHeartbeats 2000000 in
theorem cMul64 (n : Nat) (h1 : 1 ≤ n) (h : n ≤ 1024) (w : World) :
    Calls Try.prog 97 #[.int .u64 1, .int .u64 n] w fun e w' => e = .returned (.tuple #[.int .u64 0, .int .u64 n]) ∧ w' = w := by
  have m1 : Go.bits .and .u64 1 4294967295 = 1 := mask_small 1 (by omega)
  have m0 : Go.bits .and .u64 0 4294967295 = 0 := mask_small 0 (by omega)
  have mn := mask_small n h
  have d1 : (n : Int) / 4294967296 = 0 := by omega
  go_enter Try.func97, Try.ntmps97
  go_wp2
  go_ret2
  exact ⟨rfl, rfl⟩
set_option maxHeartbeats 2000000 in
theorem cMul (n : Nat) (h1 : 1 ≤ n) (h : n ≤ 1024) (w : World) :
    Calls Try.prog 90 #[.int .u64 1, .int .u64 n] w fun e w' => e = .returned (.tuple #[.int .u64 0, .int .u64 n]) ∧ w' = w := by
  go_enter Try.func90, Try.ntmps90
  go_wp2_with (go_at_call 97; refine (cMul64 n h1 h _).mono ?_; rintro e w' ⟨rfl, rfl⟩)
  go_ret2
  exact ⟨rfl, rfl⟩
set_option maxHeartbeats 1000000 in
set_option maxRecDepth 100000 in
theorem cRepeat (b n : Nat) (h1 : 1 ≤ n) (hn : n ≤ 1024) (w : World) (hs : w.cell? ⟨b, 0, none⟩ = some (.int .i64 1) ∧ w.cell? ⟨b, 1, none⟩ = some (.int .i64 0) ∧ w.cell? ⟨b, 2, none⟩ = some (.int .i64 0)) :
    Calls Try.prog 73 #[.slice (some ⟨b, 0, none⟩) 1 1, .int .i64 n] w fun e w' => ∃ g, e = .returned (.slice (some ⟨g, 0, none⟩) n n) ∧ w.heap.size ≤ g ∧ TabIs w' g n (fun _ => pin) ∧ Below w.heap.size w w' := by
  obtain ⟨O, hO, hr⟩ := makeP n (by omega)
  have HS := Lib.hid hs
  have HR := Lib.hid hr
  clear hs hr
  go_enter Try.func73, Try.ntmps73
  go_wp2_with fail
  refine (cMul n h1 hn _).mono ?_
  rintro e w' ⟨rfl, rfl⟩
  have ht0 := HR.out w'
  have hsrc : ∀ j, j < 1 → (w'.alloc O).cell? ⟨b, 0 + j * 3, none⟩ = some (.int .i64 pin.kind) ∧ (w'.alloc O).cell? ⟨b, 0 + j * 3 + 1, none⟩ = some (.int .i64 pin.order) ∧ (w'.alloc O).cell? ⟨b, 0 + j * 3 + 2, none⟩ = some (.int .i64 pin.cache) := fun j hj => by
    obtain rfl : j = 0 := by omega
    exact ⟨cell_keep (below_one (Below.refl _ _) _) HS.out.1, cell_keep (below_one (Below.refl _ _) _) HS.out.2.1, cell_keep (below_one (Below.refl _ _) _) HS.out.2.2⟩
  have HSRC := Lib.hid hsrc
  have HT0 := Lib.hid ht0
  clear hsrc ht0
  go_wp2_with (refine wpList_copy3 (by rfl) (.tmp 31) (.tmp 32) (by rfl) (g := w'.heap.size) (n := n) (k := 0) (N := 1) (b := b) (o := 0) (dLen := n) (dCap := n) (sLen := 1) (sCap := 1) (f := fun _ => pz) (h := fun _ => pin) (by first | rfl | simp) (by rfl) HT0.out (by simp [Nat.min_def]; omega) (by omega) HSRC.out ?_)
  intro w2 ht hbk
  have hb2 : Below w'.heap.size w' w2 := hbk _ _ (below_one (Below.refl _ _) _) (Nat.le_refl _)
  have HT1 : Hid (∃ f, TabIs w2 w'.heap.size n f ∧ ∀ i, i < 1 → f i = pin) := Lib.hid ⟨_, ht, fun i hi => by
    obtain rfl : i = 0 := by omega
    rfl⟩
  have HB2 := Lib.hid hb2
  clear ht hbk hb2
  go_wp2
  go_loopw [8] (fun x wr => ∃ k : Nat, 1 ≤ k ∧ k ≤ n ∧ x = .int .i64 k ∧ Hid (∃ f, TabIs wr w'.heap.size n f ∧ ∀ i, i < k → f i = pin) ∧ Hid (Below w'.heap.size w' wr)) (fun x _ => n - (intOf x).toNat)
  case atStart => exact ⟨1, by omega, h1, by first | rfl | go_num, HT1, HB2⟩
  case round =>
    obtain ⟨k, hk1, hk2, rfl, HTK, HBK⟩ := hrel
    by_cases hlt : k < n
    · obtain ⟨f, htf, hpin⟩ := HTK.out
      obtain ⟨N, hN⟩ : ∃ N, N = Nat.min k (n - k) := ⟨_, rfl⟩
      have hN1 : 1 ≤ N ∧ N ≤ k ∧ k + N ≤ n := by rw [hN]; simp only [Nat.min_def]; split <;> omega
      have HN := Lib.hid hN
      have hsum : IntKind.i64.wrap ((k : Int) + (N : Int)) = (k : Int) + (N : Int) := IntWalk.i64_in _ (by omega)
      have HSRC : Hid (∀ j, j < N → wr.cell? ⟨w'.heap.size, 0 + j * 3, none⟩ = some (.int .i64 pin.kind) ∧ wr.cell? ⟨w'.heap.size, 0 + j * 3 + 1, none⟩ = some (.int .i64 pin.order) ∧ wr.cell? ⟨w'.heap.size, 0 + j * 3 + 2, none⟩ = some (.int .i64 pin.cache)) := Lib.hid (fun j hj => by
        rw [Nat.zero_add]
        have := htf.cells (i := j) (by omega)
        rw [hpin j (by omega)] at this
        exact this)
      have HTF := Lib.hid htf
      have HP := Lib.hid hpin
      clear hN htf hpin
      have b0 : (0 : Int) ≤ (k : Int) := by omega
      have b1 : (k : Int) ≤ (n : Int) := by omega
      have b2 : (k : Int) < (n : Int) := by omega
      have b3 : ¬ n = k := by omega
      have b4 : n - k ≠ 0 := by omega
      clear HR HS
      go_wp2
      go_region_held3 (fun W => True) (trivial) (first | (refine step_copy3 rfl (.tmp 41) (.tmp 44) rfl (g := w'.heap.size) (n := n) (k := k) (N := N) (b := w'.heap.size) (o := 0) (dLen := n - k) (dCap := n - k) (sLen := k) (sCap := n) (f := f) (h := fun _ => pin) (by kernel_rfl) (by kernel_rfl) HTF.out HN.out (by omega) HSRC.out ?_; intro w4 ht4 hb4))
      go_wp2
      go_roundw
      case rel => exact ⟨k + N, by omega, by omega, by go_num, Lib.hid ⟨_, ht4, fun i hi => by
        split
        · rfl
        · exact HP.out i (by omega)⟩, Lib.hid (hb4 _ _ HBK.out.drew (Nat.le_refl _))⟩
      case measure => simp [intOf]; omega
    · obtain rfl : k = n := by omega
      obtain ⟨f, htf, hpin⟩ := HTK.out
      have HE := Lib.hid (htf.congr (h := fun _ => pin) hpin)
      clear htf hpin
      go_wp2
      go_ret
      exact ⟨_, rfl, Nat.le_refl _, HE.out, HBK.out⟩
theorem below_set3 {n : Nat} {w0 w : World} {g : Nat} (h : Below n w0 w) (hg : n ≤ g) (a b c : Nat) (u v x : Value) : Below n w0 (((w.setCell ⟨g, a, none⟩ u).setCell ⟨g, b, none⟩ v).setCell ⟨g, c, none⟩ x) :=
  ((h.setCell (p := ⟨g, a, none⟩) hg u).setCell (p := ⟨g, b, none⟩) hg v).setCell (p := ⟨g, c, none⟩) hg x
set_option maxHeartbeats 4000000 in
set_option maxRecDepth 100000 in
theorem cInitial (n : Nat) (h1 : 1 ≤ n) (hn : n ≤ 1024) (w : World) :
    Calls Try.prog 47 #[.int .i64 n] w fun e w' => ∃ g, e = .returned (.slice (some ⟨g, 0, none⟩) n n) ∧ w.heap.size ≤ g ∧ TabIs w' g n (pg (ini n)) ∧ Below w.heap.size w w' := by
  have hblk := heap_new w (.cells #[.int .i64 1, .int .i64 0, .int .i64 0] 99)
  have HS := Lib.hid (self3 hblk)
  clear hblk
  go_enter Try.func47, Try.ntmps47
  go_wp2_with fail
  refine (cRepeat w.heap.size n h1 hn _ HS.out).mono ?_
  rintro e w1 ⟨g, rfl, hg, ht, hb⟩
  rw [size_alloc] at hg
  have HT := Lib.hid ht
  have HB := Lib.hid (below_then (below_one (Below.refl _ w) _) hb)
  have hg1 : w.heap.size ≤ g := by omega
  clear ht hb
  go_wp2
  go_loopw [4, 5] (fun x y wr => ∃ (k a : Nat) (z : Int) (f : Nat → Pg), k ≤ 11 ∧ a ≤ n ∧ x = .int .i64 a ∧ y = .int .i64 z ∧ z = (k : Int) - 1 ∧ Hid (TabIs wr g n f) ∧ Hid (Down n f k a) ∧ Hid (Below w.heap.size w wr)) (fun _ y _ => (intOf y + 1).toNat)
  case atStart => exact ⟨11, 0, 10, _, by omega, by omega, by first | rfl | go_num, rfl, by omega, HT, Lib.hid (Down.start hn), HB⟩
  case round =>
    obtain ⟨k, a, z, f, hk, ha, rfl, rfl, hz, HTF, HD, HBr⟩ := hrel
    by_cases h0 : k = 0
    · subst h0
      have hzn : z < 0 := by omega
      have HE := Lib.hid (HTF.out.congr (h := pg (ini n)) (fun i hi => by rw [← (down_ini HD.out h1 hn).2, pg_mk _ hi]))
      go_wp2
      go_ret
      exact ⟨g, rfl, hg1, HE.out, HBr.out⟩
    · obtain ⟨j, rfl⟩ : ∃ j, k = j + 1 := ⟨k - 1, by omega⟩
      obtain rfl : z = (j : Int) := by omega
      have hj : j ≤ 10 := by omega
      obtain ⟨S, hS⟩ : ∃ S, 2 ^ j = S := ⟨_, rfl⟩
      have hS1 : 1 ≤ S ∧ S ≤ 1024 := by rw [← hS]; exact pow_le j hj
      have HSS := Lib.hid hS
      clear hS hz
      by_cases hfit : a + S ≤ n
      · have hal : a < n := by omega
        have HDN := Lib.hid (HD.out.yes (by rw [HSS.out]; exact hfit))
        have hfi : (a : Int) + (S : Int) ≤ (n : Int) := by omega
        go_wp2_with fail
        refine (cBPages j S hj HSS.out _).mono ?_
        rintro e w4 ⟨rfl, rfl⟩
        go_wp2_with fail
        refine (cFreeHead _ _).mono ?_
        rintro e w5 ⟨rfl, hb5⟩
        have ht5 := HTF.out.below hb5
        obtain ⟨c0, c1, c2⟩ := ht5.cells hal
        have f0 := ht5.frozen (a * 3)
        have f1 := ht5.frozen (a * 3 + 1)
        have f2 := ht5.frozen (a * 3 + 2)
        have HT6 := Lib.hid (ht5.set a (fh j))
        have HB6 := Lib.hid (below_set3 (below_then HBr.out hb5) hg1 (a * 3) (a * 3 + 1) (a * 3 + 2) (.int .i64 0) (.int .i64 j) (.int .i64 0))
        clear ht5 hb5
        go_wp2_with fail
        refine (cBPages j S hj HSS.out _).mono ?_
        rintro e w6 ⟨rfl, rfl⟩
        go_wp2
        go_roundw
        case rel => exact ⟨j, a + S, _, _, by omega, by omega, by go_num, rfl, by omega, HT6, by rw [← HSS.out]; exact HDN, HB6⟩
        case measure => simp [intOf]
      · have HDN := Lib.hid (HD.out.no (by rw [HSS.out]; omega))
        have hfi : ¬ (a : Int) + (S : Int) ≤ (n : Int) := by omega
        go_wp2_with fail
        refine (cBPages j S hj HSS.out _).mono ?_
        rintro e w4 ⟨rfl, rfl⟩
        go_wp2
        go_roundw
        case rel => exact ⟨j, a, _, _, by omega, by omega, rfl, rfl, by omega, HTF, HDN, HBr⟩
        case measure => simp [intOf]
end Go.Proofs.Ytlljomnpdgmifaa
