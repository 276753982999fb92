/-
  Owners of the document in a world: a row of numbers for each slab; New.
-/
import Derived.Test.YtoffakamlpfgoaaMov
set_option linter.unusedVariables false
set_option linter.unusedSimpArgs false
namespace Go.Proofs.Ytoffakamlpfgoaa
open Go Go.RowKit

/-- a block whose first n cells are told by a function -/
def RowG (w : World) (b : Nat) (T : TypeId) (n : Nat) (f : Nat → Value) : Prop := ∃ c, w.heap[b]? = some (.cells c T (0, 0)) ∧ ∀ i, i < n → c[i]? = some (f i)
section
variable {S : Nat → Prop} {w w' : World} {b n : Nat} {T : TypeId} {f f' : Nat → Value} {Ts : List TypeId}
theorem RowG.lt (h : RowG w b T n f) : b < w.heap.size := by
  obtain ⟨c, hb, _⟩ := h
  exact lt_of_block hb
theorem RowG.cell (h : RowG w b T n f) {i : Nat} (hi : i < n) : w.cell? ⟨b, i, none⟩ = some (f i) := by
  obtain ⟨c, hb, hc⟩ := h
  exact self_cell hb i _ (hc i hi)
theorem RowG.frozen (h : RowG w b T n f) (i : Nat) : w.frozen? ⟨b, i, none⟩ = false := by
  obtain ⟨c, hb, _⟩ := h
  exact self_free hb i
theorem RowG.congr (h : RowG w b T n f) (hf : ∀ i, i < n → f i = f' i) : RowG w b T n f' := by
  obtain ⟨c, hb, hc⟩ := h
  exact ⟨c, hb, fun i hi => by rw [hc i hi, hf i hi]⟩
theorem RowG.set (h : RowG w b T n f) (i : Nat) (hi : i < n) (u : Value) (hf : ∀ j, j < n → (if j = i then u else f j) = f' j) : RowG (w.setCell ⟨b, i, none⟩ u) b T n f' := by
  obtain ⟨c, hb, hc⟩ := h
  refine ⟨_, cells_set hb i u, fun j hj => ?_⟩
  rw [← hf j hj, Array.getElem?_setIfInBounds]
  have hs : i < c.size := (Array.getElem?_eq_some_iff.1 (hc i hi)).1
  by_cases e : j = i
  · subst e
    rw [if_pos rfl, if_pos rfl, if_pos hs]
  · rw [if_neg (fun e2 => e e2.symm), if_neg e]
    exact hc j hj
theorem RowG.kept (h : RowG w b T n f) (hk : Kept S w w') (hS : ¬ S b) : RowG w' b T n f := by
  obtain ⟨c, hb, hc⟩ := h
  exact ⟨c, (hk.block b (lt_of_block hb) hS).trans hb, hc⟩
theorem RowG.typ (h : RowG w b T n f) (hT : T ∈ Ts) : Typ w Ts b := by
  obtain ⟨c, hb, _⟩ := h
  exact ⟨c, T, _, hb, hT⟩
theorem RowG.kept2 (h : RowG w b T n f) (hk : Kept S w w') (hS : ∀ k, S k → Typ w Ts k) (hT : T ∉ Ts) : RowG w' b T n f :=
  h.kept hk (fun e => by
    obtain ⟨c, hb, _⟩ := h
    exact (hS b e).ne hb hT rfl)
end

theorem makeI (n : Nat) (hn : n ≤ 10000) : ∃ Ob : Obj, (∀ w : World, (Instr.makeSlice 53 (.int .i64 (n : Int)) (.int .i64 (n : Int))).run Try.prog w = .ok (.slice (some ⟨w.heap.size, 0, none⟩) n n) (w.alloc Ob)) ∧ ∀ w : World, RowG (w.alloc Ob) w.heap.size 3 n (fun _ => .int .i64 0) := by
  obtain ⟨i0, hi, hz0, hz1, hz2⟩ := info_parts infoI
  refine ⟨.cells (madeCells (Value.int .i64 0).cells (n * 1)) 3, fun w => ?_, fun w => ⟨_, heap_new w _, fun j hj => ?_⟩⟩
  · have h := run_make (P := Try.prog) w 53 3 i0 _ Try.underlying53 hi hz0 .i64 .i64 (n : Int) (n : Int) (by omega) (Int.le_refl _) (by rw [hz2]; omega) (by omega)
    rw [hz1] at h
    simpa using h
  · have hsz : (Value.int .i64 0).cells.size = 1 := rfl
    simp only [madeCells, Array.getElem?_map, Array.getElem?_range, Nat.mul_one, hj, if_true, Option.map_some, hsz]
    rw [Nat.mod_one]
    rfl
theorem infoR : (Try.prog.info? 53).map (fun i => (i.zero, i.size, i.bytes)) = some (some (.slice none 0 0), 1, 24) := by kernel_rfl
/-- a row of numbers -/
def rowV (rb : Nat → Nat) (O s : Nat) : Value := .slice (some ⟨rb s, 0, none⟩) O O
/-- the document's owners: their struct R, its rows' row q, each row -/
structure RV (w : World) (R q C S O : Nat) (rb : Nat → Nat) (f : Ow) : Prop where
  box : w.heap[R]? = some (.cells #[.slice (some ⟨q, 0, none⟩) S C] 52 (0, 0))
  row : RowG w q 53 S (rowV rb O)
  rows : ∀ s, s < S → RowG w (rb s) 3 O (fun i => .int .i64 (f s i))
  inj : ∀ s t, s < S → t < S → rb s = rb t → s = t
  sz : 1 ≤ S ∧ S ≤ 256 ∧ 1 ≤ O ∧ O ≤ 16
  cap : S ≤ C ∧ C ≤ 9223372036854775807
  oi : OI S O f
section
variable {Sx : Nat → Prop} {w w' W : World} {R q C S O k D : Nat} {rb : Nat → Nat} {f f' : Ow} {v : Value} {Ts : List TypeId}
theorem RowG.below {b n : Nat} {T : TypeId} {h : Nat → Value} (hr : RowG w b T n h) (hb : Below w.heap.size w w') : RowG w' b T n h := hr.kept (S := fun _ => False) (Kept.ofBelow hb) (fun e => e)
theorem RV.c0 (h : RV w R q C S O rb f) : w.cell? ⟨R, 0, none⟩ = some (.slice (some ⟨q, 0, none⟩) S C) := self_cell h.box 0 _ rfl
theorem RV.cr (h : RV w R q C S O rb f) {s : Nat} (hs : s < S) : w.cell? ⟨q, s, none⟩ = some (.slice (some ⟨rb s, 0, none⟩) O O) := h.row.cell hs
theorem RV.ci (h : RV w R q C S O rb f) {s i : Nat} (hs : s < S) (hi : i < O) : w.cell? ⟨rb s, i, none⟩ = some (.int .i64 (f s i)) := (h.rows s hs).cell hi
theorem RV.fi (h : RV w R q C S O rb f) {s : Nat} (hs : s < S) (i : Nat) : w.frozen? ⟨rb s, i, none⟩ = false := (h.rows s hs).frozen i
theorem RV.below (h : RV w R q C S O rb f) (hb : Below w.heap.size w w') : RV w' R q C S O rb f :=
  ⟨keep_block h.box hb, h.row.below hb, fun s hs => (h.rows s hs).below hb, h.inj, h.sz, h.cap, h.oi⟩
theorem RV.drew (h : RV w R q C S O rb f) : RV w.drew R q C S O rb f := h.below (Below.refl _ w).drew
/-- blocks change that are none of cells, or of other types -/
theorem RV.kept (h : RV w R q C S O rb f) (hk : Kept Sx w w') (hS : ∀ k c T fr, w.heap[k]? = some (.cells c T fr) → T ∈ [52, 53, 3] → ¬ Sx k) : RV w' R q C S O rb f := by
  obtain ⟨c1, h1, _⟩ := h.row
  refine ⟨(hk.block R (lt_of_block h.box) (hS _ _ _ _ h.box (by simp))).trans h.box, h.row.kept hk (hS _ _ _ _ h1 (by simp)), fun s hs => ?_, h.inj, h.sz, h.cap, h.oi⟩
  obtain ⟨c2, h2, _⟩ := h.rows s hs
  exact (h.rows s hs).kept hk (hS _ _ _ _ h2 (by simp))
/-- an owner is written -/
theorem RV.put (h : RV w R q C S O rb f) {s i : Nat} (hs : s < S) (hi : i < O) (g : Int) (hg : OI S O (upd f s i g)) : RV (w.setCell ⟨rb s, i, none⟩ (.int .i64 g)) R q C S O rb (upd f s i g) := by
  have hk : Kept (· = rb s) w (w.setCell ⟨rb s, i, none⟩ (.int .i64 g)) := Kept.setCell (S := (· = rb s)) (p := ⟨rb s, i, none⟩) (Kept.refl _ _) rfl _
  have ht : ∀ k, k = rb s → Typ w [3] k := by rintro k rfl; exact (h.rows s hs).typ (by simp)
  refine ⟨box_kept h.box hk ht (by decide), h.row.kept2 hk ht (by decide), fun t htS => ?_, h.inj, h.sz, h.cap, hg⟩
  by_cases e : t = s
  · subst e
    refine (h.rows t hs).set i hi _ fun j hj => ?_
    by_cases e2 : j = i
    · subst e2
      rw [if_pos rfl, upd_same]
    · rw [if_neg e2, upd_other _ _ (by omega)]
  · refine ((h.rows t htS).kept hk (fun e2 => e (h.inj t s htS hs e2))).congr fun j hj => ?_
    rw [upd_other _ _ (by omega)]
/-- owners under way: k rows so far -/
structure RW (W w : World) (R : Nat) (v : Value) (rb : Nat → Nat) (k O : Nat) : Prop where
  box : w.heap[R]? = some (.cells #[v] 52 (0, 0))
  own : w.ownsRow W.heap.size 53 1 v k ((List.range k).map (rowV rb O))
  rows : ∀ s, s < k → RowG w (rb s) 3 O (fun _ => .int .i64 0)
  inj : ∀ s t, s < k → t < k → rb s = rb t → s = t
  low : Below W.heap.size W w
  ge : W.heap.size ≤ R ∧ ∀ s, s < k → W.heap.size ≤ rb s
theorem RW.below (h : RW W w R v rb k O) (hb : Below w.heap.size w w') : RW W w' R v rb k O :=
  ⟨keep_block h.box hb, own_below h.own hb, fun s hs => (h.rows s hs).below hb, h.inj, below_then h.low hb, h.ge⟩
theorem RW.start (w : World) (rb : Nat → Nat) (O : Nat) : RW w (w.alloc (.cells #[.slice none 0 0] 52)) w.heap.size (.slice none 0 0) rb 0 O :=
  ⟨heap_new _ _, World.ownsRow_nil _ _ _ _, fun s h => by omega, fun s t h => by omega, below_one (Below.refl _ _) _, Nat.le_refl _, fun s h => by omega⟩
theorem RW.append (h : RW W w R v rb k O) (hD : RowG w D 3 O (fun _ => .int .i64 0)) (hDn : ∀ s, s < k → rb s ≠ D) (hDg : W.heap.size ≤ D) {ad : Addr} (hu : ∀ j u, [Value.slice (some ⟨D, 0, none⟩) O O][j]? = some u → w.cell? (ad.add j) = some u) (hk : k < 1000) (cap : Nat) (ty : TypeId) :
    ∃ ao c w', (Builtin.append_ #[50, 50] ty #[v, .slice (some ad) 1 cap]).run Try.prog w = .ok (.slice ao (k + 1) c) w' ∧ w'.heap[R]? = some (.cells #[v] 52 (0, 0)) ∧
      RW W (w'.setCell ⟨R, 0, none⟩ (.slice ao (k + 1) c)) R (.slice ao (k + 1) c) (fun s => if s = k then D else rb s) (k + 1) O := by
  obtain ⟨i0, hi, hz0, hz1, hz2⟩ := info_parts infoR
  obtain ⟨v', w', hr, hown', hg, _, _⟩ := run_append_own_at (P := Try.prog) w W.heap.size 50 ty 53 i0 _ 1 24 Try.underlying50 hi hz0 hz1 hz2 rfl (by decide) v k _ h.own ad 1 cap [Value.slice (some ⟨D, 0, none⟩) O O] rfl hu (by intro u hu; simp at hu; subst hu; rfl) (by unfold maxLen; omega) (by omega) h.low.size
  obtain ⟨ao, c, rfl, _⟩ := own_shape hown'
  have hbR : w'.heap[R]? = some (.cells #[v] 52 (0, 0)) := (hg.block R (lt_of_block h.box) (fun e => own_ne h.own h.box (by decide) e.symm)).trans h.box
  have hrow : ∀ {b : Nat}, RowG w b 3 O (fun _ => .int .i64 0) → RowG (w'.setCell ⟨R, 0, none⟩ (.slice ao (k + 1) c)) b 3 O (fun _ => .int .i64 0) := by
    rintro b ⟨cs, hb, hc⟩
    have h1 : w'.heap[b]? = _ := (hg.block b (lt_of_block hb) (fun e => own_ne h.own hb (by decide) e.symm)).trans hb
    refine ⟨cs, ?_, hc⟩
    rw [Below.heap_setCell w' _ _ _ (by rintro rfl; rw [hbR] at h1; cases h1)]
    exact h1
  have hlow : Below W.heap.size W w' := h.low.trans ((Below.refl _ w).grown hg h.low.size (own_ge h.own))
  refine ⟨ao, c, w', hr, hbR, cells_set hbR 0 _, ?_, fun s hs => ?_, fun s t hs ht e => ?_, hlow.setCell (p := ⟨R, 0, none⟩) h.ge.1 _, h.ge.1, fun s hs => ?_⟩
  · have e1 : (List.range (k + 1)).map (rowV (fun s => if s = k then D else rb s) O) = (List.range k).map (rowV rb O) ++ [Value.slice (some ⟨D, 0, none⟩) O O] := by
      rw [List.range_succ, List.map_append]
      congr 1
      · refine List.map_congr_left fun s hs => ?_
        have : s < k := by simpa using hs
        unfold rowV
        dsimp only
        rw [if_neg (by omega)]
      · simp [rowV]
    rw [e1]
    have hkk : Kept (· = R) w' (w'.setCell ⟨R, 0, none⟩ (.slice ao (k + 1) c)) := Kept.setCell (S := (· = R)) (p := ⟨R, 0, none⟩) (Kept.refl _ _) rfl _
    exact own_kept2 (Ts := [52]) hown' hkk (by rintro j rfl; exact ⟨_, _, _, hbR, by simp⟩) (by decide)
  · split
    · exact hrow hD
    · exact hrow (h.rows s (by omega))
  · split at e <;> split at e
    · omega
    · exact absurd e.symm (hDn t (by omega))
    · exact absurd e (hDn s (by omega))
    · exact h.inj s t (by omega) (by omega) e
  · split
    · exact hDg
    · exact h.ge.2 s (by omega)
theorem RW.done (h : RW W w R v rb S O) (hs : 1 ≤ S ∧ S ≤ 256 ∧ 1 ≤ O ∧ O ≤ 16) : ∃ q C, RV w R q C S O rb noO ∧ W.heap.size ≤ q := by
  rcases h.own.2 with ⟨_, e⟩ | ⟨g, cap, cur, rfl, hb, hg, hc, hm, hsz, ht⟩
  · omega
  · refine ⟨g, cap, ⟨h.box, ⟨cur, hg, fun i hi => ?_⟩, fun s h1 => h.rows s h1, h.inj, hs, ⟨hc, by unfold maxLen at hm; omega⟩, OI.none S O⟩, hb⟩
    have h1 : (cur.toList.take (S * 1))[i]? = some (rowV rb O i) := by
      rw [ht]
      simp [hi]
    rw [List.getElem?_take] at h1
    simpa [hi] using h1
end
section
variable {w W : World} {R k O D n : Nat} {rb : Nat → Nat} {v : Value} {ops : Array Oper} {o : Oper} {a : Act} {K : Act → World → Prop} {Q : Exit → Act → World → Prop} {Z : Prop}
theorem step_appendV (hgd : o.guard = none) (s x : Operand) (ho : o.op = .call { callee := .builtin .append, args := #[s, x], argTypes := #[50, 50] }) {ad : Addr} {cap : Nat} (hs : a.eval s = v) (hx : a.eval x = .slice (some ad) 1 cap)
    (h : RW W w R v rb k O) (hD : RowG w D 3 O (fun _ => .int .i64 0)) (hDn : ∀ s, s < k → rb s ≠ D) (hDg : W.heap.size ≤ D) (hu : ∀ j u, [Value.slice (some ⟨D, 0, none⟩) O O][j]? = some u → w.cell? (ad.add j) = some u) (hk : k < 1000) (hn : k + 1 = n)
    (hK : ∀ ao c w', w'.heap[R]? = some (.cells #[v] 52 (0, 0)) → RW W (w'.setCell ⟨R, 0, none⟩ (.slice ao n c)) R (.slice ao n c) (fun s => if s = k then D else rb s) n O → K (a.put o.dst (.slice ao n c)) w') :
    if Region.wanted o (yielded ops a.tmps) = true then Oper.wp Try.prog o a w K Q else Z := by
  subst hn
  have hw : Region.wanted o (yielded ops a.tmps) = true := by simp [Region.wanted, hgd]
  rw [if_pos hw]
  obtain ⟨ao, c, w', hr, h1, h2⟩ := h.append hD hDn hDg hu hk cap o.type
  unfold Oper.wp execOp
  simp only [ho, resolve, invoke, builtin, Sem.run_bind, Sem.run_pure, Result.andThen_ok, List.map_toArray, List.map_cons, List.map_nil, hs, hx, hr]
  exact hK _ _ _ h1 h2
end
set_option maxHeartbeats 4000000 in
set_option maxRecDepth 100000 in
theorem rNew (S O : Nat) (hs : 1 ≤ S ∧ S ≤ 256 ∧ 1 ≤ O ∧ O ≤ 16) (w : World) : Calls Try.prog 8 #[.int .i64 S, .int .i64 O] w fun e w' => ∃ R, e = .returned (.tuple #[.pointer (some ⟨R, 0, none⟩), .int .i64 0]) ∧ ∃ v rb, RW w w' R v rb S O := by
  obtain ⟨Ob, hO, hrow⟩ := makeI O (by omega)
  have HROW := Lib.hid hrow
  have h1 : ¬ (S : Int) < 1 := by omega
  have h2 : ¬ (256 : Int) < S := by omega
  have h3 : ¬ (O : Int) < 1 := by omega
  have h4 : ¬ (16 : Int) < O := by omega
  have H0 := Lib.hid (RW.start w (fun _ => 0) O)
  clear hrow
  go_enter Try.func8, Try.ntmps8
  go_wp2
  go_loopw [7] (fun i wr => ∃ k : Nat, k ≤ S ∧ i = .int .i64 k ∧ Hid (∃ v rb, RW w wr w.heap.size v rb k O)) (fun i _ => S - (intOf i).toNat)
  case atStart => exact ⟨0, by omega, rfl, Lib.hid ⟨_, _, H0.out⟩⟩
  case round =>
    clear H0
    obtain ⟨k, hk, rfl, HX⟩ := hrel
    obtain ⟨v, rb, hv⟩ := HX.out
    have HV := Lib.hid hv
    clear hv HX
    by_cases hlt : k < S
    · have hk256 : k < 1000 := by omega
      have c0 := self_cell HV.out.box 0 _ rfl
      have f0 := self_free HV.out.box 0
      have HDN : Hid (∀ s, s < k → rb s ≠ wr.heap.size) := Lib.hid fun s hs => by have := (HV.out.rows s hs).lt; omega
      have HDG : Hid (w.heap.size ≤ wr.heap.size) := Lib.hid HV.out.low.size
      have HU : Hid (∀ j u, [Value.slice (some ⟨wr.heap.size, 0, none⟩) O O][j]? = some u → ((wr.drew.alloc Ob).alloc (.cells #[.slice (some ⟨wr.heap.size, 0, none⟩) O O] 53)).cell? ((⟨wr.heap.size + 1, 0, none⟩ : Addr).add j) = some u) := Lib.hid (by
        have e : (wr.drew.alloc Ob).heap.size = wr.heap.size + 1 := size_alloc _ _
        rw [← e]
        exact cell_one_new _ _ _)
      have HV2 := Lib.hid (HV.out.below (below_one (below_one (Below.refl wr.heap.size wr).drew Ob) (.cells #[.slice (some ⟨wr.heap.size, 0, none⟩) O O] 53)))
      have HRD : Hid (RowG ((wr.drew.alloc Ob).alloc (.cells #[.slice (some ⟨wr.heap.size, 0, none⟩) O O] 53)) wr.heap.size 3 O (fun _ => .int .i64 0)) := Lib.hid ((HROW.out wr.drew).below (below_one (Below.refl _ _) _))
      have hRlt := lt_of_block HV.out.box
      clear HV
      go_wp2
      go_region_law (refine step_appendV (by rfl) _ _ (by rfl) (ad := ⟨wr.heap.size + 1, 0, none⟩) (by rfl) (by rfl) HV2.out HRD.out HDN.out HDG.out HU.out hk256 rfl ?_; intro ao c w5 hb5 h5; have f5 := self_free hb5 0; have c5 := self_cell hb5 0 _ rfl; have H5 := Lib.hid h5; clear h5 hb5)
      all_goals
        clear HV2 HRD HDN HDG HU c0 f0 c5 f5
        go_wp2
        go_roundw
        case rel => exact ⟨k + 1, by omega, by go_num, Lib.hid ⟨_, _, H5.out⟩⟩
        case measure => simp [intOf]; omega
    · obtain rfl : k = S := by omega
      go_wp2
      go_ret2
      exact ⟨_, rfl, _, _, HV.out⟩
end Go.Proofs.Ytoffakamlpfgoaa
