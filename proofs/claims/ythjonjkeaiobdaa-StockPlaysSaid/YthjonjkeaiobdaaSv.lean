/-
  Stocks of either type in a world; isCpu, keptOf, check, Has of the program.
-/
import Derived.Test.YthjonjkeaiobdaaPure
set_option linter.unusedVariables false
set_option linter.unusedSimpArgs false
namespace Go.Proofs.Ythjonjkeaiobdaa
open Go Go.RowKit

/-- a block whose first n cells are told by a function -/
def RowG (w : World) (b : Nat) (T : TypeId) (n : Nat) (f : Nat → Value) : Prop := ∃ c, w.heap[b]? = some (.cells c T (0, 0)) ∧ ∀ i, i < n → c[i]? = some (f i)
section
variable {S : Nat → Prop} {w w' : World} {b n : Nat} {T : TypeId} {f f' : Nat → Value} {Ts : List TypeId}
theorem RowG.lt (h : RowG w b T n f) : b < w.heap.size := by
  obtain ⟨c, hb, _⟩ := h
  exact lt_of_block hb
theorem RowG.cell (h : RowG w b T n f) {i : Nat} (hi : i < n) : w.cell? ⟨b, i, none⟩ = some (f i) := by
  obtain ⟨c, hb, hc⟩ := h
  exact self_cell hb i _ (hc i hi)
theorem RowG.frozen (h : RowG w b T n f) (i : Nat) : w.frozen? ⟨b, i, none⟩ = false := by
  obtain ⟨c, hb, _⟩ := h
  exact self_free hb i
theorem RowG.congr (h : RowG w b T n f) (hf : ∀ i, i < n → f i = f' i) : RowG w b T n f' := by
  obtain ⟨c, hb, hc⟩ := h
  exact ⟨c, hb, fun i hi => by rw [hc i hi, hf i hi]⟩
theorem RowG.set (h : RowG w b T n f) (i : Nat) (hi : i < n) (u : Value) (hf : ∀ j, j < n → (if j = i then u else f j) = f' j) : RowG (w.setCell ⟨b, i, none⟩ u) b T n f' := by
  obtain ⟨c, hb, hc⟩ := h
  refine ⟨_, cells_set hb i u, fun j hj => ?_⟩
  rw [← hf j hj, Array.getElem?_setIfInBounds]
  have hs : i < c.size := (Array.getElem?_eq_some_iff.1 (hc i hi)).1
  by_cases e : j = i
  · subst e
    rw [if_pos rfl, if_pos rfl, if_pos hs]
  · rw [if_neg (fun e2 => e e2.symm), if_neg e]
    exact hc j hj
theorem RowG.kept (h : RowG w b T n f) (hk : Kept S w w') (hS : ¬ S b) : RowG w' b T n f := by
  obtain ⟨c, hb, hc⟩ := h
  exact ⟨c, (hk.block b (lt_of_block hb) hS).trans hb, hc⟩
theorem RowG.typ (h : RowG w b T n f) (hT : T ∈ Ts) : Typ w Ts b := by
  obtain ⟨c, hb, _⟩ := h
  exact ⟨c, T, _, hb, hT⟩
theorem RowG.kept2 (h : RowG w b T n f) (hk : Kept S w w') (hS : ∀ k, S k → Typ w Ts k) (hT : T ∉ Ts) : RowG w' b T n f :=
  h.kept hk (fun e => by
    obtain ⟨c, hb, _⟩ := h
    exact (hS b e).ne hb hT rfl)
end
def skF (t : Sk) (i : Nat) : Value := .int .i64 (if i % 2 = 0 then t.g (i / 2) else t.n (i / 2))
/-- stocks, of the program (T its struct, E a stock) or the document's -/
structure SV (w : World) (T E : TypeId) (B r c : Nat) (t : Sk) : Prop where
  box : w.heap[B]? = some (.cells #[.slice (some ⟨r, 0, none⟩) c c] T (0, 0))
  row : RowG w r E (c * 2) (skF t)
  n1 : 1 ≤ c
  n2 : c ≤ 8
  ne : B ≠ r
/-- stocks that are none: nil, or zero ones -/
def SZ (w : World) (p : Option Addr) : Prop := p = none ∨ ∃ B, p = some ⟨B, 0, none⟩ ∧ w.heap[B]? = some (.cells #[.slice none 0 0] 48 (0, 0))
section
variable {S : Nat → Prop} {w w' : World} {T E : TypeId} {B r c : Nat} {t t' : Sk} {p : Option Addr} {x g n e : Int} {Ts : List TypeId}
theorem SV.c0 (h : SV w T E B r c t) : w.cell? ⟨B, 0, none⟩ = some (.slice (some ⟨r, 0, none⟩) c c) := self_cell h.box 0 _ rfl
theorem SV.cg (h : SV w T E B r c t) {k : Nat} (hk : k < c) : w.cell? ⟨r, k * 2, none⟩ = some (.int .i64 (t.g k)) := by
  rw [h.row.cell (show k * 2 < c * 2 by omega), skF, if_pos (by omega), show k * 2 / 2 = k by omega]
theorem SV.cn (h : SV w T E B r c t) {k : Nat} (hk : k < c) : w.cell? ⟨r, k * 2 + 1, none⟩ = some (.int .i64 (t.n k)) := by
  rw [h.row.cell (show k * 2 + 1 < c * 2 by omega), skF, if_neg (by omega), show (k * 2 + 1) / 2 = k by omega]
theorem SV.fr (h : SV w T E B r c t) (i : Nat) : w.frozen? ⟨r, i, none⟩ = false := h.row.frozen i
theorem SV.lt (h : SV w T E B r c t) : B < w.heap.size ∧ r < w.heap.size := ⟨lt_of_block h.box, h.row.lt⟩
/-- a stock is written -/
theorem SV.put (h : SV w T E B r c t) {k : Nat} (hk : k < c) (g n u : Int) (hu : gOf g n = u) : SV ((w.setCell ⟨r, k * 2, none⟩ (.int .i64 u)).setCell ⟨r, k * 2 + 1, none⟩ (.int .i64 n)) T E B r c (t.put k g n) := by
  subst hu
  refine ⟨?_, (h.row.set (f' := fun i => if i = k * 2 then .int .i64 (gOf g n) else skF t i) (k * 2) (by omega) _ (fun j hj => rfl)).set (k * 2 + 1) (by omega) _ fun j hj => ?_, h.n1, h.n2, h.ne⟩
  · rw [Below.heap_setCell _ _ _ _ h.ne, Below.heap_setCell w _ _ _ h.ne]
    exact h.box
  · unfold skF Sk.put
    dsimp only
    by_cases e : j = k * 2 + 1
    · subst e; rw [if_pos rfl, if_neg (by omega), if_pos (by omega)]
    · rw [if_neg e]
      by_cases e1 : j = k * 2
      · subst e1; rw [if_pos rfl, if_pos (by omega), if_pos (by omega)]
      · rw [if_neg e1]
        by_cases e2 : j % 2 = 0
        · rw [if_pos e2, if_pos e2, if_neg (by omega)]
        · rw [if_neg e2, if_neg e2, if_neg (by omega)]
theorem SV.kept (h : SV w T E B r c t) (hk : Kept S w w') (hS : ∀ k, S k → Typ w Ts k) (hT : T ∉ Ts ∧ E ∉ Ts) : SV w' T E B r c t :=
  ⟨box_kept h.box hk hS hT.1, h.row.kept2 hk hS hT.2, h.n1, h.n2, h.ne⟩
theorem SV.below (h : SV w T E B r c t) (hb : Below w.heap.size w w') : SV w' T E B r c t :=
  h.kept (S := fun _ => False) (Ts := []) (Kept.ofBelow hb) (fun _ e => e.elim) (by simp)
theorem SV.alloc (h : SV w T E B r c t) (o : Obj) : SV (w.alloc o) T E B r c t := h.below (below_one (Below.refl _ _) _)
theorem SZ.below (h : SZ w p) (hb : Below w.heap.size w w') : SZ w' p := by
  rcases h with e | ⟨B, e, h⟩
  · exact .inl e
  · exact .inr ⟨B, e, box_kept (S := fun _ => False) (Ts := []) h (Kept.ofBelow hb) (fun _ e => e.elim) (by decide)⟩
/-- what a call may change -/
theorem SV.typ (h : SV w T E B r c t) : ∀ k, k = r → Typ w [E] k := by
  rintro k rfl
  exact h.row.typ (by simp)
theorem kept_two (r i j : Nat) (u v : Value) (w0 : World) (h : Kept (· = r) w0 w) : Kept (· = r) w0 ((w.setCell ⟨r, i, none⟩ u).setCell ⟨r, j, none⟩ v) :=
  Kept.setCell (S := (· = r)) (p := ⟨r, j, none⟩) (Kept.setCell (S := (· = r)) (p := ⟨r, i, none⟩) h rfl u) rfl v
set_option maxHeartbeats 1000000 in
theorem cIsCpu (h : SV w 48 55 B r c t) (x : Int) (q : Bool) (hq : decide (isC c x) = q) :
    Calls Try.prog 22 #[.pointer (some ⟨B, 0, none⟩), .int .i64 x] w fun e w' => e = .returned (.bool q) ∧ w' = w := by
  have c0 := h.c0
  have HQ := Lib.hid hq
  clear hq h
  by_cases h1 : 0 ≤ x
  · by_cases h2 : x < (c : Int)
    · have HY : Hid (true = q) := Lib.hid (by rw [← HQ.out]; exact (decide_eq_true ⟨h1, h2⟩).symm)
      clear HQ
      go_enter Try.func22, Try.ntmps22
      go_wp2
      go_ret
      exact ⟨ret_bool (by simpa using HY.out), rfl⟩
    · have HY : Hid (false = q) := Lib.hid (by rw [← HQ.out]; exact (decide_eq_false (fun e => h2 e.2)).symm)
      clear HQ
      go_enter Try.func22, Try.ntmps22
      go_wp2
      go_ret
      exact ⟨ret_bool (by simpa [h2] using HY.out), rfl⟩
  · have HY : Hid (false = q) := Lib.hid (by rw [← HQ.out]; exact (decide_eq_false (fun e => h1 e.1)).symm)
    clear HQ
    go_enter Try.func22, Try.ntmps22
    go_wp2
    go_ret
    exact ⟨ret_bool HY.out, rfl⟩
set_option maxHeartbeats 1000000 in
theorem zIsCpu (h : SZ w p) (x : Int) :
    Calls Try.prog 22 #[.pointer p, .int .i64 x] w fun e w' => e = .returned (.bool false) ∧ w' = w := by
  rcases h with rfl | ⟨B, rfl, hb⟩
  · go_enter Try.func22, Try.ntmps22
    go_wp2
    go_ret
    exact ⟨rfl, rfl⟩
  · have c0 := self_cell hb 0 _ rfl
    clear hb
    by_cases h1 : 0 ≤ x
    · have h2 : ¬ x < 0 := by omega
      go_enter Try.func22, Try.ntmps22
      go_wp2
      go_ret
      exact ⟨rfl, rfl⟩
    · go_enter Try.func22, Try.ntmps22
      go_wp2
      go_ret
      exact ⟨rfl, rfl⟩
set_option maxHeartbeats 1000000 in
theorem rHasC (h : SV w 52 57 B r c t) (x : Int) (q : Bool) (hq : decide (isC c x) = q) :
    Calls Try.prog 23 #[.pointer (some ⟨B, 0, none⟩), .int .i64 x] w fun e w' => e = .returned (.bool q) ∧ w' = w := by
  have c0 := h.c0
  have HQ := Lib.hid hq
  clear hq h
  by_cases h1 : 0 ≤ x
  · by_cases h2 : x < (c : Int)
    · have HY : Hid (true = q) := Lib.hid (by rw [← HQ.out]; exact (decide_eq_true ⟨h1, h2⟩).symm)
      clear HQ
      go_enter Try.func23, Try.ntmps23
      go_wp2
      go_ret
      exact ⟨ret_bool (by simpa using HY.out), rfl⟩
    · have HY : Hid (false = q) := Lib.hid (by rw [← HQ.out]; exact (decide_eq_false (fun e => h2 e.2)).symm)
      clear HQ
      go_enter Try.func23, Try.ntmps23
      go_wp2
      go_ret
      exact ⟨ret_bool (by simpa [h2] using HY.out), rfl⟩
  · have HY : Hid (false = q) := Lib.hid (by rw [← HQ.out]; exact (decide_eq_false (fun e => h1 e.1)).symm)
    clear HQ
    go_enter Try.func23, Try.ntmps23
    go_wp2
    go_ret
    exact ⟨ret_bool HY.out, rfl⟩
theorem res_kept {tmps : Array Value} {a b : Int} {K : Nat} {w : World} (h4 : tmps.getD 4 undef = .pointer (some ⟨K, 0, none⟩)) (hb : w.heap[K]? = some (.cells #[.int .i64 a, .int .i64 b] 55 (0, 0))) :
    (results Try.f24 tmps).run Try.prog w = .ok (.agg #[.int .i64 a, .int .i64 b]) w := by
  have c0 := self_cell hb 0 _ rfl
  have c1 := self_cell hb 1 _ rfl
  rw [Array.getD_eq_getD_getElem?] at h4
  simp [results, Try.f24, h4, c0, c1, go_sem]
set_option maxHeartbeats 1000000 in
theorem cKeptOf (g n : Int) (w : World) : Calls Try.prog 24 #[.int .i64 g, .int .i64 n] w fun e w' => e = .returned (.agg #[.int .i64 (gOf g n), .int .i64 n]) ∧ Below w.heap.size w w' := by
  by_cases h : n = 0
  · have e : gOf g n = 0 := if_pos h
    rw [e]
    subst h
    go_enter Try.func24, Try.ntmps24
    go_wp2
    exact bodyPost_ret (res_kept rfl (heap_new _ _)) rfl ⟨rfl, below_one (Below.refl _ _) _⟩
  · have e : gOf g n = g := if_neg h
    rw [e]
    have hn : (n == 0) = false := by simp [h]
    go_enter Try.func24, Try.ntmps24
    go_wp2
    exact bodyPost_ret (res_kept rfl (heap_new _ _)) rfl ⟨rfl, below_one (Below.refl _ _) _⟩
end
end Go.Proofs.Ythjonjkeaiobdaa
