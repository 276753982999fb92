/-
  Counters of the program in a world; isNone, isGroup, isNumber, check, of, Used, Most, Limit, Up, Down.
-/
import Derived.Test.YtahkfagfobfliaaPure
set_option linter.unusedVariables false
set_option linter.unusedSimpArgs false
namespace Go.Proofs.Ytahkfagfobfliaa
open Go Go.RowKit

/-- a block whose first n cells are told by a function -/
def RowG (w : World) (b : Nat) (T : TypeId) (n : Nat) (f : Nat → Value) : Prop := ∃ c, w.heap[b]? = some (.cells c T (0, 0)) ∧ ∀ i, i < n → c[i]? = some (f i)
section
variable {S : Nat → Prop} {w w' : World} {b n : Nat} {T : TypeId} {f f' : Nat → Value} {Ts : List TypeId}
theorem RowG.lt (h : RowG w b T n f) : b < w.heap.size := by
  obtain ⟨c, hb, _⟩ := h
  exact lt_of_block hb
theorem RowG.cell (h : RowG w b T n f) {i : Nat} (hi : i < n) : w.cell? ⟨b, i, none⟩ = some (f i) := by
  obtain ⟨c, hb, hc⟩ := h
  exact self_cell hb i _ (hc i hi)
theorem RowG.frozen (h : RowG w b T n f) (i : Nat) : w.frozen? ⟨b, i, none⟩ = false := by
  obtain ⟨c, hb, _⟩ := h
  exact self_free hb i
theorem RowG.congr (h : RowG w b T n f) (hf : ∀ i, i < n → f i = f' i) : RowG w b T n f' := by
  obtain ⟨c, hb, hc⟩ := h
  exact ⟨c, hb, fun i hi => by rw [hc i hi, hf i hi]⟩
theorem RowG.set (h : RowG w b T n f) (i : Nat) (hi : i < n) (u : Value) (hf : ∀ j, j < n → (if j = i then u else f j) = f' j) : RowG (w.setCell ⟨b, i, none⟩ u) b T n f' := by
  obtain ⟨c, hb, hc⟩ := h
  refine ⟨_, cells_set hb i u, fun j hj => ?_⟩
  rw [← hf j hj, Array.getElem?_setIfInBounds]
  have hs : i < c.size := (Array.getElem?_eq_some_iff.1 (hc i hi)).1
  by_cases e : j = i
  · subst e
    rw [if_pos rfl, if_pos rfl, if_pos hs]
  · rw [if_neg (fun e2 => e e2.symm), if_neg e]
    exact hc j hj
theorem RowG.kept (h : RowG w b T n f) (hk : Kept S w w') (hS : ¬ S b) : RowG w' b T n f := by
  obtain ⟨c, hb, hc⟩ := h
  exact ⟨c, (hk.block b (lt_of_block hb) hS).trans hb, hc⟩
theorem RowG.typ (h : RowG w b T n f) (hT : T ∈ Ts) : Typ w Ts b := by
  obtain ⟨c, hb, _⟩ := h
  exact ⟨c, T, _, hb, hT⟩
theorem RowG.kept2 (h : RowG w b T n f) (hk : Kept S w w') (hS : ∀ k, S k → Typ w Ts k) (hT : T ∉ Ts) : RowG w' b T n f :=
  h.kept hk (fun e => by
    obtain ⟨c, hb, _⟩ := h
    exact (hS b e).ne hb hT rfl)
end
def accF (t : Ct) (i : Nat) : Value := .int .i64 (if i % 2 = 0 then t.us (i / 2 + 1) else t.mo (i / 2 + 1))
structure CV (w : World) (B g : Nat) (t : Ct) : Prop where
  box : w.heap[B]? = some (.cells #[.slice (some ⟨g, 0, none⟩) 16 16] 45 (0, 0))
  row : RowG w g 49 32 (accF t)
/-- counters that are none: nil, or zero ones -/
def CZ (w : World) (p : Option Addr) : Prop := p = none ∨ ∃ B, p = some ⟨B, 0, none⟩ ∧ w.heap[B]? = some (.cells #[.slice none 0 0] 45 (0, 0))
section
variable {S : Nat → Prop} {w w' : World} {B g : Nat} {t t' : Ct} {p : Option Addr} {x n e : Int} {Ts : List TypeId}
theorem CV.c0 (h : CV w B g t) : w.cell? ⟨B, 0, none⟩ = some (.slice (some ⟨g, 0, none⟩) 16 16) := self_cell h.box 0 _ rfl
theorem CV.cu (h : CV w B g t) {k : Nat} (hk : k < 16) : w.cell? ⟨g, k * 2, none⟩ = some (.int .i64 (t.us (k + 1))) := by
  rw [h.row.cell (show k * 2 < 32 by omega), accF, if_pos (by omega), show k * 2 / 2 = k by omega]
theorem CV.cm (h : CV w B g t) {k : Nat} (hk : k < 16) : w.cell? ⟨g, k * 2 + 1, none⟩ = some (.int .i64 (t.mo (k + 1))) := by
  rw [h.row.cell (show k * 2 + 1 < 32 by omega), accF, if_neg (by omega), show (k * 2 + 1) / 2 = k by omega]
theorem CV.fr (h : CV w B g t) (i : Nat) : w.frozen? ⟨g, i, none⟩ = false := h.row.frozen i
theorem CV.ne (h : CV w B g t) : B ≠ g := by
  rintro rfl
  obtain ⟨c, hb, _⟩ := h.row
  rw [h.box] at hb
  have e := Option.some.inj hb
  injection e with _ e2
  exact absurd e2 (by decide)
theorem CV.lt (h : CV w B g t) : B < w.heap.size ∧ g < w.heap.size := ⟨lt_of_block h.box, h.row.lt⟩
theorem CV.setU (h : CV w B g t) {k : Nat} (hk : k < 16) (v : Int) : CV (w.setCell ⟨g, k * 2, none⟩ (.int .i64 v)) B g (t.set (k + 1) v) := by
  refine ⟨?_, h.row.set (k * 2) (by omega) _ fun j hj => ?_⟩
  · rw [Below.heap_setCell w _ _ _ h.ne]
    exact h.box
  · unfold accF Ct.set
    dsimp only
    by_cases e : j = k * 2
    · subst e; rw [if_pos rfl, if_pos (by omega), if_pos (by omega)]
    · rw [if_neg e]
      by_cases e2 : j % 2 = 0
      · rw [if_pos e2, if_pos e2, if_neg (by omega)]
      · rw [if_neg e2, if_neg e2]
theorem CV.setM (h : CV w B g t) {k : Nat} (hk : k < 16) (v : Int) : CV (w.setCell ⟨g, k * 2 + 1, none⟩ (.int .i64 v)) B g (t.lim (k + 1) v) := by
  refine ⟨?_, h.row.set (k * 2 + 1) (by omega) _ fun j hj => ?_⟩
  · rw [Below.heap_setCell w _ _ _ h.ne]
    exact h.box
  · unfold accF Ct.lim
    dsimp only
    by_cases e : j = k * 2 + 1
    · subst e; rw [if_pos rfl, if_neg (by omega), if_pos (by omega)]
    · rw [if_neg e]
      by_cases e2 : j % 2 = 0
      · rw [if_pos e2, if_pos e2]
      · rw [if_neg e2, if_neg e2, if_neg (by omega)]
theorem CV.kept (h : CV w B g t) (hk : Kept S w w') (hS : ∀ k, S k → Typ w Ts k) (hT : 45 ∉ Ts ∧ 49 ∉ Ts) : CV w' B g t :=
  ⟨box_kept h.box hk hS hT.1, h.row.kept2 hk hS hT.2⟩
theorem CV.below (h : CV w B g t) (hb : Below w.heap.size w w') : CV w' B g t :=
  h.kept (S := fun _ => False) (Ts := []) (Kept.ofBelow hb) (fun _ e => e.elim) (by decide)
theorem CZ.below (h : CZ w p) (hb : Below w.heap.size w w') : CZ w' p := by
  rcases h with e | ⟨B, e, h⟩
  · exact .inl e
  · exact .inr ⟨B, e, box_kept (S := fun _ => False) (Ts := []) h (Kept.ofBelow hb) (fun _ e => e.elim) (by decide)⟩
/-- what a call may change -/
theorem CV.typ (h : CV w B g t) : ∀ k, k = g → Typ w [49] k := by
  rintro k rfl
  exact h.row.typ (by simp)
theorem kept_one (v : Value) (i : Nat) : Kept (· = g) w (w.setCell ⟨g, i, none⟩ v) := Kept.setCell (S := (· = g)) (p := ⟨g, i, none⟩) (Kept.refl _ w) rfl v
set_option maxHeartbeats 1000000 in
theorem cIsG (x : Int) (q : Bool) (hq : decide (isG x) = q) (w : World) : Calls Try.prog 39 #[.int .i64 x] w fun e w' => e = .returned (.bool q) ∧ w' = w := by
  have HQ := Lib.hid hq
  clear hq
  by_cases h1 : 1 ≤ x
  · by_cases h2 : x ≤ 16
    · have HY : Hid (true = q) := Lib.hid (by rw [← HQ.out]; exact (decide_eq_true ⟨h1, h2⟩).symm)
      clear HQ
      go_enter Try.func39, Try.ntmps39
      go_wp2
      go_ret
      exact ⟨ret_bool (by simpa using HY.out), rfl⟩
    · have HY : Hid (false = q) := Lib.hid (by rw [← HQ.out]; exact (decide_eq_false (fun e => h2 e.2)).symm)
      clear HQ
      go_enter Try.func39, Try.ntmps39
      go_wp2
      go_ret
      exact ⟨ret_bool (by simpa [h2] using HY.out), rfl⟩
  · have HY : Hid (false = q) := Lib.hid (by rw [← HQ.out]; exact (decide_eq_false (fun e => h1 e.1)).symm)
    clear HQ
    go_enter Try.func39, Try.ntmps39
    go_wp2
    go_ret
    exact ⟨ret_bool HY.out, rfl⟩
set_option maxHeartbeats 1000000 in
theorem cIsN (x : Int) (q : Bool) (hq : decide (isN x) = q) (w : World) : Calls Try.prog 40 #[.int .i64 x] w fun e w' => e = .returned (.bool q) ∧ w' = w := by
  have HQ := Lib.hid hq
  clear hq
  by_cases h1 : 0 ≤ x
  · by_cases h2 : x ≤ 9007199254740991
    · have HY : Hid (true = q) := Lib.hid (by rw [← HQ.out]; exact (decide_eq_true ⟨h1, h2⟩).symm)
      clear HQ
      go_enter Try.func40, Try.ntmps40
      go_wp2
      go_ret
      exact ⟨ret_bool (by simpa using HY.out), rfl⟩
    · have HY : Hid (false = q) := Lib.hid (by rw [← HQ.out]; exact (decide_eq_false (fun e => h2 e.2)).symm)
      clear HQ
      go_enter Try.func40, Try.ntmps40
      go_wp2
      go_ret
      exact ⟨ret_bool (by simpa [h2] using HY.out), rfl⟩
  · have HY : Hid (false = q) := Lib.hid (by rw [← HQ.out]; exact (decide_eq_false (fun e => h1 e.1)).symm)
    clear HQ
    go_enter Try.func40, Try.ntmps40
    go_wp2
    go_ret
    exact ⟨ret_bool HY.out, rfl⟩
set_option maxHeartbeats 1000000 in
theorem cNoneNo (h : CV w B g t) : Calls Try.prog 38 #[.pointer (some ⟨B, 0, none⟩)] w fun e w' => e = .returned (.bool false) ∧ w' = w := by
  have c0 := h.c0
  clear h
  go_enter Try.func38, Try.ntmps38
  go_wp2
  go_ret
  exact ⟨rfl, rfl⟩
set_option maxHeartbeats 1000000 in
theorem cNoneYes (h : CZ w p) : Calls Try.prog 38 #[.pointer p] w fun e w' => e = .returned (.bool true) ∧ w' = w := by
  rcases h with rfl | ⟨B, rfl, hb⟩
  · go_enter Try.func38, Try.ntmps38
    go_wp2
    go_ret
    exact ⟨rfl, rfl⟩
  · have c0 := self_cell hb 0 _ rfl
    clear hb
    go_enter Try.func38, Try.ntmps38
    go_wp2
    go_ret
    exact ⟨rfl, rfl⟩
set_option maxHeartbeats 1000000 in
theorem cCheck (h : CV w B g t) (x n q : Int) (hq : askE x n = q) :
    Calls Try.prog 31 #[.pointer (some ⟨B, 0, none⟩), .int .i64 x, .int .i64 n] w fun e w' => e = .returned (.int .i64 q) ∧ w' = w := by
  have HA := Lib.hid h
  clear h
  rcases askE_cases x n with ⟨e, h1⟩ | ⟨e, h1, h2⟩ | ⟨e, h1, h2⟩
  · rw [e] at hq
    subst hq
    have HG := Lib.hid (decide_eq_false h1)
    clear h1 e
    go_enter Try.func31, Try.ntmps31
    go_wp2_with (first | (go_at_call 38; refine (cNoneNo HA.out).mono ?_; rintro e w1 ⟨rfl, rfl⟩) | (go_at_call 39; refine (cIsG x _ HG.out _).mono ?_; rintro e w1 ⟨rfl, rfl⟩))
    go_ret
    exact ⟨rfl, rfl⟩
  · rw [e] at hq
    subst hq
    have HG := Lib.hid (decide_eq_true h1)
    have HN := Lib.hid (decide_eq_false h2)
    clear h1 h2 e
    go_enter Try.func31, Try.ntmps31
    go_wp2_with (first | (go_at_call 38; refine (cNoneNo HA.out).mono ?_; rintro e w1 ⟨rfl, rfl⟩) | (go_at_call 39; refine (cIsG x _ HG.out _).mono ?_; rintro e w1 ⟨rfl, rfl⟩) | (go_at_call 40; refine (cIsN n _ HN.out _).mono ?_; rintro e w1 ⟨rfl, rfl⟩))
    go_ret
    exact ⟨rfl, rfl⟩
  · rw [e] at hq
    subst hq
    have HG := Lib.hid (decide_eq_true h1)
    have HN := Lib.hid (decide_eq_true h2)
    clear h1 h2 e
    go_enter Try.func31, Try.ntmps31
    go_wp2_with (first | (go_at_call 38; refine (cNoneNo HA.out).mono ?_; rintro e w1 ⟨rfl, rfl⟩) | (go_at_call 39; refine (cIsG x _ HG.out _).mono ?_; rintro e w1 ⟨rfl, rfl⟩) | (go_at_call 40; refine (cIsN n _ HN.out _).mono ?_; rintro e w1 ⟨rfl, rfl⟩))
    go_ret
    exact ⟨rfl, rfl⟩
set_option maxHeartbeats 1000000 in
theorem zCheck (h : CZ w p) (x n : Int) :
    Calls Try.prog 31 #[.pointer p, .int .i64 x, .int .i64 n] w fun e w' => e = .returned (.int .i64 1) ∧ w' = w := by
  have HA := Lib.hid h
  clear h
  go_enter Try.func31, Try.ntmps31
  go_wp2_with (go_at_call 38; refine (cNoneYes HA.out).mono ?_; rintro e w1 ⟨rfl, rfl⟩)
  go_ret
  exact ⟨rfl, rfl⟩
set_option maxHeartbeats 1000000 in
theorem cOf (h : CV w B g t) (k : Nat) (hk : k < 16) :
    Calls Try.prog 32 #[.pointer (some ⟨B, 0, none⟩), .int .i64 ((k : Int) + 1)] w fun e w' => e = .returned (.pointer (some ⟨g, k * 2, none⟩)) ∧ w' = w := by
  have c0 := h.c0
  clear h
  go_enter Try.func32, Try.ntmps32
  go_wp2
  go_ret
  exact ⟨rfl, rfl⟩
end
end Go.Proofs.Ytahkfagfobfliaa
