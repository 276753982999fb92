/-
  The table of lower-case letters as the program's memory holds it, and what isLower, lower, mayStand and the document's own small and fold answer.
-/
import Derived.Test.YtekajahffnhboabDoorRows
import Derived.Test.YtekajahffnhboabDoorPure
import Derived.WalkKit
import Derived.ProofKit
import Derived.OpenShut
import Derived.Below
import Derived.Outline
import Derived.Lib.Hide
import Derived.Laws.Rows
import Derived.WalkLawsBesides
set_option linter.unusedVariables false
set_option linter.unusedSimpArgs false
namespace Go.Proofs.YtekajahffnhboabDoor
open Go Go.ChangeShapes Go.WideShapes Go.ChangeAt Go.RowKit

abbrev lowCells : Array Value := #[.int .i32 97, .int .i32 122, .int .i32 224, .int .i32 246, .int .i32 248, .int .i32 254, .int .i32 945, .int .i32 961, .int .i32 963, .int .i32 969]
/-- The variable holds its five rows. -/
def Tab (w : World) : Prop := ∃ t fr, w.heap[0]? = some (.cells lowCells t fr)

theorem gTab : Tryd.prog.globalNamed "wainscot/spell.lowers" = some 0 := by kernel_rfl
theorem gTabType : (Tryd.prog.globals[0]?).map (·.type) = some 50 := by kernel_rfl
theorem cellsArr : Tryd.prog.cellsOf 50 = 10 := by kernel_rfl
theorem cellsRow : Tryd.prog.cellsOf 49 = 2 := by kernel_rfl
theorem cellsI32 : Tryd.prog.cellsOf 21 = 1 := by kernel_rfl

theorem pair_of {w : World} {sp : Nat → Bool} {fuel : Nat} {cs : List Value} {p : List MemPlace} {a b : Int} {x : DataW Unit × List MemPlace}
    (h : DataW.trod (fun _ => ()) Tryd.prog w 0 sp false fuel 49 cs = some x) (hx : x.1 = .agg [.lit (.int .i32 a), .lit (.int .i32 b)]) : cs = [.int .i32 a, .int .i32 b] := by
  obtain ⟨y0, y1, n, rfl, hl, h0, h1⟩ := trod_struct2 Tryd.underlying49 h
  obtain ⟨n0, e0, f0, _⟩ := DataW.trod_int Tryd.underlying21 h0
  obtain ⟨n1, e1, f1, _⟩ := DataW.trod_int Tryd.underlying21 h1
  rw [cellsRow] at hl
  rw [cellsI32] at e0 e1
  match cs, hl with
  | [c0, c1], _ =>
    simp at e0 e1
    subst e0 e1
    rw [f0, f1] at hx
    simp at hx
    rw [hx.1, hx.2]

theorem tab_of_laid {W : World} (h : laidMet Tryd.prog [("wainscot/spell.lowers", Rows.laid_wainscot_spell_lowers)] W) : Tab W := by
  obtain ⟨ps, ⟨g', t', cs, fuel, p, q, hg', ht', hvar, hd, _, _⟩, _⟩ := h
  obtain rfl := Option.some.inj (gTab.symm.trans hg')
  obtain rfl := Option.some.inj (gTabType.symm.trans ht')
  obtain ⟨xs, m, _, hx, hl, hxl, hall⟩ := DataW.trod_array Tryd.underlying50 hd
  rw [cellsArr] at hl
  rw [cellsRow] at hall
  have key : cs.toList = lowCells.toList := by
    match xs, hxl with
    | [x0, x1, x2, x3, x4], _ =>
      have hx1 := congrArg Prod.fst hx
      simp [Rows.laid_wainscot_spell_lowers] at hx1
      obtain ⟨g0, g1, g2, g3, g4⟩ := hx1
      have e0 := pair_of (p := []) (hall 0 (by omega)) g0.symm
      have e1 := pair_of (p := []) (hall 1 (by omega)) g1.symm
      have e2 := pair_of (p := []) (hall 2 (by omega)) g2.symm
      have e3 := pair_of (p := []) (hall 3 (by omega)) g3.symm
      have e4 := pair_of (p := []) (hall 4 (by omega)) g4.symm
      generalize cs.toList = l at *
      match l, hl with
      | [c0, c1, c2, c3, c4, c5, c6, c7, c8, c9], _ =>
        simp at e0 e1 e2 e3 e4
        obtain ⟨rfl, rfl⟩ := e0
        obtain ⟨rfl, rfl⟩ := e1
        obtain ⟨rfl, rfl⟩ := e2
        obtain ⟨rfl, rfl⟩ := e3
        obtain ⟨rfl, rfl⟩ := e4
        rfl
  obtain rfl : cs = lowCells := by
    apply Array.ext'
    exact key
  simp only [World.var?, gTab, Option.bind_some] at hvar
  split at hvar
  · rename_i c t fr e
    obtain rfl := Option.some.inj hvar
    exact ⟨t, fr, e⟩
  · cases hvar

theorem Tab.size {w : World} (h : Tab w) : 0 < w.heap.size := by
  obtain ⟨t, fr, e⟩ := h
  exact (Array.getElem?_eq_some_iff.1 e).1
theorem Tab.below {w w' : World} {B : Nat} (h : Tab w) (hB : w.heap.size ≤ B) (hb : Below B w w') : Tab w' := by
  have hs := h.size
  obtain ⟨t, fr, e⟩ := h
  exact ⟨t, fr, by rw [hb.block _ (by omega)]; exact e⟩

/-! ### isLower -/
/-- None of the first k rows has r. -/
def Out (k : Nat) (r : Int) : Prop := (1 ≤ k → ¬ (97 ≤ r ∧ r ≤ 122)) ∧ (2 ≤ k → ¬ (224 ≤ r ∧ r ≤ 246)) ∧ (3 ≤ k → ¬ (248 ≤ r ∧ r ≤ 254)) ∧ (4 ≤ k → ¬ (945 ≤ r ∧ r ≤ 961)) ∧ (5 ≤ k → ¬ (963 ≤ r ∧ r ≤ 969))
theorem out_low {r : Int} (h : Out 5 r) : sp.low r = false := by
  obtain ⟨a, b, c, d, e⟩ := h
  have a := a (by omega)
  have b := b (by omega)
  have c := c (by omega)
  have d := d (by omega)
  have e := e (by omega)
  rw [sp.low_false]
  omega
theorem in_low {r : Int} {a b : Int} (h1 : a ≤ r) (h2 : r ≤ b) (h : (a = 97 ∧ b = 122) ∨ (a = 224 ∧ b = 246) ∨ (a = 248 ∧ b = 254) ∨ (a = 945 ∧ b = 961) ∨ (a = 963 ∧ b = 969)) : sp.low r = true := by
  rw [sp.low_iff]
  omega
theorem ret_bool {a b : Bool} (h : a = b) : Ending.returned (.bool a) = .returned (.bool b) := by rw [h]
theorem ret_int {k : IntKind} {a b : Int} (h : a = b) : Ending.returned (.int k a) = .returned (.int k b) := by rw [h]

set_option maxHeartbeats 4000000 in
set_option maxRecDepth 100000 in
theorem isLower_any (r : Int) (w : World) (ht : Tab w) :
    Calls Tryd.prog 31 #[.int .i32 r] w fun e w' => e = .returned (.bool (sp.low r)) ∧ Below w.heap.size w w' := by
  obtain ⟨tt, fr, hg⟩ := ht
  have i0 : ∀ w, (Instr.index 50 (.agg lowCells) (.int .i64 0)).run Tryd.prog w = .ok (.agg #[.int .i32 97, .int .i32 122]) w := fun _ => by kernel_rfl
  have i1 : ∀ w, (Instr.index 50 (.agg lowCells) (.int .i64 1)).run Tryd.prog w = .ok (.agg #[.int .i32 224, .int .i32 246]) w := fun _ => by kernel_rfl
  have i2 : ∀ w, (Instr.index 50 (.agg lowCells) (.int .i64 2)).run Tryd.prog w = .ok (.agg #[.int .i32 248, .int .i32 254]) w := fun _ => by kernel_rfl
  have i3 : ∀ w, (Instr.index 50 (.agg lowCells) (.int .i64 3)).run Tryd.prog w = .ok (.agg #[.int .i32 945, .int .i32 961]) w := fun _ => by kernel_rfl
  have i4 : ∀ w, (Instr.index 50 (.agg lowCells) (.int .i64 4)).run Tryd.prog w = .ok (.agg #[.int .i32 963, .int .i32 969]) w := fun _ => by kernel_rfl
  go_enter Tryd.func31, Tryd.ntmps31
  go_wp2_with (refine wpList_load_row rfl 50 _ rfl 0 rfl tt _ fr _ hg Tryd.underlying50 rfl (by kernel_rfl) ?_)
  go_loopw [6] (fun i wr => ∃ k : Nat, k ≤ 5 ∧ i = .int .i64 k ∧ Out k r ∧ Below w.heap.size w wr) (fun i _ => 5 - (intOf i).toNat)
  case atStart => exact ⟨0, by omega, rfl, ⟨by omega, by omega, by omega, by omega, by omega⟩, Below.refl _ _⟩
  case round =>
    obtain ⟨k, hk, rfl, ho, hb⟩ := hrel
    have hz := hb.size
    obtain rfl | rfl | rfl | rfl | rfl | rfl : k = 0 ∨ k = 1 ∨ k = 2 ∨ k = 3 ∨ k = 4 ∨ k = 5 := by omega
    · go_wp2
      all_goals first
        | (go_ret; exact ⟨ret_bool (in_low (a := 97) (b := 122) (by assumption) (by assumption) (by omega)).symm, hb.alloc hz _⟩)
        | (go_roundw
           case rel => exact ⟨1, by omega, rfl, by unfold Out at *; omega, hb.alloc hz _⟩
           case measure => simp [intOf])
    · go_wp2
      all_goals first
        | (go_ret; exact ⟨ret_bool (in_low (a := 224) (b := 246) (by assumption) (by assumption) (by omega)).symm, hb.alloc hz _⟩)
        | (go_roundw
           case rel => exact ⟨2, by omega, rfl, by unfold Out at *; omega, hb.alloc hz _⟩
           case measure => simp [intOf])
    · go_wp2
      all_goals first
        | (go_ret; exact ⟨ret_bool (in_low (a := 248) (b := 254) (by assumption) (by assumption) (by omega)).symm, hb.alloc hz _⟩)
        | (go_roundw
           case rel => exact ⟨3, by omega, rfl, by unfold Out at *; omega, hb.alloc hz _⟩
           case measure => simp [intOf])
    · go_wp2
      all_goals first
        | (go_ret; exact ⟨ret_bool (in_low (a := 945) (b := 961) (by assumption) (by assumption) (by omega)).symm, hb.alloc hz _⟩)
        | (go_roundw
           case rel => exact ⟨4, by omega, rfl, by unfold Out at *; omega, hb.alloc hz _⟩
           case measure => simp [intOf])
    · go_wp2
      all_goals first
        | (go_ret; exact ⟨ret_bool (in_low (a := 963) (b := 969) (by assumption) (by assumption) (by omega)).symm, hb.alloc hz _⟩)
        | (go_roundw
           case rel => exact ⟨5, by omega, rfl, by unfold Out at *; omega, hb.alloc hz _⟩
           case measure => simp [intOf])
    · go_wp2
      go_ret
      exact ⟨ret_bool (out_low ho).symm, hb⟩

set_option maxHeartbeats 1000000 in
theorem lower_any (r : Int) (w : World) (ht : Tab w) (h0 : 0 ≤ r) (h1 : r ≤ 1200000) :
    Calls Tryd.prog 28 #[.int .i32 r] w fun e w' => e = .returned (.int .i32 (sp.fold r)) ∧ Below w.heap.size w w' := by
  by_cases hl : sp.low (r + 32) = true
  · have hf : sp.fold r = r + 32 := if_pos hl
    go_enter Tryd.func28, Tryd.ntmps28
    go_wp2_with (go_at_call 31; refine (isLower_any _ _ ht).mono ?_; rintro e w' ⟨rfl, hb⟩)
    go_ret
    exact ⟨ret_int hf.symm, hb⟩
  · have hf : sp.fold r = r := if_neg hl
    have hl' : sp.low (r + 32) = false := by simpa using hl
    clear hl
    go_enter Tryd.func28, Tryd.ntmps28
    go_wp2_with (go_at_call 31; refine (isLower_any _ _ ht).mono ?_; rintro e w' ⟨rfl, hb⟩)
    go_ret
    exact ⟨ret_int hf.symm, hb⟩

theorem fold_bounds {r : Int} (h0 : 0 ≤ r) (h1 : r ≤ 1114111) : 0 ≤ sp.fold r ∧ sp.fold r ≤ 1200000 := by
  rcases sp.fold_or r with ⟨e, _⟩ | ⟨e, _⟩ <;> rw [e] <;> omega

set_option maxHeartbeats 4000000 in
theorem mayStand_any (r : Int) (n : Nat) (w : World) (ht : Tab w) (h0 : 0 ≤ r) (h1 : r ≤ 1114111) (hn : n ≤ 16) :
    Calls Tryd.prog 23 #[.int .i32 r, .int .i64 n] w fun e w' => e = .returned (.bool (sp.may r n)) ∧ Below w.heap.size w w' := by
  have hfb := fold_bounds h0 h1
  by_cases hl : sp.low (sp.fold r) = true
  · have hm : sp.may r n = true := by simp [sp.may, hl]
    go_enter Tryd.func23, Tryd.ntmps23
    go_wp2_with (first
      | (go_at_call 28; refine (lower_any _ _ ht h0 (by omega)).mono ?_; rintro e w' ⟨rfl, hb⟩; have ht' := ht.below (Nat.le_refl _) hb; have hz := hb.size)
      | (go_at_call 31; refine (isLower_any _ _ ht').mono ?_; rintro e w'' ⟨rfl, hb'⟩))
    go_ret
    exact ⟨ret_bool hm.symm, hb.trans (hb'.mono hz)⟩
  · have hl' : sp.low (sp.fold r) = false := by simpa using hl
    have hm : sp.may r n = (decide (0 < n) && sp.tail3 r) := by simp [sp.may, hl']
    have HM := Lib.hid hm
    clear hl hm
    go_enter Tryd.func23, Tryd.ntmps23
    go_wp2_with (first
      | (go_at_call 28; refine (lower_any _ _ ht h0 (by omega)).mono ?_; rintro e w' ⟨rfl, hb⟩; have ht' := ht.below (Nat.le_refl _) hb; have hz := hb.size)
      | (go_at_call 31; refine (isLower_any _ _ ht').mono ?_; rintro e w'' ⟨rfl, hb'⟩))
    all_goals
      go_ret
      refine ⟨ret_bool ?_, hb.trans (hb'.mono hz)⟩
      first
        | rw [HM.out]
        | (obtain rfl : r = 45 := by assumption
           rw [HM.out])
        | (obtain rfl : r = 95 := by assumption
           rw [HM.out])
      rw [Bool.eq_iff_iff]
      first
        | (simp [sp.tail3]; done)
        | (simp [sp.tail3]; omega)
        | (simp only [sp.tail3, Bool.and_eq_true, Bool.or_eq_true, decide_eq_true_eq, beq_iff_eq, true_iff, false_iff, Bool.false_eq_true, eq_self]; omega)

set_option maxHeartbeats 4000000 in
theorem rsmall_any (r : Int) (w : World) :
    Calls Tryd.prog 25 #[.int .i32 r] w fun e w' => e = .returned (.bool (sp.low r)) ∧ w = w' := by
  go_enter Tryd.func25, Tryd.ntmps25
  go_wp2
  all_goals
    go_ret
    refine ⟨ret_bool ?_, rfl⟩
    rw [Bool.eq_iff_iff]
    first
      | (simp only [sp.low_iff, Bool.and_eq_true, Bool.or_eq_true, Bool.not_eq_true', decide_eq_true_eq, beq_iff_eq, bne_iff_ne, beq_eq_false_iff_ne, ne_eq, true_iff, false_iff, Bool.false_eq_true, eq_self]; omega)
      | (simp [sp.low_iff]; done)
      | (simp [sp.low_iff]; omega)

set_option maxHeartbeats 1000000 in
theorem rfold_any (r : Int) (w : World) (h0 : 0 ≤ r) (h1 : r ≤ 1200000) :
    Calls Tryd.prog 26 #[.int .i32 r] w fun e w' => e = .returned (.int .i32 (sp.fold r)) ∧ w = w' := by
  by_cases hl : sp.low (r + 32) = true
  · have hf : sp.fold r = r + 32 := if_pos hl
    go_enter Tryd.func26, Tryd.ntmps26
    go_wp2_with (go_at_call 25; refine (rsmall_any _ _).mono ?_; rintro e w' ⟨rfl, rfl⟩)
    go_ret
    exact ⟨ret_int hf.symm, rfl⟩
  · have hf : sp.fold r = r := if_neg hl
    have hl' : sp.low (r + 32) = false := by simpa using hl
    clear hl
    go_enter Tryd.func26, Tryd.ntmps26
    go_wp2_with (go_at_call 25; refine (rsmall_any _ _).mono ?_; rintro e w' ⟨rfl, rfl⟩)
    go_ret
    exact ⟨ret_int hf.symm, rfl⟩
end Go.Proofs.YtekajahffnhboabDoor
