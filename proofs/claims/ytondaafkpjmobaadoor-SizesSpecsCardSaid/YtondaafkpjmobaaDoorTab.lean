/-
  The array of sizes as the program's memory holds it.
-/
import Derived.Test.YtondaafkpjmobaaDoorPure
set_option linter.unusedVariables false
set_option linter.unusedSimpArgs false
namespace Go.Proofs.YtondaafkpjmobaaDoor
open Go Go.RowKit Go.ChangeShapes Go.WideShapes Go.ChangeAt

abbrev szC : Array Value := #[.int .i64 8, .int .i64 16, .int .i64 32, .int .i64 48, .int .i64 64, .int .i64 96, .int .i64 128, .int .i64 192, .int .i64 256, .int .i64 512]
/-- The variable holds the sizes. -/
def Tab (w : World) : Prop := ∃ t fr, w.heap[0]? = some (.cells szC t fr)
theorem gTab : Tryd.prog.globalNamed "wainscot/sizes.sizes" = some 0 := by kernel_rfl
theorem gTabType : (Tryd.prog.globals[0]?).map (·.type) = some 36 := by kernel_rfl
theorem cellsArr : Tryd.prog.cellsOf 36 = 10 := by kernel_rfl
theorem cellsInt : Tryd.prog.cellsOf 3 = 1 := by kernel_rfl
theorem one_of {w : World} {sp : Nat → Bool} {fuel : Nat} {cs : List Value} {a : Int} {x : DataW Unit × List MemPlace}
    (h : DataW.trod (fun _ => ()) Tryd.prog w 0 sp false fuel 3 cs = some x) (hx : x.1 = .lit (.int .i64 a)) : cs = [.int .i64 a] := by
  obtain ⟨n0, e0, f0, _⟩ := DataW.trod_int Tryd.underlying3 h
  rw [f0] at hx
  simp at hx
  rw [e0, hx]
theorem tab_of_laid {W : World} (h : laidMet Tryd.prog [("wainscot/sizes.sizes", Rows.laid_wainscot_sizes_sizes)] W) : Tab W := by
  obtain ⟨ps, ⟨g', t', cs, fuel, p, q, hg', ht', hvar, hd, _, _⟩, _⟩ := h
  obtain rfl := Option.some.inj (gTab.symm.trans hg')
  obtain rfl := Option.some.inj (gTabType.symm.trans ht')
  obtain ⟨xs, m, _, hx, hl, hxl, hall⟩ := DataW.trod_array Tryd.underlying36 hd
  rw [cellsArr] at hl
  rw [cellsInt] at hall
  have key : cs.toList = szC.toList := by
    match xs, hxl with
    | [x0, x1, x2, x3, x4, x5, x6, x7, x8, x9], _ =>
      have hx1 := congrArg Prod.fst hx
      simp [Rows.laid_wainscot_sizes_sizes] at hx1
      obtain ⟨g0, g1, g2, g3, g4, g5, g6, g7, g8, g9⟩ := hx1
      have e0 := one_of (hall 0 (by omega)) g0.symm
      have e1 := one_of (hall 1 (by omega)) g1.symm
      have e2 := one_of (hall 2 (by omega)) g2.symm
      have e3 := one_of (hall 3 (by omega)) g3.symm
      have e4 := one_of (hall 4 (by omega)) g4.symm
      have e5 := one_of (hall 5 (by omega)) g5.symm
      have e6 := one_of (hall 6 (by omega)) g6.symm
      have e7 := one_of (hall 7 (by omega)) g7.symm
      have e8 := one_of (hall 8 (by omega)) g8.symm
      have e9 := one_of (hall 9 (by omega)) g9.symm
      generalize cs.toList = l at *
      match l, hl with
      | [c0, c1, c2, c3, c4, c5, c6, c7, c8, c9], _ =>
        simp at e0 e1 e2 e3 e4 e5 e6 e7 e8 e9
        subst e0 e1 e2 e3 e4 e5 e6 e7 e8 e9
        rfl
  obtain rfl : cs = szC := by
    apply Array.ext'
    exact key
  simp only [World.var?, gTab, Option.bind_some] at hvar
  split at hvar
  · rename_i c t fr e
    obtain rfl := Option.some.inj hvar
    exact ⟨t, fr, e⟩
  · cases hvar
theorem Tab.size {w : World} (h : Tab w) : 0 < w.heap.size := by
  obtain ⟨t, fr, e⟩ := h
  exact (Array.getElem?_eq_some_iff.1 e).1
theorem Tab.below {w w' : World} (h : Tab w) (hb : Below w.heap.size w w') : Tab w' := by
  have hs := h.size
  obtain ⟨t, fr, e⟩ := h
  exact ⟨t, fr, by rw [hb.block _ hs]; exact e⟩
theorem Tab.cell {w : World} (h : Tab w) {k : Nat} (hk : k < 10) : w.cell? ⟨0, k, none⟩ = some (.int .i64 (sz k)) := by
  obtain ⟨t, fr, e⟩ := h
  refine self_cell e k _ ?_
  rcases ten hk with rfl | rfl | rfl | rfl | rfl | rfl | rfl | rfl | rfl | rfl <;> rfl
theorem Tab.alloc {w : World} (h : Tab w) (o : Obj) : Tab (w.alloc o) := h.below ((Below.refl _ w).alloc (Nat.le_refl _) o)

/-! ### the closure: has this class room -/
set_option maxHeartbeats 1000000 in
theorem cRoom (b : Nat) (n : Int) (k : Nat) (hk : k < 10) (q : Bool) (hq : decide (n ≤ sz k) = q) (w : World) (ht : Tab w) (hc : w.cell? ⟨b, 0, none⟩ = some (.int .i64 n)) :
    Calls Tryd.prog 18 #[.int .i64 k, .pointer (some ⟨b, 0, none⟩)] w fun e w' => e = .returned (.bool q) ∧ Below w.heap.size w w' := by
  have hcell := ht.cell hk
  have HQ := Lib.hid hq
  generalize sz k = s at *
  have hz := ht.size
  have hk0 : (0 : Int) ≤ (k : Int) ∧ (k : Int) < 10 := ⟨by omega, by omega⟩
  obtain ⟨hk1, hk2⟩ := hk0
  clear hq ht
  go_enter Tryd.func18, Tryd.ntmps18
  go_wp2
  go_region
  go_wp2
  go_ret
  exact ⟨ret_bool HQ.out, (Below.refl _ _).drew⟩
end Go.Proofs.YtondaafkpjmobaaDoor
