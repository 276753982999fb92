/-
  An array beside the counters.
-/
import Derived.Test.YtahkfagfobfliaaOne
import Derived.Test.YtahkfagfobfliaaDo
set_option linter.unusedVariables false
set_option linter.unusedSimpArgs false
namespace Go.Proofs.Ytahkfagfobfliaa
open Go Go.RowKit

def fillI (f : Nat → Int) (g x : Nat) : Value := .int .i64 (if 1 ≤ x ∧ x < g then f x else 0)
theorem fillI_next (f : Nat → Int) {g : Nat} (hg : 1 ≤ g) (i : Nat) : (if i = g then Value.int .i64 (f g) else fillI f g i) = fillI f (g + 1) i := by
  unfold fillI
  by_cases e : i = g
  · subst e; rw [if_pos rfl, if_pos (by omega)]
  · rw [if_neg e]
    by_cases e2 : 1 ≤ i ∧ i < g
    · rw [if_pos e2, if_pos (by omega)]
    · rw [if_neg e2, if_neg (by omega)]
theorem fillI_at {f : Nat → Int} {g x : Nat} (h : 1 ≤ x ∧ x < g) : fillI f g x = .int .i64 (f x) := by unfold fillI; rw [if_pos h]
section
variable {W w w' : World} {B g U : Nat} {t t' : Ct} {fu fu' : Nat → Value}
/-- an array beside the counters -/
structure UK (W w : World) (B g : Nat) (t : Ct) (U : Nat) (fu : Nat → Value) : Prop where
  o : C1 W w B g t
  u : w.rowIs U 34 17 fu
  ge : W.heap.size ≤ U
theorem UK.kt (h : UK W w B g t U fu) (ho : C1 W w' B g t') (hk : KT tysA w w') : UK W w' B g t' U fu := ⟨ho, hk.row h.u (by decide), h.ge⟩
theorem UK.below (h : UK W w B g t U fu) (hb : Below w.heap.size w w') : UK W w' B g t U fu := h.kt (h.o.below hb) (KT.ofBelow hb)
theorem UK.drew (h : UK W w B g t U fu) : UK W w.drew B g t U fu := h.below (Below.refl _ w).drew
theorem UK.setU (h : UK W w B g t U fu) (i : Nat) (v : Value) (hf : ∀ j, (if j = i then v else fu j) = fu' j) : UK W (w.setCell ⟨U, i, none⟩ v) B g t U fu' := by
  have hk : Kept (· = U) w (w.setCell ⟨U, i, none⟩ v) := Kept.setCell (S := (· = U)) (p := ⟨U, i, none⟩) (Kept.refl _ w) rfl _
  exact ⟨h.o.kt ⟨_, hk, row_typ h.u⟩ (below_kept h.o.low hk (fun k e => by subst e; exact h.ge)) (by decide), (h.u.set i v).congr (fun j _ => hf j), h.ge⟩
theorem UK.cu (h : UK W w B g t U fu) {i : Nat} (hi : i < 17) : w.cell? ⟨U, i, none⟩ = some (fu i) := h.u.cell hi
theorem UK.new (h : C1 W w B g t) {ZN : Array Value} (hZ : ∀ w : World, (w.alloc (.cells ZN 34)).rowIs w.heap.size 34 17 (fun _ => .int .i64 0)) (f : Nat → Int) : UK W (w.alloc (.cells ZN 34)) B g t w.heap.size (fillI f 1) :=
  ⟨h.alloc _, (hZ w).congr (fun i _ => by unfold fillI; rw [if_neg (by omega)]), h.low.size⟩
end
end Go.Proofs.Ytahkfagfobfliaa
