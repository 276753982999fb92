/-
  PickKnown's tables: lists of bools, ends, lists of picks.
-/
import Derived.Test.YtkbehjkfeoffmaaRound
set_option linter.unusedVariables false
set_option linter.unusedSimpArgs false
namespace Go.Proofs.Ytkbehjkfeoffmaa
open Go Go.RowKit

theorem cell_new (w : World) (cs : Array Value) (t : TypeId) (i : Nat) : (w.alloc (.cells cs t)).cell? ⟨w.heap.size, i, none⟩ = cs[i]? := by
  have hb := heap_new w (.cells cs t)
  unfold World.cell?
  dsimp only
  rw [hb]
  simp
/-- a table of seven lists of bools -/
def TabB (w : World) (B : Nat) : Prop := ∀ i, i < 7 → ∃ v l, w.cell? ⟨B, i, none⟩ = some v ∧ ShowB w v l ∧ l.length ≤ 1048576
/-- a table of seven lists of numbers -/
def TabI (w : World) (B : Nat) : Prop := ∀ i, i < 7 → ∃ v l, w.cell? ⟨B, i, none⟩ = some v ∧ ShowI w v l
/-- nine numbers -/
def Ends (w : World) (B : Nat) : Prop := ∀ k, k < 9 → ∃ x : Int, w.cell? ⟨B, k, none⟩ = some (.int .i64 x)
theorem TabB.below {w w' : World} {B : Nat} (h : TabB w B) (hb : Below w.heap.size w w') : TabB w' B := fun i hi => by
  obtain ⟨v, l, h1, h2, h3⟩ := h i hi
  exact ⟨v, l, cell_keep hb h1, h2.below hb, h3⟩
theorem TabI.below {w w' : World} {B : Nat} (h : TabI w B) (hb : Below w.heap.size w w') : TabI w' B := fun i hi => by
  obtain ⟨v, l, h1, h2⟩ := h i hi
  exact ⟨v, l, cell_keep hb h1, h2.below hb⟩
theorem Ends.below {w w' : World} {B : Nat} (h : Ends w B) (hb : Below w.heap.size w w') : Ends w' B := fun k hk => by
  obtain ⟨x, h1⟩ := h k hk
  exact ⟨x, cell_keep hb h1⟩
theorem tabB_of {w w' : World} {B : Nat} (t : TypeId) {v0 v1 v2 v3 v4 v5 v6 : Value} {l0 l1 l2 l3 l4 l5 l6 : List Bool} (hB : w.heap.size = B) (hb : Below (w.heap.size + 1) (w.alloc (.cells #[v0, v1, v2, v3, v4, v5, v6] t)) w')
    (h0 : ShowB w' v0 l0 ∧ l0.length ≤ 1048576) (h1 : ShowB w' v1 l1 ∧ l1.length ≤ 1048576) (h2 : ShowB w' v2 l2 ∧ l2.length ≤ 1048576) (h3 : ShowB w' v3 l3 ∧ l3.length ≤ 1048576) (h4 : ShowB w' v4 l4 ∧ l4.length ≤ 1048576) (h5 : ShowB w' v5 l5 ∧ l5.length ≤ 1048576) (h6 : ShowB w' v6 l6 ∧ l6.length ≤ 1048576) : TabB w' B := by
  subst hB
  intro i hi
  have hc : w'.cell? ⟨w.heap.size, i, none⟩ = #[v0, v1, v2, v3, v4, v5, v6][i]? := (hb.cell (p := ⟨w.heap.size, i, none⟩) (Nat.lt_succ_self _)).trans (cell_new w _ t i)
  match i, hi with
  | 0, _ => exact ⟨v0, l0, hc, h0⟩
  | 1, _ => exact ⟨v1, l1, hc, h1⟩
  | 2, _ => exact ⟨v2, l2, hc, h2⟩
  | 3, _ => exact ⟨v3, l3, hc, h3⟩
  | 4, _ => exact ⟨v4, l4, hc, h4⟩
  | 5, _ => exact ⟨v5, l5, hc, h5⟩
  | 6, _ => exact ⟨v6, l6, hc, h6⟩
theorem tabI_of {w w' : World} {B : Nat} (t : TypeId) {v0 v1 v2 v3 v4 v5 v6 : Value} {l0 l1 l2 l3 l4 l5 l6 : List Int} (hB : w.heap.size = B) (hb : Below (w.heap.size + 1) (w.alloc (.cells #[v0, v1, v2, v3, v4, v5, v6] t)) w')
    (h0 : ShowI w' v0 l0) (h1 : ShowI w' v1 l1) (h2 : ShowI w' v2 l2) (h3 : ShowI w' v3 l3) (h4 : ShowI w' v4 l4) (h5 : ShowI w' v5 l5) (h6 : ShowI w' v6 l6) : TabI w' B := by
  subst hB
  intro i hi
  have hc : w'.cell? ⟨w.heap.size, i, none⟩ = #[v0, v1, v2, v3, v4, v5, v6][i]? := (hb.cell (p := ⟨w.heap.size, i, none⟩) (Nat.lt_succ_self _)).trans (cell_new w _ t i)
  match i, hi with
  | 0, _ => exact ⟨v0, l0, hc, h0⟩
  | 1, _ => exact ⟨v1, l1, hc, h1⟩
  | 2, _ => exact ⟨v2, l2, hc, h2⟩
  | 3, _ => exact ⟨v3, l3, hc, h3⟩
  | 4, _ => exact ⟨v4, l4, hc, h4⟩
  | 5, _ => exact ⟨v5, l5, hc, h5⟩
  | 6, _ => exact ⟨v6, l6, hc, h6⟩
theorem ends_of (w : World) (t : TypeId) (a b c d e f g h i : Int) : Ends (w.alloc (.cells #[.int .i64 a, .int .i64 b, .int .i64 c, .int .i64 d, .int .i64 e, .int .i64 f, .int .i64 g, .int .i64 h, .int .i64 i] t)) w.heap.size := by
  intro k hk
  have hc := cell_new w #[.int .i64 a, .int .i64 b, .int .i64 c, .int .i64 d, .int .i64 e, .int .i64 f, .int .i64 g, .int .i64 h, .int .i64 i] t k
  match k, hk with
  | 0, _ => exact ⟨_, hc⟩
  | 1, _ => exact ⟨_, hc⟩
  | 2, _ => exact ⟨_, hc⟩
  | 3, _ => exact ⟨_, hc⟩
  | 4, _ => exact ⟨_, hc⟩
  | 5, _ => exact ⟨_, hc⟩
  | 6, _ => exact ⟨_, hc⟩
  | 7, _ => exact ⟨_, hc⟩
  | 8, _ => exact ⟨_, hc⟩
theorem know1 (W : World) (O : Obj) (hr : ∀ w : World, (w.alloc O).rowIs w.heap.size 4 50 (fun _ => .bool false)) : TabB (World.alloc (World.alloc (World.alloc (World.alloc (World.alloc (World.alloc (World.alloc (World.alloc W (.cells #[.bool false] 4)) (.cells #[.bool true] 4)) (.cells #[.bool false, .bool false] 4)) (.cells #[.bool true, .bool false, .bool true, .bool true] 4)) (.cells #[.bool false, .bool true, .bool false] 4)) O) (.cells #[.slice none 0 0, .slice (some ⟨W.heap.size, 0, none⟩) 1 1, .slice (some ⟨W.heap.size + 1, 0, none⟩) 1 1, .slice (some ⟨W.heap.size + 1 + 1, 0, none⟩) 2 2, .slice (some ⟨W.heap.size + 1 + 1 + 1, 0, none⟩) 4 4, .slice (some ⟨W.heap.size + 1 + 1 + 1 + 1, 0, none⟩) 3 3, .slice (some ⟨W.heap.size + 1 + 1 + 1 + 1 + 1, 0, none⟩) 50 50] 22)) (.cells #[.int .i64 (-9223372036854775808), .int .i64 (-5), .int .i64 (-1), .int .i64 0, .int .i64 1, .int .i64 2, .int .i64 3, .int .i64 7, .int .i64 9223372036854775807] 3)) (W.heap.size + 1 + 1 + 1 + 1 + 1 + 1) ∧ Ends (World.alloc (World.alloc (World.alloc (World.alloc (World.alloc (World.alloc (World.alloc (World.alloc W (.cells #[.bool false] 4)) (.cells #[.bool true] 4)) (.cells #[.bool false, .bool false] 4)) (.cells #[.bool true, .bool false, .bool true, .bool true] 4)) (.cells #[.bool false, .bool true, .bool false] 4)) O) (.cells #[.slice none 0 0, .slice (some ⟨W.heap.size, 0, none⟩) 1 1, .slice (some ⟨W.heap.size + 1, 0, none⟩) 1 1, .slice (some ⟨W.heap.size + 1 + 1, 0, none⟩) 2 2, .slice (some ⟨W.heap.size + 1 + 1 + 1, 0, none⟩) 4 4, .slice (some ⟨W.heap.size + 1 + 1 + 1 + 1, 0, none⟩) 3 3, .slice (some ⟨W.heap.size + 1 + 1 + 1 + 1 + 1, 0, none⟩) 50 50] 22)) (.cells #[.int .i64 (-9223372036854775808), .int .i64 (-5), .int .i64 (-1), .int .i64 0, .int .i64 1, .int .i64 2, .int .i64 3, .int .i64 7, .int .i64 9223372036854775807] 3)) (W.heap.size + 1 + 1 + 1 + 1 + 1 + 1 + 1) ∧ Below W.heap.size W (World.alloc (World.alloc (World.alloc (World.alloc (World.alloc (World.alloc (World.alloc (World.alloc W (.cells #[.bool false] 4)) (.cells #[.bool true] 4)) (.cells #[.bool false, .bool false] 4)) (.cells #[.bool true, .bool false, .bool true, .bool true] 4)) (.cells #[.bool false, .bool true, .bool false] 4)) O) (.cells #[.slice none 0 0, .slice (some ⟨W.heap.size, 0, none⟩) 1 1, .slice (some ⟨W.heap.size + 1, 0, none⟩) 1 1, .slice (some ⟨W.heap.size + 1 + 1, 0, none⟩) 2 2, .slice (some ⟨W.heap.size + 1 + 1 + 1, 0, none⟩) 4 4, .slice (some ⟨W.heap.size + 1 + 1 + 1 + 1, 0, none⟩) 3 3, .slice (some ⟨W.heap.size + 1 + 1 + 1 + 1 + 1, 0, none⟩) 50 50] 22)) (.cells #[.int .i64 (-9223372036854775808), .int .i64 (-5), .int .i64 (-1), .int .i64 0, .int .i64 1, .int .i64 2, .int .i64 3, .int .i64 7, .int .i64 9223372036854775807] 3)) := by
  obtain ⟨w1, e1⟩ : ∃ w1, World.alloc W (.cells #[.bool false] 4) = w1 := ⟨_, rfl⟩
  rw [e1]
  have b1 : Below W.heap.size W w1 := by rw [← e1]; exact below_one (Below.refl _ _) _
  have z1 : w1.heap.size = W.heap.size + 1 := by rw [← e1]; exact size_alloc _ _
  have s1 : ShowB w1 (.slice (some ⟨W.heap.size, 0, none⟩) 1 1) [false] := by
    rw [← e1]
    exact lit_b _ _ [false] 1 rfl (by decide)
  obtain ⟨w2, e2⟩ : ∃ w2, World.alloc w1 (.cells #[.bool true] 4) = w2 := ⟨_, rfl⟩
  rw [e2]
  have b2 : Below w1.heap.size w1 w2 := by rw [← e2]; exact below_one (Below.refl _ _) _
  have z2 : w2.heap.size = W.heap.size + 1 + 1 := by rw [← e2, size_alloc, z1]
  have s2 : ShowB w2 (.slice (some ⟨W.heap.size + 1, 0, none⟩) 1 1) [true] := by
    rw [← e2, ← z1]
    exact lit_b _ _ [true] 1 rfl (by decide)
  obtain ⟨w3, e3⟩ : ∃ w3, World.alloc w2 (.cells #[.bool false, .bool false] 4) = w3 := ⟨_, rfl⟩
  rw [e3]
  have b3 : Below w2.heap.size w2 w3 := by rw [← e3]; exact below_one (Below.refl _ _) _
  have z3 : w3.heap.size = W.heap.size + 1 + 1 + 1 := by rw [← e3, size_alloc, z2]
  have s3 : ShowB w3 (.slice (some ⟨W.heap.size + 1 + 1, 0, none⟩) 2 2) [false, false] := by
    rw [← e3, ← z2]
    exact lit_b _ _ [false, false] 2 rfl (by decide)
  obtain ⟨w4, e4⟩ : ∃ w4, World.alloc w3 (.cells #[.bool true, .bool false, .bool true, .bool true] 4) = w4 := ⟨_, rfl⟩
  rw [e4]
  have b4 : Below w3.heap.size w3 w4 := by rw [← e4]; exact below_one (Below.refl _ _) _
  have z4 : w4.heap.size = W.heap.size + 1 + 1 + 1 + 1 := by rw [← e4, size_alloc, z3]
  have s4 : ShowB w4 (.slice (some ⟨W.heap.size + 1 + 1 + 1, 0, none⟩) 4 4) [true, false, true, true] := by
    rw [← e4, ← z3]
    exact lit_b _ _ [true, false, true, true] 4 rfl (by decide)
  obtain ⟨w5, e5⟩ : ∃ w5, World.alloc w4 (.cells #[.bool false, .bool true, .bool false] 4) = w5 := ⟨_, rfl⟩
  rw [e5]
  have b5 : Below w4.heap.size w4 w5 := by rw [← e5]; exact below_one (Below.refl _ _) _
  have z5 : w5.heap.size = W.heap.size + 1 + 1 + 1 + 1 + 1 := by rw [← e5, size_alloc, z4]
  have s5 : ShowB w5 (.slice (some ⟨W.heap.size + 1 + 1 + 1 + 1, 0, none⟩) 3 3) [false, true, false] := by
    rw [← e5, ← z4]
    exact lit_b _ _ [false, true, false] 3 rfl (by decide)
  obtain ⟨w6, e6⟩ : ∃ w6, World.alloc w5 O = w6 := ⟨_, rfl⟩
  rw [e6]
  have b6 : Below w5.heap.size w5 w6 := by rw [← e6]; exact below_one (Below.refl _ _) _
  have z6 : w6.heap.size = W.heap.size + 1 + 1 + 1 + 1 + 1 + 1 := by rw [← e6, size_alloc, z5]
  have s6 : ShowB w6 (.slice (some ⟨W.heap.size + 1 + 1 + 1 + 1 + 1, 0, none⟩) 50 50) (List.replicate 50 false) := by
    rw [← e6, ← z5]
    exact row_b ((hr _).congr (fun i hi => by rw [show run (List.replicate 50 false) i = false by unfold run; rw [List.getD_eq_getElem?_getD, List.getElem?_replicate]; split <;> rfl])) (by simp) (by decide)
  obtain ⟨w7, e7⟩ : ∃ w7, World.alloc w6 (.cells #[.slice none 0 0, .slice (some ⟨W.heap.size, 0, none⟩) 1 1, .slice (some ⟨W.heap.size + 1, 0, none⟩) 1 1, .slice (some ⟨W.heap.size + 1 + 1, 0, none⟩) 2 2, .slice (some ⟨W.heap.size + 1 + 1 + 1, 0, none⟩) 4 4, .slice (some ⟨W.heap.size + 1 + 1 + 1 + 1, 0, none⟩) 3 3, .slice (some ⟨W.heap.size + 1 + 1 + 1 + 1 + 1, 0, none⟩) 50 50] 22) = w7 := ⟨_, rfl⟩
  rw [e7]
  have b7 : Below w6.heap.size w6 w7 := by rw [← e7]; exact below_one (Below.refl _ _) _
  have z7 : w7.heap.size = W.heap.size + 1 + 1 + 1 + 1 + 1 + 1 + 1 := by rw [← e7, size_alloc, z6]
  obtain ⟨w8, e8⟩ : ∃ w8, World.alloc w7 (.cells #[.int .i64 (-9223372036854775808), .int .i64 (-5), .int .i64 (-1), .int .i64 0, .int .i64 1, .int .i64 2, .int .i64 3, .int .i64 7, .int .i64 9223372036854775807] 3) = w8 := ⟨_, rfl⟩
  rw [e8]
  have b8 : Below w7.heap.size w7 w8 := by rw [← e8]; exact below_one (Below.refl _ _) _
  have z8 : w8.heap.size = W.heap.size + 1 + 1 + 1 + 1 + 1 + 1 + 1 + 1 := by rw [← e8, size_alloc, z7]
  have c8 : Below w8.heap.size w8 w8 := Below.refl _ _
  have c7 : Below w7.heap.size w7 w8 := below_then b8 c8
  have c6 : Below w6.heap.size w6 w8 := below_then b7 c7
  have c5 : Below w5.heap.size w5 w8 := below_then b6 c6
  have c4 : Below w4.heap.size w4 w8 := below_then b5 c5
  have c3 : Below w3.heap.size w3 w8 := below_then b4 c4
  have c2 : Below w2.heap.size w2 w8 := below_then b3 c3
  have c1 : Below w1.heap.size w1 w8 := below_then b2 c2
  have c0 : Below W.heap.size W w8 := below_then b1 c1
  have en : Ends w8 (W.heap.size + 1 + 1 + 1 + 1 + 1 + 1 + 1) := by
    rw [← e8, ← z7]
    exact ends_of _ _ _ _ _ _ _ _ _ _ _
  exact ⟨tabB_of (w := w6) 22 z6 (by rw [e7, show w6.heap.size + 1 = w7.heap.size by rw [z6, z7]]; exact c7) ⟨ShowB.nil _, by decide⟩ ⟨s1.below c1, by decide⟩ ⟨s2.below c2, by decide⟩ ⟨s3.below c3, by decide⟩ ⟨s4.below c4, by decide⟩ ⟨s5.below c5, by decide⟩ ⟨s6.below c6, by decide⟩, en, c0⟩
theorem know2 (W : World) : TabI (World.alloc (World.alloc (World.alloc (World.alloc (World.alloc (World.alloc (World.alloc W (.cells #[.int .i64 0] 3)) (.cells #[.int .i64 1, .int .i64 0] 3)) (.cells #[.int .i64 0, .int .i64 1, .int .i64 2, .int .i64 0, .int .i64 1, .int .i64 2] 3)) (.cells #[.int .i64 0, .int .i64 0, .int .i64 0, .int .i64 1] 3)) (.cells #[.int .i64 1, .int .i64 1, .int .i64 1, .int .i64 0] 3)) (.cells #[.int .i64 9, .int .i64 (-1), .int .i64 9] 3)) (.cells #[.slice none 0 0, .slice (some ⟨W.heap.size, 0, none⟩) 1 1, .slice (some ⟨W.heap.size + 1, 0, none⟩) 2 2, .slice (some ⟨W.heap.size + 1 + 1, 0, none⟩) 6 6, .slice (some ⟨W.heap.size + 1 + 1 + 1, 0, none⟩) 4 4, .slice (some ⟨W.heap.size + 1 + 1 + 1 + 1, 0, none⟩) 4 4, .slice (some ⟨W.heap.size + 1 + 1 + 1 + 1 + 1, 0, none⟩) 3 3] 27)) (W.heap.size + 1 + 1 + 1 + 1 + 1 + 1) ∧ Below W.heap.size W (World.alloc (World.alloc (World.alloc (World.alloc (World.alloc (World.alloc (World.alloc W (.cells #[.int .i64 0] 3)) (.cells #[.int .i64 1, .int .i64 0] 3)) (.cells #[.int .i64 0, .int .i64 1, .int .i64 2, .int .i64 0, .int .i64 1, .int .i64 2] 3)) (.cells #[.int .i64 0, .int .i64 0, .int .i64 0, .int .i64 1] 3)) (.cells #[.int .i64 1, .int .i64 1, .int .i64 1, .int .i64 0] 3)) (.cells #[.int .i64 9, .int .i64 (-1), .int .i64 9] 3)) (.cells #[.slice none 0 0, .slice (some ⟨W.heap.size, 0, none⟩) 1 1, .slice (some ⟨W.heap.size + 1, 0, none⟩) 2 2, .slice (some ⟨W.heap.size + 1 + 1, 0, none⟩) 6 6, .slice (some ⟨W.heap.size + 1 + 1 + 1, 0, none⟩) 4 4, .slice (some ⟨W.heap.size + 1 + 1 + 1 + 1, 0, none⟩) 4 4, .slice (some ⟨W.heap.size + 1 + 1 + 1 + 1 + 1, 0, none⟩) 3 3] 27)) := by
  obtain ⟨w1, e1⟩ : ∃ w1, World.alloc W (.cells #[.int .i64 0] 3) = w1 := ⟨_, rfl⟩
  rw [e1]
  have b1 : Below W.heap.size W w1 := by rw [← e1]; exact below_one (Below.refl _ _) _
  have z1 : w1.heap.size = W.heap.size + 1 := by rw [← e1]; exact size_alloc _ _
  have s1 : ShowI w1 (.slice (some ⟨W.heap.size, 0, none⟩) 1 1) [0] := by
    rw [← e1]
    exact lit_i _ _ [0] 1 rfl (by decide)
  obtain ⟨w2, e2⟩ : ∃ w2, World.alloc w1 (.cells #[.int .i64 1, .int .i64 0] 3) = w2 := ⟨_, rfl⟩
  rw [e2]
  have b2 : Below w1.heap.size w1 w2 := by rw [← e2]; exact below_one (Below.refl _ _) _
  have z2 : w2.heap.size = W.heap.size + 1 + 1 := by rw [← e2, size_alloc, z1]
  have s2 : ShowI w2 (.slice (some ⟨W.heap.size + 1, 0, none⟩) 2 2) [1, 0] := by
    rw [← e2, ← z1]
    exact lit_i _ _ [1, 0] 2 rfl (by decide)
  obtain ⟨w3, e3⟩ : ∃ w3, World.alloc w2 (.cells #[.int .i64 0, .int .i64 1, .int .i64 2, .int .i64 0, .int .i64 1, .int .i64 2] 3) = w3 := ⟨_, rfl⟩
  rw [e3]
  have b3 : Below w2.heap.size w2 w3 := by rw [← e3]; exact below_one (Below.refl _ _) _
  have z3 : w3.heap.size = W.heap.size + 1 + 1 + 1 := by rw [← e3, size_alloc, z2]
  have s3 : ShowI w3 (.slice (some ⟨W.heap.size + 1 + 1, 0, none⟩) 6 6) [0, 1, 2, 0, 1, 2] := by
    rw [← e3, ← z2]
    exact lit_i _ _ [0, 1, 2, 0, 1, 2] 6 rfl (by decide)
  obtain ⟨w4, e4⟩ : ∃ w4, World.alloc w3 (.cells #[.int .i64 0, .int .i64 0, .int .i64 0, .int .i64 1] 3) = w4 := ⟨_, rfl⟩
  rw [e4]
  have b4 : Below w3.heap.size w3 w4 := by rw [← e4]; exact below_one (Below.refl _ _) _
  have z4 : w4.heap.size = W.heap.size + 1 + 1 + 1 + 1 := by rw [← e4, size_alloc, z3]
  have s4 : ShowI w4 (.slice (some ⟨W.heap.size + 1 + 1 + 1, 0, none⟩) 4 4) [0, 0, 0, 1] := by
    rw [← e4, ← z3]
    exact lit_i _ _ [0, 0, 0, 1] 4 rfl (by decide)
  obtain ⟨w5, e5⟩ : ∃ w5, World.alloc w4 (.cells #[.int .i64 1, .int .i64 1, .int .i64 1, .int .i64 0] 3) = w5 := ⟨_, rfl⟩
  rw [e5]
  have b5 : Below w4.heap.size w4 w5 := by rw [← e5]; exact below_one (Below.refl _ _) _
  have z5 : w5.heap.size = W.heap.size + 1 + 1 + 1 + 1 + 1 := by rw [← e5, size_alloc, z4]
  have s5 : ShowI w5 (.slice (some ⟨W.heap.size + 1 + 1 + 1 + 1, 0, none⟩) 4 4) [1, 1, 1, 0] := by
    rw [← e5, ← z4]
    exact lit_i _ _ [1, 1, 1, 0] 4 rfl (by decide)
  obtain ⟨w6, e6⟩ : ∃ w6, World.alloc w5 (.cells #[.int .i64 9, .int .i64 (-1), .int .i64 9] 3) = w6 := ⟨_, rfl⟩
  rw [e6]
  have b6 : Below w5.heap.size w5 w6 := by rw [← e6]; exact below_one (Below.refl _ _) _
  have z6 : w6.heap.size = W.heap.size + 1 + 1 + 1 + 1 + 1 + 1 := by rw [← e6, size_alloc, z5]
  have s6 : ShowI w6 (.slice (some ⟨W.heap.size + 1 + 1 + 1 + 1 + 1, 0, none⟩) 3 3) [9, (-1), 9] := by
    rw [← e6, ← z5]
    exact lit_i _ _ [9, (-1), 9] 3 rfl (by decide)
  obtain ⟨w7, e7⟩ : ∃ w7, World.alloc w6 (.cells #[.slice none 0 0, .slice (some ⟨W.heap.size, 0, none⟩) 1 1, .slice (some ⟨W.heap.size + 1, 0, none⟩) 2 2, .slice (some ⟨W.heap.size + 1 + 1, 0, none⟩) 6 6, .slice (some ⟨W.heap.size + 1 + 1 + 1, 0, none⟩) 4 4, .slice (some ⟨W.heap.size + 1 + 1 + 1 + 1, 0, none⟩) 4 4, .slice (some ⟨W.heap.size + 1 + 1 + 1 + 1 + 1, 0, none⟩) 3 3] 27) = w7 := ⟨_, rfl⟩
  rw [e7]
  have b7 : Below w6.heap.size w6 w7 := by rw [← e7]; exact below_one (Below.refl _ _) _
  have z7 : w7.heap.size = W.heap.size + 1 + 1 + 1 + 1 + 1 + 1 + 1 := by rw [← e7, size_alloc, z6]
  have c7 : Below w7.heap.size w7 w7 := Below.refl _ _
  have c6 : Below w6.heap.size w6 w7 := below_then b7 c7
  have c5 : Below w5.heap.size w5 w7 := below_then b6 c6
  have c4 : Below w4.heap.size w4 w7 := below_then b5 c5
  have c3 : Below w3.heap.size w3 w7 := below_then b4 c4
  have c2 : Below w2.heap.size w2 w7 := below_then b3 c3
  have c1 : Below w1.heap.size w1 w7 := below_then b2 c2
  have c0 : Below W.heap.size W w7 := below_then b1 c1
  exact ⟨tabI_of (w := w6) 27 z6 (by rw [e7, show w6.heap.size + 1 = w7.heap.size by rw [z6, z7]]; exact c7) (ShowI.nil _) (s1.below c1) (s2.below c2) (s3.below c3) (s4.below c4) (s5.below c5) (s6.below c6), c0⟩
end Go.Proofs.Ytkbehjkfeoffmaa
