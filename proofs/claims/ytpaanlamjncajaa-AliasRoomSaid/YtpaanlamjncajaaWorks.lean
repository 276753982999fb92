/-
  The chapter's examples, as every statement asks them.
-/
import Derived.Test.YtpaanlamjncajaaFind
set_option linter.unusedVariables false
set_option linter.unusedSimpArgs false
namespace Go.Proofs.Ytpaanlamjncajaa
open Go Go.RowKit

def pA : Sp := ⟨30, 16, 0⟩
def pB : Sp := ⟨25, 8, 0⟩
def pC : Sp := ⟨20, 8, 4⟩
theorem known1 : (Sp.mk 20 8 0).step = 24 ∧ (Sp.mk 20 16 0).step = 32 ∧ (Sp.mk 0 8 0).step = 0 := by decide
theorem known2 : srv ⟨30, 16, 0⟩ ⟨25, 8, 0⟩ = true ∧ srv ⟨25, 8, 0⟩ ⟨30, 16, 0⟩ = false ∧ srv ⟨20, 8, 4⟩ ⟨20, 8, 4⟩ = false := by decide
theorem known3 : fV [⟨8, 8, 0⟩, ⟨30, 16, 0⟩, ⟨25, 32, 0⟩] ⟨31, 16, 0⟩ = 1 ∧ fB [⟨8, 8, 0⟩, ⟨30, 16, 0⟩, ⟨25, 32, 0⟩] ⟨31, 16, 0⟩ = true := by decide
theorem show_lit (w : World) (l : List Sp) (n : Nat) (hn : l.length = n) (hm : n ≤ 10000) : ShowS (w.alloc (.cells (sps l).toArray 23)) (.slice (some ⟨w.heap.size, 0, none⟩) n n) l := lit_s w _ l n hn hm
/-- three caches at these blocks -/
structure Three (W : World) (i j k : Nat) (a b c : Sp) (w : World) : Prop where
  at1 : SpAt w i a
  at2 : SpAt w j b
  at3 : SpAt w k c
  low : Below W.heap.size W w
section
variable {W w w' : World} {i j k : Nat} {a b c : Sp}
theorem Three.next (h : Three W i j k a b c w) (hb : Below w.heap.size w w') : Three W i j k a b c w' := ⟨h.at1.below hb, h.at2.below hb, h.at3.below hb, below_then h.low hb⟩
theorem Three.alloc (h : Three W i j k a b c w) (o : Obj) : Three W i j k a b c (w.alloc o) := h.next (below_one (Below.refl _ _) _)
end
set_option maxHeartbeats 8000000 in
set_option maxRecDepth 100000 in
theorem works (W : World) : Calls Try.prog 15 #[] W fun e W' => e = .returned (.bool true) ∧ Below W.heap.size W W' := by
  have s1 := fun w => cStep ⟨20, 8, 0⟩ w
  have s2 := fun w => cStep ⟨20, 16, 0⟩ w
  have s3 := fun w => cStep ⟨0, 8, 0⟩ w
  rw [known1.1] at s1
  rw [known1.2.1] at s2
  rw [known1.2.2] at s3
  have v1 := fun w => cServes ⟨30, 16, 0⟩ ⟨25, 8, 0⟩ w
  have v2 := fun w => cServes ⟨25, 8, 0⟩ ⟨30, 16, 0⟩ w
  have v3 := fun w => cServes ⟨20, 8, 4⟩ ⟨20, 8, 4⟩ w
  rw [known2.1] at v1
  rw [known2.2.1] at v2
  rw [known2.2.2] at v3
  have f1 := fun w => cFind _ [⟨8, 8, 0⟩, ⟨30, 16, 0⟩, ⟨25, 32, 0⟩] ⟨31, 16, 0⟩ _ (show_lit w _ 3 rfl (by decide))
  rw [known3.1, known3.2] at f1
  have S1 := Lib.hid s1
  have S2 := Lib.hid s2
  have S3 := Lib.hid s3
  have V1 := Lib.hid v1
  have V2 := Lib.hid v2
  have V3 := Lib.hid v3
  have F1 := Lib.hid f1
  clear s1 s2 s3 v1 v2 v3 f1
  go_enter Try.func15, Try.ntmps15
  go_wp2_with fail
  refine (S1.out _).mono ?_
  rintro e w1 ⟨rfl, hb1⟩
  have HW1 := Lib.hid (below_then (Below.refl W.heap.size W) hb1)
  clear hb1
  go_wp2_with fail
  refine (S2.out _).mono ?_
  rintro e w2 ⟨rfl, hb2⟩
  have HW2 := Lib.hid (below_then HW1.out hb2)
  clear hb2 HW1
  go_wp2_with fail
  refine (S3.out _).mono ?_
  rintro e w3 ⟨rfl, hb3⟩
  have HW3 := Lib.hid (below_then HW2.out hb3)
  clear hb3 HW2 S1 S2 S3
  go_wp2_with (refine wpList_storeC (by rfl) _ _ (by rfl) w3.heap.size ⟨30, 16, 0⟩ (by rfl) (by rfl) _ (heap_low2 _ _ _) rfl ?_; intro w4 h4 k4; refine Stop.mk ?_)
  unfold Stop
  have hz : SpAt w4 (w3.heap.size + 1) zS := (k4.block _ (by rw [size_alloc, size_alloc]; omega) (by omega)).trans (heap_new2 w3 sp0 sp0)
  have HL4 := Lib.hid (below_kept (below_one (below_one HW3.out sp0) sp0) k4 (by rintro k rfl; exact HW3.out.size))
  clear k4
  go_wp2_with (refine wpList_storeC (by rfl) _ _ (by rfl) (w3.heap.size + 1) ⟨25, 8, 0⟩ (by rfl) (by rfl) _ hz rfl ?_; intro w5 h5 k5; refine Stop.mk ?_)
  unfold Stop
  have hx : SpAt w5 w3.heap.size ⟨30, 16, 0⟩ := (k5.block _ h4.lt (by omega)).trans h4
  have HL5 := Lib.hid (below_kept HL4.out k5 (by rintro k rfl; exact Nat.le_succ_of_le HW3.out.size))
  clear k5 h4 hz HL4
  go_wp2_with (refine wpList_storeC (by rfl) _ _ (by rfl) w5.heap.size ⟨20, 8, 4⟩ (by rfl) (by rfl) _ (zero_new w5) rfl ?_; intro w6 h6 k6; refine Stop.mk ?_)
  unfold Stop
  have hb6 := below_one_kept (below_one (Below.refl w5.heap.size w5) _) k6 (Nat.le_refl _)
  have H6 : Hid (Three W w3.heap.size (w3.heap.size + 1) w5.heap.size ⟨30, 16, 0⟩ ⟨25, 8, 0⟩ ⟨20, 8, 4⟩ w6) := Lib.hid ⟨hx.below hb6, h5.below hb6, h6, below_then HL5.out hb6⟩
  clear k6 h6 hx h5 HL5 hb6 HW3
  obtain ⟨a0, a1, a2⟩ := H6.out.at1.cells
  dsimp only at a0 a1 a2
  go_wp2_with fail
  refine (F1.out _).mono ?_
  rintro e w7 ⟨rfl, hb7⟩
  have H7 := Lib.hid ((H6.out.alloc _).next hb7)
  clear hb7 H6 a0 a1 a2 F1
  obtain ⟨a0, a1, a2⟩ := H7.out.at1.cells
  obtain ⟨b0, b1, b2⟩ := H7.out.at2.cells
  dsimp only at a0 a1 a2 b0 b1 b2
  go_wp2_with fail
  refine (V1.out _).mono ?_
  rintro e w8 ⟨rfl, hb8⟩
  have H8 := Lib.hid (H7.out.next hb8)
  clear hb8 H7 a0 a1 a2 b0 b1 b2 V1
  obtain ⟨a0, a1, a2⟩ := H8.out.at1.cells
  obtain ⟨b0, b1, b2⟩ := H8.out.at2.cells
  dsimp only at a0 a1 a2 b0 b1 b2
  go_wp2_with fail
  refine (V2.out _).mono ?_
  rintro e w9 ⟨rfl, hb9⟩
  have H9 := Lib.hid (H8.out.next hb9)
  clear hb9 H8 a0 a1 a2 b0 b1 b2 V2
  obtain ⟨a0, a1, a2⟩ := H9.out.at3.cells
  dsimp only at a0 a1 a2
  go_wp2_with fail
  refine (V3.out _).mono ?_
  rintro e w10 ⟨rfl, hb10⟩
  have H10 := Lib.hid (H9.out.next hb10)
  clear hb10 H9 a0 a1 a2 V3
  go_wp2
  go_ret
  exact ⟨rfl, H10.out.low⟩
end Go.Proofs.Ytpaanlamjncajaa
