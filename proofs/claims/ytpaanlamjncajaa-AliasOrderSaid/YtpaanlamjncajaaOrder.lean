/-
  The law AliasOrder, walked.
-/
import Derived.Test.YtpaanlamjncajaaMade
import Derived.Deep.Cut
set_option linter.unusedVariables false
set_option linter.unusedSimpArgs false
namespace Go.Proofs.Ytpaanlamjncajaa
open Go Go.RowKit

theorem three_new (W : World) (a b c : Sp) : Three W W.heap.size (W.heap.size + 1) (W.heap.size + 2) a b c (((W.alloc (argO a)).alloc (argO b)).alloc (argO c)) := by
  have h := two_new W a b
  refine ⟨h.at1.below (below_one (Below.refl _ _) _), h.at2.below (below_one (Below.refl _ _) _), ?_, below_one h.low _⟩
  have := heap_new ((W.alloc (argO a)).alloc (argO b)) (argO c)
  rwa [size_alloc, size_alloc] at this
theorem Three.drew {W w : World} {i j k : Nat} {a b c : Sp} (h : Three W i j k a b c w) : Three W i j k a b c w.drew := ⟨h.at1, h.at2, h.at3, ⟨h.low.os, h.low.tape, h.low.output, h.low.size, h.low.block⟩⟩
theorem Three.set1 {W w w' : World} {i j k : Nat} {a b c d : Sp} (h : Three W i j k a b c w) (hk : Kept (· = i) w w') (hd : SpAt w' i d) (h1 : i ≠ j) (h2 : i ≠ k) (h0 : W.heap.size ≤ i) : Three W i j k d b c w' :=
  ⟨hd, (hk.block _ h.at2.lt (fun e => h1 e.symm)).trans h.at2, (hk.block _ h.at3.lt (fun e => h2 e.symm)).trans h.at3, below_kept h.low hk (by rintro x rfl; exact h0)⟩
theorem Three.set2 {W w w' : World} {i j k : Nat} {a b c d : Sp} (h : Three W i j k a b c w) (hk : Kept (· = j) w w') (hd : SpAt w' j d) (h1 : j ≠ i) (h2 : j ≠ k) (h0 : W.heap.size ≤ j) : Three W i j k a d c w' :=
  ⟨(hk.block _ h.at1.lt (fun e => h1 e.symm)).trans h.at1, hd, (hk.block _ h.at3.lt (fun e => h2 e.symm)).trans h.at3, below_kept h.low hk (by rintro x rfl; exact h0)⟩
theorem Three.set3 {W w w' : World} {i j k : Nat} {a b c d : Sp} (h : Three W i j k a b c w) (hk : Kept (· = k) w w') (hd : SpAt w' k d) (h1 : k ≠ i) (h2 : k ≠ j) (h0 : W.heap.size ≤ k) : Three W i j k a b d w' :=
  ⟨(hk.block _ h.at1.lt (fun e => h1 e.symm)).trans h.at1, (hk.block _ h.at2.lt (fun e => h2 e.symm)).trans h.at2, hd, below_kept h.low hk (by rintro x rfl; exact h0)⟩
set_option maxHeartbeats 16000000 in
set_option maxRecDepth 100000 in
theorem walkOrder (a b c : Sp) (W : World) : Calls Try.prog 5 #[a.agg, b.agg, c.agg] W fun e W' => e = .returned (.bool true) ∧ Below W.heap.size W W' := by
  have h0 := three_new W a b c
  have m1 := fun w => cMade a w
  have m2 := fun w => cMade b w
  have m3 := fun w => cMade c w
  have o1 := md_ok a
  generalize mdS a = A at *
  generalize mdS b = B at *
  generalize mdS c = C at *
  have M1 := Lib.hid m1
  have M2 := Lib.hid m2
  have M3 := Lib.hid m3
  have HO := Lib.hid o1
  obtain ⟨a0, a1, a2⟩ := h0.at1.cells
  obtain ⟨b0, b1, b2⟩ := h0.at2.cells
  obtain ⟨c0, c1, c2⟩ := h0.at3.cells
  have hT0 := Lib.hid h0.drew
  clear h0 m1 m2 m3 o1
  show Calls Try.prog 5 #[.agg #[.int .i64 a.size, .int .i64 a.align, .int .i64 a.flags], .agg #[.int .i64 b.size, .int .i64 b.align, .int .i64 b.flags], .agg #[.int .i64 c.size, .int .i64 c.align, .int .i64 c.flags]] W fun e W' => e = .returned (.bool true) ∧ Below W.heap.size W W'
  go_enter Try.func5, Try.ntmps5
  go_wp2
  go_cut [7] from 8 (fun s7 wx => s7 = undef ∧ Hid (Three W W.heap.size (W.heap.size + 1) (W.heap.size + 2) A B C wx))
  case first =>
    refine wp_region_any (by kernel_rfl) ?_
    change wpAny _ _ _ _ _ _ _ (World.drew _)
    refine wpAny_ready (rs := [0, 2, 4]) (by kernel_rfl) (by simp) ?_
    refine AllReady.cons rfl (fun K hK => ?_) ?_
    · go_simp
      refine hK _ _ ?_
      clear hK K
      refine wpAny_ready (rs := [1, 2, 4]) (by kernel_rfl) (by simp) ?_
      refine AllReady.cons rfl (fun K hK => ?_) ?_
      · go_simp
        go_wp2_with (go_at_call 18; refine (M1.out _).mono ?_; rintro e w1 ⟨rfl, hb1⟩; have hT1 := Lib.hid (hT0.out.next hb1); clear hb1; obtain ⟨a0, a1, a2⟩ := hT1.out.at1.cells; obtain ⟨b0, b1, b2⟩ := hT1.out.at2.cells; obtain ⟨c0, c1, c2⟩ := hT1.out.at3.cells)
        first | (refine hK _ _ ?_; clear hK K) | skip
        refine wpAny_ready (rs := [2, 4]) (by kernel_rfl) (by simp) ?_
        refine AllReady.cons rfl (fun K hK => ?_) ?_
        · go_simp
          refine hK _ _ ?_
          clear hK K
          refine wpAny_ready (rs := [3, 4]) (by kernel_rfl) (by simp) ?_
          refine AllReady.cons rfl (fun K hK => ?_) ?_
          · go_simp
            go_wp2_with (go_at_call 18; refine (M2.out _).mono ?_; rintro e w2 ⟨rfl, hb2⟩; have hT2 := Lib.hid (hT1.out.next hb2); clear hb2; obtain ⟨a0, a1, a2⟩ := hT2.out.at1.cells; obtain ⟨b0, b1, b2⟩ := hT2.out.at2.cells; obtain ⟨c0, c1, c2⟩ := hT2.out.at3.cells)
            first | (refine hK _ _ ?_; clear hK K) | skip
            refine wpAny_ready (rs := [4]) (by kernel_rfl) (by simp) ?_
            refine AllReady.cons rfl (fun K hK => ?_) AllReady.nil
            go_simp
            refine hK _ _ ?_
            clear hK K
            refine wpAny_ready (rs := [5]) (by kernel_rfl) (by simp) ?_
            refine AllReady.cons rfl (fun K hK => ?_) AllReady.nil
            go_simp
            go_wp2_with (go_at_call 18; refine (M3.out _).mono ?_; rintro e w3 ⟨rfl, hb3⟩; have hT3 := Lib.hid (hT2.out.next hb3); clear hb3; obtain ⟨a0, a1, a2⟩ := hT3.out.at1.cells; obtain ⟨b0, b1, b2⟩ := hT3.out.at2.cells; obtain ⟨c0, c1, c2⟩ := hT3.out.at3.cells)
            first | (refine hK _ _ ?_; clear hK K) | skip
            refine wpAny_ready (rs := [6]) (by kernel_rfl) (by simp) ?_
            refine AllReady.cons rfl (fun K hK => ?_) AllReady.nil
            refine step_storeC (by rfl) _ _ (by rfl) W.heap.size A (by rfl) (by rfl) _ hT3.out.at1 rfl ?_
            intro w4 h4 k4
            have hT4 := Lib.hid (hT3.out.set1 k4 h4 (by omega) (by omega) (by omega))
            clear h4 k4
            refine hK _ _ ?_
            clear hK K
            refine wpAny_ready (rs := [7]) (by kernel_rfl) (by simp) ?_
            refine AllReady.cons rfl (fun K hK => ?_) AllReady.nil
            refine step_storeC (by rfl) _ _ (by rfl) (W.heap.size + 1) B (by rfl) (by rfl) _ hT4.out.at2 rfl ?_
            intro w5 h5 k5
            have hT5 := Lib.hid (hT4.out.set2 k5 h5 (by omega) (by omega) (by omega))
            clear h5 k5
            refine hK _ _ ?_
            clear hK K
            refine wpAny_ready (rs := [8]) (by kernel_rfl) (by simp) ?_
            refine AllReady.cons rfl (fun K hK => ?_) AllReady.nil
            refine step_storeC (by rfl) _ _ (by rfl) (W.heap.size + 2) C (by rfl) (by rfl) _ hT5.out.at3 rfl ?_
            intro w6 h6 k6
            have hT6 := Lib.hid (hT5.out.set3 k6 h6 (by omega) (by omega) (by omega))
            clear h6 k6
            refine hK _ _ ?_
            clear hK K
            refine wpAny_done (by kernel_rfl) ?_ _
            go_wp2_with fail
            go_meet
            case rel => exact ⟨rfl, hT6⟩
          refine AllReady.cons rfl (fun K hK => ?_) AllReady.nil
          go_simp
          refine hK _ _ ?_
          clear hK K
          refine wpAny_ready (rs := [3]) (by kernel_rfl) (by simp) ?_
          refine AllReady.cons rfl (fun K hK => ?_) AllReady.nil
          go_simp
          go_wp2_with (go_at_call 18; refine (M2.out _).mono ?_; rintro e w2 ⟨rfl, hb2⟩; have hT2 := Lib.hid (hT1.out.next hb2); clear hb2; obtain ⟨a0, a1, a2⟩ := hT2.out.at1.cells; obtain ⟨b0, b1, b2⟩ := hT2.out.at2.cells; obtain ⟨c0, c1, c2⟩ := hT2.out.at3.cells)
          first | (refine hK _ _ ?_; clear hK K) | skip
          refine wpAny_ready (rs := [5]) (by kernel_rfl) (by simp) ?_
          refine AllReady.cons rfl (fun K hK => ?_) AllReady.nil
          go_simp
          go_wp2_with (go_at_call 18; refine (M3.out _).mono ?_; rintro e w3 ⟨rfl, hb3⟩; have hT3 := Lib.hid (hT2.out.next hb3); clear hb3; obtain ⟨a0, a1, a2⟩ := hT3.out.at1.cells; obtain ⟨b0, b1, b2⟩ := hT3.out.at2.cells; obtain ⟨c0, c1, c2⟩ := hT3.out.at3.cells)
          first | (refine hK _ _ ?_; clear hK K) | skip
          refine wpAny_ready (rs := [6]) (by kernel_rfl) (by simp) ?_
          refine AllReady.cons rfl (fun K hK => ?_) AllReady.nil
          refine step_storeC (by rfl) _ _ (by rfl) W.heap.size A (by rfl) (by rfl) _ hT3.out.at1 rfl ?_
          intro w4 h4 k4
          have hT4 := Lib.hid (hT3.out.set1 k4 h4 (by omega) (by omega) (by omega))
          clear h4 k4
          refine hK _ _ ?_
          clear hK K
          refine wpAny_ready (rs := [7]) (by kernel_rfl) (by simp) ?_
          refine AllReady.cons rfl (fun K hK => ?_) AllReady.nil
          refine step_storeC (by rfl) _ _ (by rfl) (W.heap.size + 1) B (by rfl) (by rfl) _ hT4.out.at2 rfl ?_
          intro w5 h5 k5
          have hT5 := Lib.hid (hT4.out.set2 k5 h5 (by omega) (by omega) (by omega))
          clear h5 k5
          refine hK _ _ ?_
          clear hK K
          refine wpAny_ready (rs := [8]) (by kernel_rfl) (by simp) ?_
          refine AllReady.cons rfl (fun K hK => ?_) AllReady.nil
          refine step_storeC (by rfl) _ _ (by rfl) (W.heap.size + 2) C (by rfl) (by rfl) _ hT5.out.at3 rfl ?_
          intro w6 h6 k6
          have hT6 := Lib.hid (hT5.out.set3 k6 h6 (by omega) (by omega) (by omega))
          clear h6 k6
          refine hK _ _ ?_
          clear hK K
          refine wpAny_done (by kernel_rfl) ?_ _
          go_wp2_with fail
          go_meet
          case rel => exact ⟨rfl, hT6⟩
        refine AllReady.cons rfl (fun K hK => ?_) AllReady.nil
        go_simp
        refine hK _ _ ?_
        clear hK K
        refine wpAny_ready (rs := [2]) (by kernel_rfl) (by simp) ?_
        refine AllReady.cons rfl (fun K hK => ?_) AllReady.nil
        go_simp
        refine hK _ _ ?_
        clear hK K
        refine wpAny_ready (rs := [3]) (by kernel_rfl) (by simp) ?_
        refine AllReady.cons rfl (fun K hK => ?_) AllReady.nil
        go_simp
        go_wp2_with (go_at_call 18; refine (M2.out _).mono ?_; rintro e w2 ⟨rfl, hb2⟩; have hT2 := Lib.hid (hT1.out.next hb2); clear hb2; obtain ⟨a0, a1, a2⟩ := hT2.out.at1.cells; obtain ⟨b0, b1, b2⟩ := hT2.out.at2.cells; obtain ⟨c0, c1, c2⟩ := hT2.out.at3.cells)
        first | (refine hK _ _ ?_; clear hK K) | skip
        refine wpAny_ready (rs := [5]) (by kernel_rfl) (by simp) ?_
        refine AllReady.cons rfl (fun K hK => ?_) AllReady.nil
        go_simp
        go_wp2_with (go_at_call 18; refine (M3.out _).mono ?_; rintro e w3 ⟨rfl, hb3⟩; have hT3 := Lib.hid (hT2.out.next hb3); clear hb3; obtain ⟨a0, a1, a2⟩ := hT3.out.at1.cells; obtain ⟨b0, b1, b2⟩ := hT3.out.at2.cells; obtain ⟨c0, c1, c2⟩ := hT3.out.at3.cells)
        first | (refine hK _ _ ?_; clear hK K) | skip
        refine wpAny_ready (rs := [6]) (by kernel_rfl) (by simp) ?_
        refine AllReady.cons rfl (fun K hK => ?_) AllReady.nil
        refine step_storeC (by rfl) _ _ (by rfl) W.heap.size A (by rfl) (by rfl) _ hT3.out.at1 rfl ?_
        intro w4 h4 k4
        have hT4 := Lib.hid (hT3.out.set1 k4 h4 (by omega) (by omega) (by omega))
        clear h4 k4
        refine hK _ _ ?_
        clear hK K
        refine wpAny_ready (rs := [7]) (by kernel_rfl) (by simp) ?_
        refine AllReady.cons rfl (fun K hK => ?_) AllReady.nil
        refine step_storeC (by rfl) _ _ (by rfl) (W.heap.size + 1) B (by rfl) (by rfl) _ hT4.out.at2 rfl ?_
        intro w5 h5 k5
        have hT5 := Lib.hid (hT4.out.set2 k5 h5 (by omega) (by omega) (by omega))
        clear h5 k5
        refine hK _ _ ?_
        clear hK K
        refine wpAny_ready (rs := [8]) (by kernel_rfl) (by simp) ?_
        refine AllReady.cons rfl (fun K hK => ?_) AllReady.nil
        refine step_storeC (by rfl) _ _ (by rfl) (W.heap.size + 2) C (by rfl) (by rfl) _ hT5.out.at3 rfl ?_
        intro w6 h6 k6
        have hT6 := Lib.hid (hT5.out.set3 k6 h6 (by omega) (by omega) (by omega))
        clear h6 k6
        refine hK _ _ ?_
        clear hK K
        refine wpAny_done (by kernel_rfl) ?_ _
        go_wp2_with fail
        go_meet
        case rel => exact ⟨rfl, hT6⟩
      refine AllReady.cons rfl (fun K hK => ?_) ?_
      · go_simp
        refine hK _ _ ?_
        clear hK K
        refine wpAny_ready (rs := [1, 4]) (by kernel_rfl) (by simp) ?_
        refine AllReady.cons rfl (fun K hK => ?_) ?_
        · go_simp
          go_wp2_with (go_at_call 18; refine (M1.out _).mono ?_; rintro e w1 ⟨rfl, hb1⟩; have hT1 := Lib.hid (hT0.out.next hb1); clear hb1; obtain ⟨a0, a1, a2⟩ := hT1.out.at1.cells; obtain ⟨b0, b1, b2⟩ := hT1.out.at2.cells; obtain ⟨c0, c1, c2⟩ := hT1.out.at3.cells)
          first | (refine hK _ _ ?_; clear hK K) | skip
          refine wpAny_ready (rs := [3, 4]) (by kernel_rfl) (by simp) ?_
          refine AllReady.cons rfl (fun K hK => ?_) ?_
          · go_simp
            go_wp2_with (go_at_call 18; refine (M2.out _).mono ?_; rintro e w2 ⟨rfl, hb2⟩; have hT2 := Lib.hid (hT1.out.next hb2); clear hb2; obtain ⟨a0, a1, a2⟩ := hT2.out.at1.cells; obtain ⟨b0, b1, b2⟩ := hT2.out.at2.cells; obtain ⟨c0, c1, c2⟩ := hT2.out.at3.cells)
            first | (refine hK _ _ ?_; clear hK K) | skip
            refine wpAny_ready (rs := [4]) (by kernel_rfl) (by simp) ?_
            refine AllReady.cons rfl (fun K hK => ?_) AllReady.nil
            go_simp
            refine hK _ _ ?_
            clear hK K
            refine wpAny_ready (rs := [5]) (by kernel_rfl) (by simp) ?_
            refine AllReady.cons rfl (fun K hK => ?_) AllReady.nil
            go_simp
            go_wp2_with (go_at_call 18; refine (M3.out _).mono ?_; rintro e w3 ⟨rfl, hb3⟩; have hT3 := Lib.hid (hT2.out.next hb3); clear hb3; obtain ⟨a0, a1, a2⟩ := hT3.out.at1.cells; obtain ⟨b0, b1, b2⟩ := hT3.out.at2.cells; obtain ⟨c0, c1, c2⟩ := hT3.out.at3.cells)
            first | (refine hK _ _ ?_; clear hK K) | skip
            refine wpAny_ready (rs := [6]) (by kernel_rfl) (by simp) ?_
            refine AllReady.cons rfl (fun K hK => ?_) AllReady.nil
            refine step_storeC (by rfl) _ _ (by rfl) W.heap.size A (by rfl) (by rfl) _ hT3.out.at1 rfl ?_
            intro w4 h4 k4
            have hT4 := Lib.hid (hT3.out.set1 k4 h4 (by omega) (by omega) (by omega))
            clear h4 k4
            refine hK _ _ ?_
            clear hK K
            refine wpAny_ready (rs := [7]) (by kernel_rfl) (by simp) ?_
            refine AllReady.cons rfl (fun K hK => ?_) AllReady.nil
            refine step_storeC (by rfl) _ _ (by rfl) (W.heap.size + 1) B (by rfl) (by rfl) _ hT4.out.at2 rfl ?_
            intro w5 h5 k5
            have hT5 := Lib.hid (hT4.out.set2 k5 h5 (by omega) (by omega) (by omega))
            clear h5 k5
            refine hK _ _ ?_
            clear hK K
            refine wpAny_ready (rs := [8]) (by kernel_rfl) (by simp) ?_
            refine AllReady.cons rfl (fun K hK => ?_) AllReady.nil
            refine step_storeC (by rfl) _ _ (by rfl) (W.heap.size + 2) C (by rfl) (by rfl) _ hT5.out.at3 rfl ?_
            intro w6 h6 k6
            have hT6 := Lib.hid (hT5.out.set3 k6 h6 (by omega) (by omega) (by omega))
            clear h6 k6
            refine hK _ _ ?_
            clear hK K
            refine wpAny_done (by kernel_rfl) ?_ _
            go_wp2_with fail
            go_meet
            case rel => exact ⟨rfl, hT6⟩
          refine AllReady.cons rfl (fun K hK => ?_) AllReady.nil
          go_simp
          refine hK _ _ ?_
          clear hK K
          refine wpAny_ready (rs := [3]) (by kernel_rfl) (by simp) ?_
          refine AllReady.cons rfl (fun K hK => ?_) AllReady.nil
          go_simp
          go_wp2_with (go_at_call 18; refine (M2.out _).mono ?_; rintro e w2 ⟨rfl, hb2⟩; have hT2 := Lib.hid (hT1.out.next hb2); clear hb2; obtain ⟨a0, a1, a2⟩ := hT2.out.at1.cells; obtain ⟨b0, b1, b2⟩ := hT2.out.at2.cells; obtain ⟨c0, c1, c2⟩ := hT2.out.at3.cells)
          first | (refine hK _ _ ?_; clear hK K) | skip
          refine wpAny_ready (rs := [5]) (by kernel_rfl) (by simp) ?_
          refine AllReady.cons rfl (fun K hK => ?_) AllReady.nil
          go_simp
          go_wp2_with (go_at_call 18; refine (M3.out _).mono ?_; rintro e w3 ⟨rfl, hb3⟩; have hT3 := Lib.hid (hT2.out.next hb3); clear hb3; obtain ⟨a0, a1, a2⟩ := hT3.out.at1.cells; obtain ⟨b0, b1, b2⟩ := hT3.out.at2.cells; obtain ⟨c0, c1, c2⟩ := hT3.out.at3.cells)
          first | (refine hK _ _ ?_; clear hK K) | skip
          refine wpAny_ready (rs := [6]) (by kernel_rfl) (by simp) ?_
          refine AllReady.cons rfl (fun K hK => ?_) AllReady.nil
          refine step_storeC (by rfl) _ _ (by rfl) W.heap.size A (by rfl) (by rfl) _ hT3.out.at1 rfl ?_
          intro w4 h4 k4
          have hT4 := Lib.hid (hT3.out.set1 k4 h4 (by omega) (by omega) (by omega))
          clear h4 k4
          refine hK _ _ ?_
          clear hK K
          refine wpAny_ready (rs := [7]) (by kernel_rfl) (by simp) ?_
          refine AllReady.cons rfl (fun K hK => ?_) AllReady.nil
          refine step_storeC (by rfl) _ _ (by rfl) (W.heap.size + 1) B (by rfl) (by rfl) _ hT4.out.at2 rfl ?_
          intro w5 h5 k5
          have hT5 := Lib.hid (hT4.out.set2 k5 h5 (by omega) (by omega) (by omega))
          clear h5 k5
          refine hK _ _ ?_
          clear hK K
          refine wpAny_ready (rs := [8]) (by kernel_rfl) (by simp) ?_
          refine AllReady.cons rfl (fun K hK => ?_) AllReady.nil
          refine step_storeC (by rfl) _ _ (by rfl) (W.heap.size + 2) C (by rfl) (by rfl) _ hT5.out.at3 rfl ?_
          intro w6 h6 k6
          have hT6 := Lib.hid (hT5.out.set3 k6 h6 (by omega) (by omega) (by omega))
          clear h6 k6
          refine hK _ _ ?_
          clear hK K
          refine wpAny_done (by kernel_rfl) ?_ _
          go_wp2_with fail
          go_meet
          case rel => exact ⟨rfl, hT6⟩
        refine AllReady.cons rfl (fun K hK => ?_) AllReady.nil
        go_simp
        refine hK _ _ ?_
        clear hK K
        refine wpAny_ready (rs := [1]) (by kernel_rfl) (by simp) ?_
        refine AllReady.cons rfl (fun K hK => ?_) AllReady.nil
        go_simp
        go_wp2_with (go_at_call 18; refine (M1.out _).mono ?_; rintro e w1 ⟨rfl, hb1⟩; have hT1 := Lib.hid (hT0.out.next hb1); clear hb1; obtain ⟨a0, a1, a2⟩ := hT1.out.at1.cells; obtain ⟨b0, b1, b2⟩ := hT1.out.at2.cells; obtain ⟨c0, c1, c2⟩ := hT1.out.at3.cells)
        first | (refine hK _ _ ?_; clear hK K) | skip
        refine wpAny_ready (rs := [3]) (by kernel_rfl) (by simp) ?_
        refine AllReady.cons rfl (fun K hK => ?_) AllReady.nil
        go_simp
        go_wp2_with (go_at_call 18; refine (M2.out _).mono ?_; rintro e w2 ⟨rfl, hb2⟩; have hT2 := Lib.hid (hT1.out.next hb2); clear hb2; obtain ⟨a0, a1, a2⟩ := hT2.out.at1.cells; obtain ⟨b0, b1, b2⟩ := hT2.out.at2.cells; obtain ⟨c0, c1, c2⟩ := hT2.out.at3.cells)
        first | (refine hK _ _ ?_; clear hK K) | skip
        refine wpAny_ready (rs := [5]) (by kernel_rfl) (by simp) ?_
        refine AllReady.cons rfl (fun K hK => ?_) AllReady.nil
        go_simp
        go_wp2_with (go_at_call 18; refine (M3.out _).mono ?_; rintro e w3 ⟨rfl, hb3⟩; have hT3 := Lib.hid (hT2.out.next hb3); clear hb3; obtain ⟨a0, a1, a2⟩ := hT3.out.at1.cells; obtain ⟨b0, b1, b2⟩ := hT3.out.at2.cells; obtain ⟨c0, c1, c2⟩ := hT3.out.at3.cells)
        first | (refine hK _ _ ?_; clear hK K) | skip
        refine wpAny_ready (rs := [6]) (by kernel_rfl) (by simp) ?_
        refine AllReady.cons rfl (fun K hK => ?_) AllReady.nil
        refine step_storeC (by rfl) _ _ (by rfl) W.heap.size A (by rfl) (by rfl) _ hT3.out.at1 rfl ?_
        intro w4 h4 k4
        have hT4 := Lib.hid (hT3.out.set1 k4 h4 (by omega) (by omega) (by omega))
        clear h4 k4
        refine hK _ _ ?_
        clear hK K
        refine wpAny_ready (rs := [7]) (by kernel_rfl) (by simp) ?_
        refine AllReady.cons rfl (fun K hK => ?_) AllReady.nil
        refine step_storeC (by rfl) _ _ (by rfl) (W.heap.size + 1) B (by rfl) (by rfl) _ hT4.out.at2 rfl ?_
        intro w5 h5 k5
        have hT5 := Lib.hid (hT4.out.set2 k5 h5 (by omega) (by omega) (by omega))
        clear h5 k5
        refine hK _ _ ?_
        clear hK K
        refine wpAny_ready (rs := [8]) (by kernel_rfl) (by simp) ?_
        refine AllReady.cons rfl (fun K hK => ?_) AllReady.nil
        refine step_storeC (by rfl) _ _ (by rfl) (W.heap.size + 2) C (by rfl) (by rfl) _ hT5.out.at3 rfl ?_
        intro w6 h6 k6
        have hT6 := Lib.hid (hT5.out.set3 k6 h6 (by omega) (by omega) (by omega))
        clear h6 k6
        refine hK _ _ ?_
        clear hK K
        refine wpAny_done (by kernel_rfl) ?_ _
        go_wp2_with fail
        go_meet
        case rel => exact ⟨rfl, hT6⟩
      refine AllReady.cons rfl (fun K hK => ?_) AllReady.nil
      go_simp
      refine hK _ _ ?_
      clear hK K
      refine wpAny_ready (rs := [1, 2]) (by kernel_rfl) (by simp) ?_
      refine AllReady.cons rfl (fun K hK => ?_) ?_
      · go_simp
        go_wp2_with (go_at_call 18; refine (M1.out _).mono ?_; rintro e w1 ⟨rfl, hb1⟩; have hT1 := Lib.hid (hT0.out.next hb1); clear hb1; obtain ⟨a0, a1, a2⟩ := hT1.out.at1.cells; obtain ⟨b0, b1, b2⟩ := hT1.out.at2.cells; obtain ⟨c0, c1, c2⟩ := hT1.out.at3.cells)
        first | (refine hK _ _ ?_; clear hK K) | skip
        refine wpAny_ready (rs := [2]) (by kernel_rfl) (by simp) ?_
        refine AllReady.cons rfl (fun K hK => ?_) AllReady.nil
        go_simp
        refine hK _ _ ?_
        clear hK K
        refine wpAny_ready (rs := [3]) (by kernel_rfl) (by simp) ?_
        refine AllReady.cons rfl (fun K hK => ?_) AllReady.nil
        go_simp
        go_wp2_with (go_at_call 18; refine (M2.out _).mono ?_; rintro e w2 ⟨rfl, hb2⟩; have hT2 := Lib.hid (hT1.out.next hb2); clear hb2; obtain ⟨a0, a1, a2⟩ := hT2.out.at1.cells; obtain ⟨b0, b1, b2⟩ := hT2.out.at2.cells; obtain ⟨c0, c1, c2⟩ := hT2.out.at3.cells)
        first | (refine hK _ _ ?_; clear hK K) | skip
        refine wpAny_ready (rs := [5]) (by kernel_rfl) (by simp) ?_
        refine AllReady.cons rfl (fun K hK => ?_) AllReady.nil
        go_simp
        go_wp2_with (go_at_call 18; refine (M3.out _).mono ?_; rintro e w3 ⟨rfl, hb3⟩; have hT3 := Lib.hid (hT2.out.next hb3); clear hb3; obtain ⟨a0, a1, a2⟩ := hT3.out.at1.cells; obtain ⟨b0, b1, b2⟩ := hT3.out.at2.cells; obtain ⟨c0, c1, c2⟩ := hT3.out.at3.cells)
        first | (refine hK _ _ ?_; clear hK K) | skip
        refine wpAny_ready (rs := [6]) (by kernel_rfl) (by simp) ?_
        refine AllReady.cons rfl (fun K hK => ?_) AllReady.nil
        refine step_storeC (by rfl) _ _ (by rfl) W.heap.size A (by rfl) (by rfl) _ hT3.out.at1 rfl ?_
        intro w4 h4 k4
        have hT4 := Lib.hid (hT3.out.set1 k4 h4 (by omega) (by omega) (by omega))
        clear h4 k4
        refine hK _ _ ?_
        clear hK K
        refine wpAny_ready (rs := [7]) (by kernel_rfl) (by simp) ?_
        refine AllReady.cons rfl (fun K hK => ?_) AllReady.nil
        refine step_storeC (by rfl) _ _ (by rfl) (W.heap.size + 1) B (by rfl) (by rfl) _ hT4.out.at2 rfl ?_
        intro w5 h5 k5
        have hT5 := Lib.hid (hT4.out.set2 k5 h5 (by omega) (by omega) (by omega))
        clear h5 k5
        refine hK _ _ ?_
        clear hK K
        refine wpAny_ready (rs := [8]) (by kernel_rfl) (by simp) ?_
        refine AllReady.cons rfl (fun K hK => ?_) AllReady.nil
        refine step_storeC (by rfl) _ _ (by rfl) (W.heap.size + 2) C (by rfl) (by rfl) _ hT5.out.at3 rfl ?_
        intro w6 h6 k6
        have hT6 := Lib.hid (hT5.out.set3 k6 h6 (by omega) (by omega) (by omega))
        clear h6 k6
        refine hK _ _ ?_
        clear hK K
        refine wpAny_done (by kernel_rfl) ?_ _
        go_wp2_with fail
        go_meet
        case rel => exact ⟨rfl, hT6⟩
      refine AllReady.cons rfl (fun K hK => ?_) AllReady.nil
      go_simp
      refine hK _ _ ?_
      clear hK K
      refine wpAny_ready (rs := [1]) (by kernel_rfl) (by simp) ?_
      refine AllReady.cons rfl (fun K hK => ?_) AllReady.nil
      go_simp
      go_wp2_with (go_at_call 18; refine (M1.out _).mono ?_; rintro e w1 ⟨rfl, hb1⟩; have hT1 := Lib.hid (hT0.out.next hb1); clear hb1; obtain ⟨a0, a1, a2⟩ := hT1.out.at1.cells; obtain ⟨b0, b1, b2⟩ := hT1.out.at2.cells; obtain ⟨c0, c1, c2⟩ := hT1.out.at3.cells)
      first | (refine hK _ _ ?_; clear hK K) | skip
      refine wpAny_ready (rs := [3]) (by kernel_rfl) (by simp) ?_
      refine AllReady.cons rfl (fun K hK => ?_) AllReady.nil
      go_simp
      go_wp2_with (go_at_call 18; refine (M2.out _).mono ?_; rintro e w2 ⟨rfl, hb2⟩; have hT2 := Lib.hid (hT1.out.next hb2); clear hb2; obtain ⟨a0, a1, a2⟩ := hT2.out.at1.cells; obtain ⟨b0, b1, b2⟩ := hT2.out.at2.cells; obtain ⟨c0, c1, c2⟩ := hT2.out.at3.cells)
      first | (refine hK _ _ ?_; clear hK K) | skip
      refine wpAny_ready (rs := [5]) (by kernel_rfl) (by simp) ?_
      refine AllReady.cons rfl (fun K hK => ?_) AllReady.nil
      go_simp
      go_wp2_with (go_at_call 18; refine (M3.out _).mono ?_; rintro e w3 ⟨rfl, hb3⟩; have hT3 := Lib.hid (hT2.out.next hb3); clear hb3; obtain ⟨a0, a1, a2⟩ := hT3.out.at1.cells; obtain ⟨b0, b1, b2⟩ := hT3.out.at2.cells; obtain ⟨c0, c1, c2⟩ := hT3.out.at3.cells)
      first | (refine hK _ _ ?_; clear hK K) | skip
      refine wpAny_ready (rs := [6]) (by kernel_rfl) (by simp) ?_
      refine AllReady.cons rfl (fun K hK => ?_) AllReady.nil
      refine step_storeC (by rfl) _ _ (by rfl) W.heap.size A (by rfl) (by rfl) _ hT3.out.at1 rfl ?_
      intro w4 h4 k4
      have hT4 := Lib.hid (hT3.out.set1 k4 h4 (by omega) (by omega) (by omega))
      clear h4 k4
      refine hK _ _ ?_
      clear hK K
      refine wpAny_ready (rs := [7]) (by kernel_rfl) (by simp) ?_
      refine AllReady.cons rfl (fun K hK => ?_) AllReady.nil
      refine step_storeC (by rfl) _ _ (by rfl) (W.heap.size + 1) B (by rfl) (by rfl) _ hT4.out.at2 rfl ?_
      intro w5 h5 k5
      have hT5 := Lib.hid (hT4.out.set2 k5 h5 (by omega) (by omega) (by omega))
      clear h5 k5
      refine hK _ _ ?_
      clear hK K
      refine wpAny_ready (rs := [8]) (by kernel_rfl) (by simp) ?_
      refine AllReady.cons rfl (fun K hK => ?_) AllReady.nil
      refine step_storeC (by rfl) _ _ (by rfl) (W.heap.size + 2) C (by rfl) (by rfl) _ hT5.out.at3 rfl ?_
      intro w6 h6 k6
      have hT6 := Lib.hid (hT5.out.set3 k6 h6 (by omega) (by omega) (by omega))
      clear h6 k6
      refine hK _ _ ?_
      clear hK K
      refine wpAny_done (by kernel_rfl) ?_ _
      go_wp2_with fail
      go_meet
      case rel => exact ⟨rfl, hT6⟩
    refine AllReady.cons rfl (fun K hK => ?_) ?_
    · go_simp
      refine hK _ _ ?_
      clear hK K
      refine wpAny_ready (rs := [0, 4]) (by kernel_rfl) (by simp) ?_
      refine AllReady.cons rfl (fun K hK => ?_) ?_
      · go_simp
        refine hK _ _ ?_
        clear hK K
        refine wpAny_ready (rs := [1, 4]) (by kernel_rfl) (by simp) ?_
        refine AllReady.cons rfl (fun K hK => ?_) ?_
        · go_simp
          go_wp2_with (go_at_call 18; refine (M1.out _).mono ?_; rintro e w1 ⟨rfl, hb1⟩; have hT1 := Lib.hid (hT0.out.next hb1); clear hb1; obtain ⟨a0, a1, a2⟩ := hT1.out.at1.cells; obtain ⟨b0, b1, b2⟩ := hT1.out.at2.cells; obtain ⟨c0, c1, c2⟩ := hT1.out.at3.cells)
          first | (refine hK _ _ ?_; clear hK K) | skip
          refine wpAny_ready (rs := [3, 4]) (by kernel_rfl) (by simp) ?_
          refine AllReady.cons rfl (fun K hK => ?_) ?_
          · go_simp
            go_wp2_with (go_at_call 18; refine (M2.out _).mono ?_; rintro e w2 ⟨rfl, hb2⟩; have hT2 := Lib.hid (hT1.out.next hb2); clear hb2; obtain ⟨a0, a1, a2⟩ := hT2.out.at1.cells; obtain ⟨b0, b1, b2⟩ := hT2.out.at2.cells; obtain ⟨c0, c1, c2⟩ := hT2.out.at3.cells)
            first | (refine hK _ _ ?_; clear hK K) | skip
            refine wpAny_ready (rs := [4]) (by kernel_rfl) (by simp) ?_
            refine AllReady.cons rfl (fun K hK => ?_) AllReady.nil
            go_simp
            refine hK _ _ ?_
            clear hK K
            refine wpAny_ready (rs := [5]) (by kernel_rfl) (by simp) ?_
            refine AllReady.cons rfl (fun K hK => ?_) AllReady.nil
            go_simp
            go_wp2_with (go_at_call 18; refine (M3.out _).mono ?_; rintro e w3 ⟨rfl, hb3⟩; have hT3 := Lib.hid (hT2.out.next hb3); clear hb3; obtain ⟨a0, a1, a2⟩ := hT3.out.at1.cells; obtain ⟨b0, b1, b2⟩ := hT3.out.at2.cells; obtain ⟨c0, c1, c2⟩ := hT3.out.at3.cells)
            first | (refine hK _ _ ?_; clear hK K) | skip
            refine wpAny_ready (rs := [6]) (by kernel_rfl) (by simp) ?_
            refine AllReady.cons rfl (fun K hK => ?_) AllReady.nil
            refine step_storeC (by rfl) _ _ (by rfl) W.heap.size A (by rfl) (by rfl) _ hT3.out.at1 rfl ?_
            intro w4 h4 k4
            have hT4 := Lib.hid (hT3.out.set1 k4 h4 (by omega) (by omega) (by omega))
            clear h4 k4
            refine hK _ _ ?_
            clear hK K
            refine wpAny_ready (rs := [7]) (by kernel_rfl) (by simp) ?_
            refine AllReady.cons rfl (fun K hK => ?_) AllReady.nil
            refine step_storeC (by rfl) _ _ (by rfl) (W.heap.size + 1) B (by rfl) (by rfl) _ hT4.out.at2 rfl ?_
            intro w5 h5 k5
            have hT5 := Lib.hid (hT4.out.set2 k5 h5 (by omega) (by omega) (by omega))
            clear h5 k5
            refine hK _ _ ?_
            clear hK K
            refine wpAny_ready (rs := [8]) (by kernel_rfl) (by simp) ?_
            refine AllReady.cons rfl (fun K hK => ?_) AllReady.nil
            refine step_storeC (by rfl) _ _ (by rfl) (W.heap.size + 2) C (by rfl) (by rfl) _ hT5.out.at3 rfl ?_
            intro w6 h6 k6
            have hT6 := Lib.hid (hT5.out.set3 k6 h6 (by omega) (by omega) (by omega))
            clear h6 k6
            refine hK _ _ ?_
            clear hK K
            refine wpAny_done (by kernel_rfl) ?_ _
            go_wp2_with fail
            go_meet
            case rel => exact ⟨rfl, hT6⟩
          refine AllReady.cons rfl (fun K hK => ?_) AllReady.nil
          go_simp
          refine hK _ _ ?_
          clear hK K
          refine wpAny_ready (rs := [3]) (by kernel_rfl) (by simp) ?_
          refine AllReady.cons rfl (fun K hK => ?_) AllReady.nil
          go_simp
          go_wp2_with (go_at_call 18; refine (M2.out _).mono ?_; rintro e w2 ⟨rfl, hb2⟩; have hT2 := Lib.hid (hT1.out.next hb2); clear hb2; obtain ⟨a0, a1, a2⟩ := hT2.out.at1.cells; obtain ⟨b0, b1, b2⟩ := hT2.out.at2.cells; obtain ⟨c0, c1, c2⟩ := hT2.out.at3.cells)
          first | (refine hK _ _ ?_; clear hK K) | skip
          refine wpAny_ready (rs := [5]) (by kernel_rfl) (by simp) ?_
          refine AllReady.cons rfl (fun K hK => ?_) AllReady.nil
          go_simp
          go_wp2_with (go_at_call 18; refine (M3.out _).mono ?_; rintro e w3 ⟨rfl, hb3⟩; have hT3 := Lib.hid (hT2.out.next hb3); clear hb3; obtain ⟨a0, a1, a2⟩ := hT3.out.at1.cells; obtain ⟨b0, b1, b2⟩ := hT3.out.at2.cells; obtain ⟨c0, c1, c2⟩ := hT3.out.at3.cells)
          first | (refine hK _ _ ?_; clear hK K) | skip
          refine wpAny_ready (rs := [6]) (by kernel_rfl) (by simp) ?_
          refine AllReady.cons rfl (fun K hK => ?_) AllReady.nil
          refine step_storeC (by rfl) _ _ (by rfl) W.heap.size A (by rfl) (by rfl) _ hT3.out.at1 rfl ?_
          intro w4 h4 k4
          have hT4 := Lib.hid (hT3.out.set1 k4 h4 (by omega) (by omega) (by omega))
          clear h4 k4
          refine hK _ _ ?_
          clear hK K
          refine wpAny_ready (rs := [7]) (by kernel_rfl) (by simp) ?_
          refine AllReady.cons rfl (fun K hK => ?_) AllReady.nil
          refine step_storeC (by rfl) _ _ (by rfl) (W.heap.size + 1) B (by rfl) (by rfl) _ hT4.out.at2 rfl ?_
          intro w5 h5 k5
          have hT5 := Lib.hid (hT4.out.set2 k5 h5 (by omega) (by omega) (by omega))
          clear h5 k5
          refine hK _ _ ?_
          clear hK K
          refine wpAny_ready (rs := [8]) (by kernel_rfl) (by simp) ?_
          refine AllReady.cons rfl (fun K hK => ?_) AllReady.nil
          refine step_storeC (by rfl) _ _ (by rfl) (W.heap.size + 2) C (by rfl) (by rfl) _ hT5.out.at3 rfl ?_
          intro w6 h6 k6
          have hT6 := Lib.hid (hT5.out.set3 k6 h6 (by omega) (by omega) (by omega))
          clear h6 k6
          refine hK _ _ ?_
          clear hK K
          refine wpAny_done (by kernel_rfl) ?_ _
          go_wp2_with fail
          go_meet
          case rel => exact ⟨rfl, hT6⟩
        refine AllReady.cons rfl (fun K hK => ?_) AllReady.nil
        go_simp
        refine hK _ _ ?_
        clear hK K
        refine wpAny_ready (rs := [1]) (by kernel_rfl) (by simp) ?_
        refine AllReady.cons rfl (fun K hK => ?_) AllReady.nil
        go_simp
        go_wp2_with (go_at_call 18; refine (M1.out _).mono ?_; rintro e w1 ⟨rfl, hb1⟩; have hT1 := Lib.hid (hT0.out.next hb1); clear hb1; obtain ⟨a0, a1, a2⟩ := hT1.out.at1.cells; obtain ⟨b0, b1, b2⟩ := hT1.out.at2.cells; obtain ⟨c0, c1, c2⟩ := hT1.out.at3.cells)
        first | (refine hK _ _ ?_; clear hK K) | skip
        refine wpAny_ready (rs := [3]) (by kernel_rfl) (by simp) ?_
        refine AllReady.cons rfl (fun K hK => ?_) AllReady.nil
        go_simp
        go_wp2_with (go_at_call 18; refine (M2.out _).mono ?_; rintro e w2 ⟨rfl, hb2⟩; have hT2 := Lib.hid (hT1.out.next hb2); clear hb2; obtain ⟨a0, a1, a2⟩ := hT2.out.at1.cells; obtain ⟨b0, b1, b2⟩ := hT2.out.at2.cells; obtain ⟨c0, c1, c2⟩ := hT2.out.at3.cells)
        first | (refine hK _ _ ?_; clear hK K) | skip
        refine wpAny_ready (rs := [5]) (by kernel_rfl) (by simp) ?_
        refine AllReady.cons rfl (fun K hK => ?_) AllReady.nil
        go_simp
        go_wp2_with (go_at_call 18; refine (M3.out _).mono ?_; rintro e w3 ⟨rfl, hb3⟩; have hT3 := Lib.hid (hT2.out.next hb3); clear hb3; obtain ⟨a0, a1, a2⟩ := hT3.out.at1.cells; obtain ⟨b0, b1, b2⟩ := hT3.out.at2.cells; obtain ⟨c0, c1, c2⟩ := hT3.out.at3.cells)
        first | (refine hK _ _ ?_; clear hK K) | skip
        refine wpAny_ready (rs := [6]) (by kernel_rfl) (by simp) ?_
        refine AllReady.cons rfl (fun K hK => ?_) AllReady.nil
        refine step_storeC (by rfl) _ _ (by rfl) W.heap.size A (by rfl) (by rfl) _ hT3.out.at1 rfl ?_
        intro w4 h4 k4
        have hT4 := Lib.hid (hT3.out.set1 k4 h4 (by omega) (by omega) (by omega))
        clear h4 k4
        refine hK _ _ ?_
        clear hK K
        refine wpAny_ready (rs := [7]) (by kernel_rfl) (by simp) ?_
        refine AllReady.cons rfl (fun K hK => ?_) AllReady.nil
        refine step_storeC (by rfl) _ _ (by rfl) (W.heap.size + 1) B (by rfl) (by rfl) _ hT4.out.at2 rfl ?_
        intro w5 h5 k5
        have hT5 := Lib.hid (hT4.out.set2 k5 h5 (by omega) (by omega) (by omega))
        clear h5 k5
        refine hK _ _ ?_
        clear hK K
        refine wpAny_ready (rs := [8]) (by kernel_rfl) (by simp) ?_
        refine AllReady.cons rfl (fun K hK => ?_) AllReady.nil
        refine step_storeC (by rfl) _ _ (by rfl) (W.heap.size + 2) C (by rfl) (by rfl) _ hT5.out.at3 rfl ?_
        intro w6 h6 k6
        have hT6 := Lib.hid (hT5.out.set3 k6 h6 (by omega) (by omega) (by omega))
        clear h6 k6
        refine hK _ _ ?_
        clear hK K
        refine wpAny_done (by kernel_rfl) ?_ _
        go_wp2_with fail
        go_meet
        case rel => exact ⟨rfl, hT6⟩
      refine AllReady.cons rfl (fun K hK => ?_) AllReady.nil
      go_simp
      refine hK _ _ ?_
      clear hK K
      refine wpAny_ready (rs := [0]) (by kernel_rfl) (by simp) ?_
      refine AllReady.cons rfl (fun K hK => ?_) AllReady.nil
      go_simp
      refine hK _ _ ?_
      clear hK K
      refine wpAny_ready (rs := [1]) (by kernel_rfl) (by simp) ?_
      refine AllReady.cons rfl (fun K hK => ?_) AllReady.nil
      go_simp
      go_wp2_with (go_at_call 18; refine (M1.out _).mono ?_; rintro e w1 ⟨rfl, hb1⟩; have hT1 := Lib.hid (hT0.out.next hb1); clear hb1; obtain ⟨a0, a1, a2⟩ := hT1.out.at1.cells; obtain ⟨b0, b1, b2⟩ := hT1.out.at2.cells; obtain ⟨c0, c1, c2⟩ := hT1.out.at3.cells)
      first | (refine hK _ _ ?_; clear hK K) | skip
      refine wpAny_ready (rs := [3]) (by kernel_rfl) (by simp) ?_
      refine AllReady.cons rfl (fun K hK => ?_) AllReady.nil
      go_simp
      go_wp2_with (go_at_call 18; refine (M2.out _).mono ?_; rintro e w2 ⟨rfl, hb2⟩; have hT2 := Lib.hid (hT1.out.next hb2); clear hb2; obtain ⟨a0, a1, a2⟩ := hT2.out.at1.cells; obtain ⟨b0, b1, b2⟩ := hT2.out.at2.cells; obtain ⟨c0, c1, c2⟩ := hT2.out.at3.cells)
      first | (refine hK _ _ ?_; clear hK K) | skip
      refine wpAny_ready (rs := [5]) (by kernel_rfl) (by simp) ?_
      refine AllReady.cons rfl (fun K hK => ?_) AllReady.nil
      go_simp
      go_wp2_with (go_at_call 18; refine (M3.out _).mono ?_; rintro e w3 ⟨rfl, hb3⟩; have hT3 := Lib.hid (hT2.out.next hb3); clear hb3; obtain ⟨a0, a1, a2⟩ := hT3.out.at1.cells; obtain ⟨b0, b1, b2⟩ := hT3.out.at2.cells; obtain ⟨c0, c1, c2⟩ := hT3.out.at3.cells)
      first | (refine hK _ _ ?_; clear hK K) | skip
      refine wpAny_ready (rs := [6]) (by kernel_rfl) (by simp) ?_
      refine AllReady.cons rfl (fun K hK => ?_) AllReady.nil
      refine step_storeC (by rfl) _ _ (by rfl) W.heap.size A (by rfl) (by rfl) _ hT3.out.at1 rfl ?_
      intro w4 h4 k4
      have hT4 := Lib.hid (hT3.out.set1 k4 h4 (by omega) (by omega) (by omega))
      clear h4 k4
      refine hK _ _ ?_
      clear hK K
      refine wpAny_ready (rs := [7]) (by kernel_rfl) (by simp) ?_
      refine AllReady.cons rfl (fun K hK => ?_) AllReady.nil
      refine step_storeC (by rfl) _ _ (by rfl) (W.heap.size + 1) B (by rfl) (by rfl) _ hT4.out.at2 rfl ?_
      intro w5 h5 k5
      have hT5 := Lib.hid (hT4.out.set2 k5 h5 (by omega) (by omega) (by omega))
      clear h5 k5
      refine hK _ _ ?_
      clear hK K
      refine wpAny_ready (rs := [8]) (by kernel_rfl) (by simp) ?_
      refine AllReady.cons rfl (fun K hK => ?_) AllReady.nil
      refine step_storeC (by rfl) _ _ (by rfl) (W.heap.size + 2) C (by rfl) (by rfl) _ hT5.out.at3 rfl ?_
      intro w6 h6 k6
      have hT6 := Lib.hid (hT5.out.set3 k6 h6 (by omega) (by omega) (by omega))
      clear h6 k6
      refine hK _ _ ?_
      clear hK K
      refine wpAny_done (by kernel_rfl) ?_ _
      go_wp2_with fail
      go_meet
      case rel => exact ⟨rfl, hT6⟩
    refine AllReady.cons rfl (fun K hK => ?_) AllReady.nil
    go_simp
    refine hK _ _ ?_
    clear hK K
    refine wpAny_ready (rs := [0, 2]) (by kernel_rfl) (by simp) ?_
    refine AllReady.cons rfl (fun K hK => ?_) ?_
    · go_simp
      refine hK _ _ ?_
      clear hK K
      refine wpAny_ready (rs := [1, 2]) (by kernel_rfl) (by simp) ?_
      refine AllReady.cons rfl (fun K hK => ?_) ?_
      · go_simp
        go_wp2_with (go_at_call 18; refine (M1.out _).mono ?_; rintro e w1 ⟨rfl, hb1⟩; have hT1 := Lib.hid (hT0.out.next hb1); clear hb1; obtain ⟨a0, a1, a2⟩ := hT1.out.at1.cells; obtain ⟨b0, b1, b2⟩ := hT1.out.at2.cells; obtain ⟨c0, c1, c2⟩ := hT1.out.at3.cells)
        first | (refine hK _ _ ?_; clear hK K) | skip
        refine wpAny_ready (rs := [2]) (by kernel_rfl) (by simp) ?_
        refine AllReady.cons rfl (fun K hK => ?_) AllReady.nil
        go_simp
        refine hK _ _ ?_
        clear hK K
        refine wpAny_ready (rs := [3]) (by kernel_rfl) (by simp) ?_
        refine AllReady.cons rfl (fun K hK => ?_) AllReady.nil
        go_simp
        go_wp2_with (go_at_call 18; refine (M2.out _).mono ?_; rintro e w2 ⟨rfl, hb2⟩; have hT2 := Lib.hid (hT1.out.next hb2); clear hb2; obtain ⟨a0, a1, a2⟩ := hT2.out.at1.cells; obtain ⟨b0, b1, b2⟩ := hT2.out.at2.cells; obtain ⟨c0, c1, c2⟩ := hT2.out.at3.cells)
        first | (refine hK _ _ ?_; clear hK K) | skip
        refine wpAny_ready (rs := [5]) (by kernel_rfl) (by simp) ?_
        refine AllReady.cons rfl (fun K hK => ?_) AllReady.nil
        go_simp
        go_wp2_with (go_at_call 18; refine (M3.out _).mono ?_; rintro e w3 ⟨rfl, hb3⟩; have hT3 := Lib.hid (hT2.out.next hb3); clear hb3; obtain ⟨a0, a1, a2⟩ := hT3.out.at1.cells; obtain ⟨b0, b1, b2⟩ := hT3.out.at2.cells; obtain ⟨c0, c1, c2⟩ := hT3.out.at3.cells)
        first | (refine hK _ _ ?_; clear hK K) | skip
        refine wpAny_ready (rs := [6]) (by kernel_rfl) (by simp) ?_
        refine AllReady.cons rfl (fun K hK => ?_) AllReady.nil
        refine step_storeC (by rfl) _ _ (by rfl) W.heap.size A (by rfl) (by rfl) _ hT3.out.at1 rfl ?_
        intro w4 h4 k4
        have hT4 := Lib.hid (hT3.out.set1 k4 h4 (by omega) (by omega) (by omega))
        clear h4 k4
        refine hK _ _ ?_
        clear hK K
        refine wpAny_ready (rs := [7]) (by kernel_rfl) (by simp) ?_
        refine AllReady.cons rfl (fun K hK => ?_) AllReady.nil
        refine step_storeC (by rfl) _ _ (by rfl) (W.heap.size + 1) B (by rfl) (by rfl) _ hT4.out.at2 rfl ?_
        intro w5 h5 k5
        have hT5 := Lib.hid (hT4.out.set2 k5 h5 (by omega) (by omega) (by omega))
        clear h5 k5
        refine hK _ _ ?_
        clear hK K
        refine wpAny_ready (rs := [8]) (by kernel_rfl) (by simp) ?_
        refine AllReady.cons rfl (fun K hK => ?_) AllReady.nil
        refine step_storeC (by rfl) _ _ (by rfl) (W.heap.size + 2) C (by rfl) (by rfl) _ hT5.out.at3 rfl ?_
        intro w6 h6 k6
        have hT6 := Lib.hid (hT5.out.set3 k6 h6 (by omega) (by omega) (by omega))
        clear h6 k6
        refine hK _ _ ?_
        clear hK K
        refine wpAny_done (by kernel_rfl) ?_ _
        go_wp2_with fail
        go_meet
        case rel => exact ⟨rfl, hT6⟩
      refine AllReady.cons rfl (fun K hK => ?_) AllReady.nil
      go_simp
      refine hK _ _ ?_
      clear hK K
      refine wpAny_ready (rs := [1]) (by kernel_rfl) (by simp) ?_
      refine AllReady.cons rfl (fun K hK => ?_) AllReady.nil
      go_simp
      go_wp2_with (go_at_call 18; refine (M1.out _).mono ?_; rintro e w1 ⟨rfl, hb1⟩; have hT1 := Lib.hid (hT0.out.next hb1); clear hb1; obtain ⟨a0, a1, a2⟩ := hT1.out.at1.cells; obtain ⟨b0, b1, b2⟩ := hT1.out.at2.cells; obtain ⟨c0, c1, c2⟩ := hT1.out.at3.cells)
      first | (refine hK _ _ ?_; clear hK K) | skip
      refine wpAny_ready (rs := [3]) (by kernel_rfl) (by simp) ?_
      refine AllReady.cons rfl (fun K hK => ?_) AllReady.nil
      go_simp
      go_wp2_with (go_at_call 18; refine (M2.out _).mono ?_; rintro e w2 ⟨rfl, hb2⟩; have hT2 := Lib.hid (hT1.out.next hb2); clear hb2; obtain ⟨a0, a1, a2⟩ := hT2.out.at1.cells; obtain ⟨b0, b1, b2⟩ := hT2.out.at2.cells; obtain ⟨c0, c1, c2⟩ := hT2.out.at3.cells)
      first | (refine hK _ _ ?_; clear hK K) | skip
      refine wpAny_ready (rs := [5]) (by kernel_rfl) (by simp) ?_
      refine AllReady.cons rfl (fun K hK => ?_) AllReady.nil
      go_simp
      go_wp2_with (go_at_call 18; refine (M3.out _).mono ?_; rintro e w3 ⟨rfl, hb3⟩; have hT3 := Lib.hid (hT2.out.next hb3); clear hb3; obtain ⟨a0, a1, a2⟩ := hT3.out.at1.cells; obtain ⟨b0, b1, b2⟩ := hT3.out.at2.cells; obtain ⟨c0, c1, c2⟩ := hT3.out.at3.cells)
      first | (refine hK _ _ ?_; clear hK K) | skip
      refine wpAny_ready (rs := [6]) (by kernel_rfl) (by simp) ?_
      refine AllReady.cons rfl (fun K hK => ?_) AllReady.nil
      refine step_storeC (by rfl) _ _ (by rfl) W.heap.size A (by rfl) (by rfl) _ hT3.out.at1 rfl ?_
      intro w4 h4 k4
      have hT4 := Lib.hid (hT3.out.set1 k4 h4 (by omega) (by omega) (by omega))
      clear h4 k4
      refine hK _ _ ?_
      clear hK K
      refine wpAny_ready (rs := [7]) (by kernel_rfl) (by simp) ?_
      refine AllReady.cons rfl (fun K hK => ?_) AllReady.nil
      refine step_storeC (by rfl) _ _ (by rfl) (W.heap.size + 1) B (by rfl) (by rfl) _ hT4.out.at2 rfl ?_
      intro w5 h5 k5
      have hT5 := Lib.hid (hT4.out.set2 k5 h5 (by omega) (by omega) (by omega))
      clear h5 k5
      refine hK _ _ ?_
      clear hK K
      refine wpAny_ready (rs := [8]) (by kernel_rfl) (by simp) ?_
      refine AllReady.cons rfl (fun K hK => ?_) AllReady.nil
      refine step_storeC (by rfl) _ _ (by rfl) (W.heap.size + 2) C (by rfl) (by rfl) _ hT5.out.at3 rfl ?_
      intro w6 h6 k6
      have hT6 := Lib.hid (hT5.out.set3 k6 h6 (by omega) (by omega) (by omega))
      clear h6 k6
      refine hK _ _ ?_
      clear hK K
      refine wpAny_done (by kernel_rfl) ?_ _
      go_wp2_with fail
      go_meet
      case rel => exact ⟨rfl, hT6⟩
    refine AllReady.cons rfl (fun K hK => ?_) AllReady.nil
    go_simp
    refine hK _ _ ?_
    clear hK K
    refine wpAny_ready (rs := [0]) (by kernel_rfl) (by simp) ?_
    refine AllReady.cons rfl (fun K hK => ?_) AllReady.nil
    go_simp
    refine hK _ _ ?_
    clear hK K
    refine wpAny_ready (rs := [1]) (by kernel_rfl) (by simp) ?_
    refine AllReady.cons rfl (fun K hK => ?_) AllReady.nil
    go_simp
    go_wp2_with (go_at_call 18; refine (M1.out _).mono ?_; rintro e w1 ⟨rfl, hb1⟩; have hT1 := Lib.hid (hT0.out.next hb1); clear hb1; obtain ⟨a0, a1, a2⟩ := hT1.out.at1.cells; obtain ⟨b0, b1, b2⟩ := hT1.out.at2.cells; obtain ⟨c0, c1, c2⟩ := hT1.out.at3.cells)
    first | (refine hK _ _ ?_; clear hK K) | skip
    refine wpAny_ready (rs := [3]) (by kernel_rfl) (by simp) ?_
    refine AllReady.cons rfl (fun K hK => ?_) AllReady.nil
    go_simp
    go_wp2_with (go_at_call 18; refine (M2.out _).mono ?_; rintro e w2 ⟨rfl, hb2⟩; have hT2 := Lib.hid (hT1.out.next hb2); clear hb2; obtain ⟨a0, a1, a2⟩ := hT2.out.at1.cells; obtain ⟨b0, b1, b2⟩ := hT2.out.at2.cells; obtain ⟨c0, c1, c2⟩ := hT2.out.at3.cells)
    first | (refine hK _ _ ?_; clear hK K) | skip
    refine wpAny_ready (rs := [5]) (by kernel_rfl) (by simp) ?_
    refine AllReady.cons rfl (fun K hK => ?_) AllReady.nil
    go_simp
    go_wp2_with (go_at_call 18; refine (M3.out _).mono ?_; rintro e w3 ⟨rfl, hb3⟩; have hT3 := Lib.hid (hT2.out.next hb3); clear hb3; obtain ⟨a0, a1, a2⟩ := hT3.out.at1.cells; obtain ⟨b0, b1, b2⟩ := hT3.out.at2.cells; obtain ⟨c0, c1, c2⟩ := hT3.out.at3.cells)
    first | (refine hK _ _ ?_; clear hK K) | skip
    refine wpAny_ready (rs := [6]) (by kernel_rfl) (by simp) ?_
    refine AllReady.cons rfl (fun K hK => ?_) AllReady.nil
    refine step_storeC (by rfl) _ _ (by rfl) W.heap.size A (by rfl) (by rfl) _ hT3.out.at1 rfl ?_
    intro w4 h4 k4
    have hT4 := Lib.hid (hT3.out.set1 k4 h4 (by omega) (by omega) (by omega))
    clear h4 k4
    refine hK _ _ ?_
    clear hK K
    refine wpAny_ready (rs := [7]) (by kernel_rfl) (by simp) ?_
    refine AllReady.cons rfl (fun K hK => ?_) AllReady.nil
    refine step_storeC (by rfl) _ _ (by rfl) (W.heap.size + 1) B (by rfl) (by rfl) _ hT4.out.at2 rfl ?_
    intro w5 h5 k5
    have hT5 := Lib.hid (hT4.out.set2 k5 h5 (by omega) (by omega) (by omega))
    clear h5 k5
    refine hK _ _ ?_
    clear hK K
    refine wpAny_ready (rs := [8]) (by kernel_rfl) (by simp) ?_
    refine AllReady.cons rfl (fun K hK => ?_) AllReady.nil
    refine step_storeC (by rfl) _ _ (by rfl) (W.heap.size + 2) C (by rfl) (by rfl) _ hT5.out.at3 rfl ?_
    intro w6 h6 k6
    have hT6 := Lib.hid (hT5.out.set3 k6 h6 (by omega) (by omega) (by omega))
    clear h6 k6
    refine hK _ _ ?_
    clear hK K
    refine wpAny_done (by kernel_rfl) ?_ _
    go_wp2_with fail
    go_meet
    case rel => exact ⟨rfl, hT6⟩
  case rest =>
    obtain ⟨rfl, HT⟩ := hcut
    clear hT0 M1 M2 M3 a0 a1 a2 b0 b1 b2 c0 c1 c2
    have hself := srv_self HO.out.1 HO.out.2
    have hchk := chk_yes HO.out.1
    have v1 := fun w => cServes A B w
    have v2 := fun w => cServes B C w
    have v3 := fun w => cServes A A w
    have v4 := fun w => cServes A C w
    have v5 := fun w => cCheck A w
    rw [hself] at v3
    rw [hchk] at v5
    have V3 := Lib.hid v3
    have V5 := Lib.hid v5
    clear HO v3 v5 hself hchk
    obtain ⟨a0, a1, a2⟩ := HT.out.at1.cells
    obtain ⟨b0, b1, b2⟩ := HT.out.at2.cells
    obtain ⟨c0, c1, c2⟩ := HT.out.at3.cells
    cases h1 : srv A B with
    | false =>
      rw [h1] at v1
      have V1 := Lib.hid v1
      clear v1 v2 v4
      go_wp2_with fail
      refine (V1.out _).mono ?_
      rintro e w1 ⟨rfl, hb1⟩
      have HT1 := Lib.hid (HT.out.next hb1)
      clear hb1 a0 a1 a2 b0 b1 b2 c0 c1 c2 HT
      obtain ⟨a0, a1, a2⟩ := HT1.out.at1.cells
      obtain ⟨b0, b1, b2⟩ := HT1.out.at2.cells
      obtain ⟨c0, c1, c2⟩ := HT1.out.at3.cells
      go_wp2_with fail
      refine (V3.out _).mono ?_
      rintro e w2 ⟨rfl, hb2⟩
      have HT2 := Lib.hid (HT1.out.next hb2)
      clear hb2 a0 a1 a2 b0 b1 b2 c0 c1 c2 HT1
      obtain ⟨a0, a1, a2⟩ := HT2.out.at1.cells
      obtain ⟨b0, b1, b2⟩ := HT2.out.at2.cells
      obtain ⟨c0, c1, c2⟩ := HT2.out.at3.cells
      go_wp2_with fail
      refine (V5.out _).mono ?_
      rintro e w3 ⟨rfl, hb3⟩
      have HT3 := Lib.hid (HT2.out.next hb3)
      clear hb3 a0 a1 a2 b0 b1 b2 c0 c1 c2 HT2
      obtain ⟨a0, a1, a2⟩ := HT3.out.at1.cells
      obtain ⟨b0, b1, b2⟩ := HT3.out.at2.cells
      obtain ⟨c0, c1, c2⟩ := HT3.out.at3.cells
      go_wp2_with fail
      refine (works _).mono ?_
      rintro e w4 ⟨rfl, hb4⟩
      have HT4 := Lib.hid (HT3.out.next hb4)
      clear hb4 a0 a1 a2 b0 b1 b2 c0 c1 c2 HT3
      obtain ⟨a0, a1, a2⟩ := HT4.out.at1.cells
      obtain ⟨b0, b1, b2⟩ := HT4.out.at2.cells
      obtain ⟨c0, c1, c2⟩ := HT4.out.at3.cells
      go_wp2
      go_ret
      exact ⟨rfl, HT4.out.low⟩
    | true =>
      rw [h1] at v1
      have V1 := Lib.hid v1
      cases h2 : srv B C with
      | false =>
        rw [h2] at v2
        have V2 := Lib.hid v2
        clear v1 v2 v4
        go_wp2_with fail
        refine (V1.out _).mono ?_
        rintro e w1 ⟨rfl, hb1⟩
        have HT1 := Lib.hid (HT.out.next hb1)
        clear hb1 a0 a1 a2 b0 b1 b2 c0 c1 c2 HT
        obtain ⟨a0, a1, a2⟩ := HT1.out.at1.cells
        obtain ⟨b0, b1, b2⟩ := HT1.out.at2.cells
        obtain ⟨c0, c1, c2⟩ := HT1.out.at3.cells
        go_wp2_with fail
        refine (V2.out _).mono ?_
        rintro e w2 ⟨rfl, hb2⟩
        have HT2 := Lib.hid (HT1.out.next hb2)
        clear hb2 a0 a1 a2 b0 b1 b2 c0 c1 c2 HT1
        obtain ⟨a0, a1, a2⟩ := HT2.out.at1.cells
        obtain ⟨b0, b1, b2⟩ := HT2.out.at2.cells
        obtain ⟨c0, c1, c2⟩ := HT2.out.at3.cells
        go_wp2_with fail
        refine (V3.out _).mono ?_
        rintro e w3 ⟨rfl, hb3⟩
        have HT3 := Lib.hid (HT2.out.next hb3)
        clear hb3 a0 a1 a2 b0 b1 b2 c0 c1 c2 HT2
        obtain ⟨a0, a1, a2⟩ := HT3.out.at1.cells
        obtain ⟨b0, b1, b2⟩ := HT3.out.at2.cells
        obtain ⟨c0, c1, c2⟩ := HT3.out.at3.cells
        go_wp2_with fail
        refine (V5.out _).mono ?_
        rintro e w4 ⟨rfl, hb4⟩
        have HT4 := Lib.hid (HT3.out.next hb4)
        clear hb4 a0 a1 a2 b0 b1 b2 c0 c1 c2 HT3
        obtain ⟨a0, a1, a2⟩ := HT4.out.at1.cells
        obtain ⟨b0, b1, b2⟩ := HT4.out.at2.cells
        obtain ⟨c0, c1, c2⟩ := HT4.out.at3.cells
        go_wp2_with fail
        refine (works _).mono ?_
        rintro e w5 ⟨rfl, hb5⟩
        have HT5 := Lib.hid (HT4.out.next hb5)
        clear hb5 a0 a1 a2 b0 b1 b2 c0 c1 c2 HT4
        obtain ⟨a0, a1, a2⟩ := HT5.out.at1.cells
        obtain ⟨b0, b1, b2⟩ := HT5.out.at2.cells
        obtain ⟨c0, c1, c2⟩ := HT5.out.at3.cells
        go_wp2
        go_ret
        exact ⟨rfl, HT5.out.low⟩
      | true =>
        rw [h2] at v2
        rw [srv_trans h1 h2] at v4
        have V2 := Lib.hid v2
        have V4 := Lib.hid v4
        clear v1 v2 v4
        go_wp2_with fail
        refine (V1.out _).mono ?_
        rintro e w1 ⟨rfl, hb1⟩
        have HT1 := Lib.hid (HT.out.next hb1)
        clear hb1 a0 a1 a2 b0 b1 b2 c0 c1 c2 HT
        obtain ⟨a0, a1, a2⟩ := HT1.out.at1.cells
        obtain ⟨b0, b1, b2⟩ := HT1.out.at2.cells
        obtain ⟨c0, c1, c2⟩ := HT1.out.at3.cells
        go_wp2_with fail
        refine (V2.out _).mono ?_
        rintro e w2 ⟨rfl, hb2⟩
        have HT2 := Lib.hid (HT1.out.next hb2)
        clear hb2 a0 a1 a2 b0 b1 b2 c0 c1 c2 HT1
        obtain ⟨a0, a1, a2⟩ := HT2.out.at1.cells
        obtain ⟨b0, b1, b2⟩ := HT2.out.at2.cells
        obtain ⟨c0, c1, c2⟩ := HT2.out.at3.cells
        go_wp2_with fail
        refine (V3.out _).mono ?_
        rintro e w3 ⟨rfl, hb3⟩
        have HT3 := Lib.hid (HT2.out.next hb3)
        clear hb3 a0 a1 a2 b0 b1 b2 c0 c1 c2 HT2
        obtain ⟨a0, a1, a2⟩ := HT3.out.at1.cells
        obtain ⟨b0, b1, b2⟩ := HT3.out.at2.cells
        obtain ⟨c0, c1, c2⟩ := HT3.out.at3.cells
        go_wp2_with fail
        refine (V4.out _).mono ?_
        rintro e w4 ⟨rfl, hb4⟩
        have HT4 := Lib.hid (HT3.out.next hb4)
        clear hb4 a0 a1 a2 b0 b1 b2 c0 c1 c2 HT3
        obtain ⟨a0, a1, a2⟩ := HT4.out.at1.cells
        obtain ⟨b0, b1, b2⟩ := HT4.out.at2.cells
        obtain ⟨c0, c1, c2⟩ := HT4.out.at3.cells
        go_wp2_with fail
        refine (V5.out _).mono ?_
        rintro e w5 ⟨rfl, hb5⟩
        have HT5 := Lib.hid (HT4.out.next hb5)
        clear hb5 a0 a1 a2 b0 b1 b2 c0 c1 c2 HT4
        obtain ⟨a0, a1, a2⟩ := HT5.out.at1.cells
        obtain ⟨b0, b1, b2⟩ := HT5.out.at2.cells
        obtain ⟨c0, c1, c2⟩ := HT5.out.at3.cells
        go_wp2_with fail
        refine (works _).mono ?_
        rintro e w6 ⟨rfl, hb6⟩
        have HT6 := Lib.hid (HT5.out.next hb6)
        clear hb6 a0 a1 a2 b0 b1 b2 c0 c1 c2 HT5
        obtain ⟨a0, a1, a2⟩ := HT6.out.at1.cells
        obtain ⟨b0, b1, b2⟩ := HT6.out.at2.cells
        obtain ⟨c0, c1, c2⟩ := HT6.out.at3.cells
        go_wp2
        go_ret
        exact ⟨rfl, HT6.out.low⟩
end Go.Proofs.Ytpaanlamjncajaa
