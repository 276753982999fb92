/-
  The statements' 'works' (the chapter's three scripts) answers true.
-/
import Derived.Test.YtifkkblmcdggmaaSame
import Derived.Test.YtifkkblmcdggmaaScript2
set_option linter.unusedVariables false
set_option linter.unusedSimpArgs false
namespace Go.Proofs.Ytifkkblmcdggmaa
open Go Go.RowKit

theorem dec0 : dec [] = ⟨1, 1, [[]], []⟩ := by decide
theorem dec1 : dec [0, 0, 7, 1, 15, 2, 1, 0, 3, 9, 4] = ⟨1, 8, [[⟨1, 2, 256, 3⟩]], [9, 4]⟩ := by decide
theorem dec2 : dec [9, 4, 0] = ⟨2, 1, [[], []], []⟩ := by decide
theorem show_lit (w : World) (l : List Int) (h : l.length ≤ 10000) : ShowBytes (w.alloc (.cells (bytes l).toArray 5)) (.slice (some ⟨w.heap.size, 0, none⟩) l.length l.length) l := by
  have := World.ownsRow_lit (base := 0) (e := 5) (size := 1) w (bytes l).toArray l.length (Nat.zero_le _) (by unfold maxLen; omega) (by simp)
  have h2 := Shows.ofOwns this
  unfold ShowBytes
  simpa using h2
theorem showI_lit (w : World) (l : List Int) (h : l.length ≤ 10000) : ShowInts (w.alloc (.cells (ints l).toArray 3)) (.slice (some ⟨w.heap.size, 0, none⟩) l.length l.length) l := by
  have := World.ownsRow_lit (base := 0) (e := 3) (size := 1) w (ints l).toArray l.length (Nat.zero_le _) (by unfold maxLen; omega) (by simp)
  have h2 := Shows.ofOwns this
  unfold ShowInts
  simpa using h2
theorem show_nil (w : World) : ShowBytes w (.slice none 0 0) [] := Shows.nil w 1
theorem lists_cons {w : World} {v : Value} {l : List Cl} {L : List (List Cl)} (h : ShowLists w v (l :: L)) : ∃ b o cap u, v = .slice (some ⟨b, o, none⟩) (l :: L).length cap ∧ w.cell? ⟨b, o, none⟩ = some u ∧ ShowCalls w u l := by
  obtain ⟨ao, cap, rfl, _, hat⟩ := h.form
  obtain ⟨b, o, u, rfl, hu, hs⟩ := hat 0 (by simp)
  exact ⟨b, o, cap, u, rfl, by simpa using hu, by simpa using hs⟩
theorem calls_cons {w : World} {v : Value} {c : Cl} {l : List Cl} (h : ShowCalls w v (c :: l)) : ∃ b o cap, v = .slice (some ⟨b, o, none⟩) (c :: l).length cap ∧ w.cell? ⟨b, o, none⟩ = some (.int .i64 c.op) ∧ w.cell? ⟨b, o + 1, none⟩ = some (.int .i64 c.a) ∧ w.cell? ⟨b, o + 2, none⟩ = some (.int .i64 c.b) ∧ w.cell? ⟨b, o + 3, none⟩ = some (.int .i64 c.c) := by
  obtain ⟨ao, cap, rfl, _, hat⟩ := h.form
  obtain ⟨b, o, rfl, h0, h1, h2, h3⟩ := hat 0 (by simp)
  exact ⟨b, o, cap, rfl, by simpa using h0, by simpa using h1, by simpa using h2, by simpa using h3⟩
theorem eq_works : ∀ w', (Op.equalIn 10000 44 (.agg #[.int .i64 1, .int .i64 2, .int .i64 256, .int .i64 3]) (.agg #[.int .i64 1, .int .i64 2, .int .i64 256, .int .i64 3])).run Try.prog w' = .ok true w' := fun w' => eqinIs (c := ⟨1, 2, 256, 3⟩) (d := ⟨1, 2, 256, 3⟩) (by decide)
theorem cell_keep {w w' : World} {p : Addr} {u : Value} (hb : Below w.heap.size w w') (h : w.cell? p = some u) : w'.cell? p = some u := (hb.cell (World.block_lt_of_cell? w _ h)).trans h

theorem sc0 (w : World) : Calls Try.prog 18 #[.slice none 0 0] w fun e w' => ∃ b o cl x cx ap cp, e = .returned (.agg #[.int .i64 1, .int .i64 1, .slice (some ⟨b, o, none⟩) 1 cl, .slice ap 0 cp]) ∧ w'.cell? ⟨b, o, none⟩ = some (.slice x 0 cx) ∧ Below w.heap.size w w' := by
  refine (cScript _ [] w (show_nil w) (fun x h => by simp at h)).mono ?_
  rintro e w' ⟨vc, vp, rfl, h1, h2, h3⟩
  rw [dec0] at h1 h2 ⊢
  obtain ⟨b, o, cl, u, rfl, hu, hs⟩ := lists_cons h1
  obtain ⟨x, cx, rfl, _⟩ := hs.form
  obtain ⟨ap, cp, rfl⟩ := own_form h2
  exact ⟨b, o, cl, x, cx, ap, cp, rfl, hu, h3⟩
theorem sc1 (w : World) (v : Value) (h : ShowBytes w v [0, 0, 7, 1, 15, 2, 1, 0, 3, 9, 4]) : Calls Try.prog 18 #[v] w fun e w' => ∃ b o cl b2 o2 cx ap cp, e = .returned (.agg #[.int .i64 1, .int .i64 8, .slice (some ⟨b, o, none⟩) 1 cl, .slice ap 2 cp]) ∧ w'.cell? ⟨b, o, none⟩ = some (.slice (some ⟨b2, o2, none⟩) 1 cx) ∧
    (w'.cell? ⟨b2, o2, none⟩ = some (.int .i64 1) ∧ w'.cell? ⟨b2, o2 + 1, none⟩ = some (.int .i64 2) ∧ w'.cell? ⟨b2, o2 + 2, none⟩ = some (.int .i64 256) ∧ w'.cell? ⟨b2, o2 + 3, none⟩ = some (.int .i64 3)) ∧ ShowInts w' (.slice ap 2 cp) [9, 4] ∧ Below w.heap.size w w' := by
  refine (cScript _ _ w h (fun x h => by simp at h; omega)).mono ?_
  rintro e w' ⟨vc, vp, rfl, h1, h2, h3⟩
  rw [dec1] at h1 h2 ⊢
  obtain ⟨b, o, cl, u, rfl, hu, hs⟩ := lists_cons h1
  obtain ⟨b2, o2, cx, rfl, c0, c1, c2, c3⟩ := calls_cons hs
  have hi := OwnInts.shows h2
  obtain ⟨ap, cp, rfl⟩ := own_form h2
  exact ⟨b, o, cl, b2, o2, cx, ap, cp, rfl, hu, ⟨c0, c1, c2, c3⟩, hi, h3⟩
theorem sc2 (w : World) (v : Value) (h : ShowBytes w v [9, 4, 0]) : Calls Try.prog 18 #[v] w fun e w' => ∃ al cl ap cp, e = .returned (.agg #[.int .i64 2, .int .i64 1, .slice al 2 cl, .slice ap 0 cp]) ∧ Below w.heap.size w w' := by
  refine (cScript _ _ w h (fun x h => by simp at h; omega)).mono ?_
  rintro e w' ⟨vc, vp, rfl, h1, h2, h3⟩
  rw [dec2] at h1 h2 ⊢
  obtain ⟨al, cl, rfl, _⟩ := h1.form
  obtain ⟨ap, cp, rfl⟩ := own_form h2
  exact ⟨al, cl, ap, cp, rfl, h3⟩

theorem lit11 (w : World) (n : Nat) (hn : w.heap.size = n) : ShowBytes (w.alloc (.cells #[.int .u8 0, .int .u8 0, .int .u8 7, .int .u8 1, .int .u8 15, .int .u8 2, .int .u8 1, .int .u8 0, .int .u8 3, .int .u8 9, .int .u8 4] 5)) (.slice (some ⟨n, 0, none⟩) 11 11) [0, 0, 7, 1, 15, 2, 1, 0, 3, 9, 4] := by subst hn; exact show_lit w [0, 0, 7, 1, 15, 2, 1, 0, 3, 9, 4] (by decide)
theorem lit3 (w : World) (n : Nat) (hn : w.heap.size = n) : ShowBytes (w.alloc (.cells #[.int .u8 9, .int .u8 4, .int .u8 0] 5)) (.slice (some ⟨n, 0, none⟩) 3 3) [9, 4, 0] := by subst hn; exact show_lit w [9, 4, 0] (by decide)
theorem litI (w : World) (n : Nat) (hn : w.heap.size = n) : ShowInts (w.alloc (.cells #[.int .i64 9, .int .i64 4] 3)) (.slice (some ⟨n, 0, none⟩) 2 2) [9, 4] := by subst hn; exact showI_lit w [9, 4] (by decide)

theorem size_drewN (w : World) (n : Nat) : (w.drewN n).heap.size = w.heap.size := rfl
theorem heap_mid (w : World) (o o' : Obj) (n : Nat) : (((w.alloc o).drewN n).alloc o').heap[w.heap.size]? = some o := by
  rw [Below.heap_alloc _ _ _ (by rw [size_drewN, size_alloc]; omega)]
  exact heap_new w o
theorem eqIntsT (u v : Value) (a : List Int) (w : World) (hu : ShowInts w u a) (hv : ShowInts w v a) :
    Calls Try.prog 22 #[u, v] w fun e w' => e = .returned (.bool true) ∧ Below w.heap.size w w' := by
  refine (cEqInts u v a a w hu hv).mono ?_
  rintro e w' ⟨rfl, h⟩
  exact ⟨ret_bool (by simp), h⟩

set_option maxHeartbeats 1000000 in
set_option maxRecDepth 100000 in
theorem works (w : World) : Calls Try.prog 16 #[] w fun e w' => e = .returned (.bool true) ∧ Below w.heap.size w w' := by
  have hgd := guard44
  go_enter Try.func16, Try.ntmps16
  go_wp2_with fail
  refine (sc0 _).mono ?_
  rintro e w1 ⟨b, o, cl, x, cx, ap, cp, rfl, hc, hb1⟩
  go_wp2_with fail
  refine (sc1 _ _ (lit11 _ _ (size_alloc _ _))).mono ?_
  rintro e w2 ⟨b', o', cl', b2, o2, cx', ap', cp', rfl, hc', ⟨d0, d1, d2, d3⟩, hi, hb2⟩
  go_wp2_with fail
  refine (sc2 _ _ (lit3 _ _ (size_alloc _ _))).mono ?_
  rintro e w3 ⟨al, cl3, ap3, cp3, rfl, hb3⟩
  have z1 := hb2.size
  have z2 := hb3.size
  rw [size_alloc, size_alloc] at z1 z2
  have hA2 := (hb2.block w1.heap.size (by rw [size_alloc, size_alloc]; omega)).trans (heap_low2 _ _ _)
  have hA3 := ((hb3.block w1.heap.size (by rw [size_alloc, size_alloc]; omega)).trans (by rw [Below.heap_alloc _ _ _ (by rw [size_alloc]; omega), Below.heap_alloc _ _ _ (by omega)])).trans hA2
  have hB3 := (hb3.block w2.heap.size (by rw [size_alloc, size_alloc]; omega)).trans (heap_low2 _ _ _)
  have hb13 := below_then (below_then (below_one (below_one (Below.refl _ w1) _) _) hb2) (below_then (below_one (below_one (Below.refl _ w2) _) _) hb3)
  have hb23 := below_then (below_one (below_one (Below.refl _ w2) _) _) hb3
  have hbw := below_then hb1 hb13
  have l1 : w1.heap.size < w3.heap.size := by omega
  have l2 : w2.heap.size < w3.heap.size := by omega
  obtain ⟨a0, a1, a2, a3⟩ := self4 hA3
  obtain ⟨q0, q1, q2, q3⟩ := self4 hB3
  have hc := cell_keep hb13 hc
  have hc' := cell_keep hb23 hc'
  have d0 := cell_keep hb23 d0
  have d1 := cell_keep hb23 d1
  have d2 := cell_keep hb23 d2
  have d3 := cell_keep hb23 d3
  have l3 := World.block_lt_of_cell? _ _ hc
  have l4 := World.block_lt_of_cell? _ _ hc'
  have l5 := World.block_lt_of_cell? _ _ d0
  have hi := hi.below hb23
  clear hb1 hb2 hb3 hb13 hb23 hA2 hA3 hB3 z1 z2
  go_wp2
  go_quiet (fail)
  have heq := eq_works
  go_wp2_with fail
  refine (eqIntsT _ _ [9, 4] _ (hi.below (below_one (below_drewN (below_one (Below.refl _ _) _) _) _)) (litI _ _ (by rw [size_drewN, size_alloc]))).mono ?_
  rintro e w4 ⟨rfl, hb4⟩
  have hC4 := (hb4.block w3.heap.size (by rw [size_alloc, size_drewN, size_alloc]; omega)).trans (heap_mid _ _ _ _)
  obtain ⟨c0, c1, c2, c3⟩ := self4 hC4
  have hbF := below_then (below_then hbw (below_one (below_drewN (below_one (Below.refl _ w3) _) _) _)) hb4
  clear hb4 hC4 heq hgd
  go_wp2
  go_ret
  exact ⟨rfl, hbF⟩
end Go.Proofs.Ytifkkblmcdggmaa
