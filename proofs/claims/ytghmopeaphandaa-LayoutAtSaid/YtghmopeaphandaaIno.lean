/-
  inOrder of the program.
-/
import Derived.Test.YtghmopeaphandaaLay
set_option linter.unusedVariables false
set_option linter.unusedSimpArgs false
namespace Go.Proofs.Ytghmopeaphandaa
open Go Go.RowKit

theorem res_inOrder {tmps : Array Value} {K : Nat} {w : World} {l : Ly} (h4 : tmps.getD 4 undef = .pointer (some ⟨K, 0, none⟩)) (hb : LyAt w K l) :
    (results Try.f26 tmps).run Try.prog w = .ok l.agg w := by
  obtain ⟨fs, hf⟩ := underL
  exact results_cell_row rfl tmps w K _ l.arr _ (.struct fs) h4 hb hf rfl infoS
set_option maxHeartbeats 2000000 in
theorem cInOrder (l : Ly) (k : Nat) (hk : k < 4) (hS : 1 ≤ l.step ∧ l.step ≤ 4096) (w : World) :
    Calls Try.prog 26 #[l.agg, .int .i64 k] w fun e w' => e = .returned (inO l.size l.align l.step l.off k).agg ∧ Below w.heap.size w w' := by
  obtain ⟨s, a, S, f, o, m, x⟩ := l
  dsimp only at hS ⊢
  obtain ⟨r1, r2, r3, r4, _⟩ := nO_range (S := S) hS.1 hk
  obtain ⟨b1, b2, b3⟩ := sb_range hk
  have HB : Hid (∀ w', Calls Try.prog 27 #[.int .i64 k] w' fun e w2 => e = .returned (.int .i64 (sb k)) ∧ w2 = w') := Lib.hid (cSlabBytes k hk)
  have hq0 : 0 ≤ sb k / S := Int.ediv_nonneg (by omega) (by omega)
  have hq1 : sb k / S ≤ sb k := Int.ediv_le_self _ (by omega)
  have hqt : (sb k).tdiv S = sb k / S := Int.tdiv_eq_ediv_of_nonneg (by omega)
  unfold inO
  obtain ⟨n, hn⟩ : ∃ n, nO S k = n := ⟨_, rfl⟩
  obtain ⟨y, hy⟩ : ∃ y, wO S k = y := ⟨_, rfl⟩
  have hY : sb k - n * S = y := by rw [← hn]; exact hy
  have hN : (if 16 < sb k / S then 16 else sb k / S) = n := hn
  rw [hn, hy]
  rw [hn] at r1 r2 r3 r4
  clear hn hy
  generalize sb k = b at *
  obtain ⟨q, hq⟩ : ∃ q, b / S = q := ⟨_, rfl⟩
  rw [hq] at hN hq0 hq1 hqt
  clear hq
  obtain ⟨p, hp⟩ : ∃ p, n * S = p := ⟨_, rfl⟩
  rw [hp] at r3 r4 hY
  have hbl : Below w.heap.size w (w.alloc (.cells (Ly.arr ⟨s, a, S, f, o, m, x⟩) 23)) := below_one (Below.refl _ _) _
  obtain ⟨hS1, hS2⟩ := hS
  have hwp : IntKind.i64.wrap p = p := IntWalk.i64_in _ (by omega)
  have hwy : IntKind.i64.wrap (b - p) = y := by rw [hY]; exact IntWalk.i64_in _ (by omega)
  go_enter Try.func26, Try.ntmps26
  go_wp2
  obtain ⟨D, hD⟩ : ∃ D, w.heap.size = D := ⟨_, rfl⟩
  obtain ⟨w1, hw1⟩ : ∃ w1, (w.alloc (.cells #[.int .i64 s, .int .i64 a, .int .i64 S, .int .i64 f, .int .i64 k, .int .i64 m, .int .i64 x] 23)).alloc lay0 = w1 := ⟨_, rfl⟩
  have B1 : Hid (Below w.heap.size w w1) := Lib.hid (by rw [← hw1]; exact below_one (below_one (Below.refl _ _) _) _)
  have HH1 : Hid (LyAt w1 D ⟨s, a, S, f, k, m, x⟩) := Lib.hid (by rw [← hw1, ← hD]; exact heap_low2 _ _ _)
  have HR1 : Hid (LyAt w1 (D + 1) zL) := Lib.hid (by rw [← hw1, ← hD]; exact heap_new2 _ _ _)
  simp only [hw1, hD]
  clear hw1
  obtain ⟨c0, c1, c2, c3, c4, c5, c6⟩ := HH1.out.cells
  have f5 := self_free HH1.out 5
  refine wp_region_still_tail 4 (by kernel_rfl) (by kernel_rfl) ?_
  simp only [List.take_succ_cons, List.take_zero, List.drop_succ_cons, List.drop_zero]
  repeat still_step
  still_call (HB.out _)
  repeat still_step
  refine wpStill_nil ?_
  change wpList _ _ _ _ _ w1.drew
  go_wp2
  obtain ⟨w2, hw2⟩ : ∃ w2, (w1.setCell ⟨D, 5, none⟩ (.int .i64 n)).drew = w2 := ⟨_, rfl⟩
  have B2 : Hid (Below w.heap.size w w2) := Lib.hid (by rw [← hw2]; exact ((B1.out.setCell (p := ⟨D, 5, none⟩) (by rw [hD]; exact Nat.le_refl _) _).drew))
  have HH2 : Hid (LyAt w2 D ⟨s, a, S, f, k, n, x⟩) := Lib.hid (by rw [← hw2]; exact HH1.out.objs n)
  have HR2 : Hid (LyAt w2 (D + 1) zL) := Lib.hid (by rw [← hw2]; exact HR1.out.other (by omega) _ _)
  rw [hw2]
  clear hw2 c0 c1 c2 c3 c4 c5 c6 f5
  obtain ⟨c0, c1, c2, c3, c4, c5, c6⟩ := HH2.out.cells
  have f6 := self_free HH2.out 6
  have HH3 : Hid (LyAt (w2.setCell ⟨D, 6, none⟩ (.int .i64 y)).drew D ⟨s, a, S, f, k, n, y⟩) := Lib.hid (HH2.out.waste y)
  have HR3 : Hid (LyAt (w2.setCell ⟨D, 6, none⟩ (.int .i64 y)).drew (D + 1) zL) := Lib.hid (HR2.out.other (by omega) _ _)
  have B3 : Hid (Below w.heap.size w (w2.setCell ⟨D, 6, none⟩ (.int .i64 y)).drew) := Lib.hid ((B2.out.setCell (p := ⟨D, 6, none⟩) (by rw [hD]; exact Nat.le_refl _) _).drew)
  refine wp_region_still_tail 9 (by kernel_rfl) (by kernel_rfl) ?_
  simp only [List.take_succ_cons, List.take_zero, List.drop_succ_cons, List.drop_zero]
  repeat still_step
  still_call (HB.out _)
  repeat still_step
  refine wpStill_nil ?_
  change wpList _ _ _ _ _ w2.drew
  clear c0 c1 c3 c4
  go_wp2_with (first
    | (refine wpList_loadL (by rfl) _ (by rfl) D ⟨s, a, S, f, k, n, y⟩ (by rfl) HH3.out ?_)
    | (refine wpList_storeL (by rfl) _ _ (by rfl) (D + 1) ⟨s, a, S, f, k, n, y⟩ (by rfl) (by rfl) _ HR3.out rfl ?_; intro w4 h4 hk4))
  exact bodyPost_ret (res_inOrder rfl h4) rfl ⟨rfl, by rw [← hD]; exact below_one_kept B3.out hk4 (by omega)⟩
end Go.Proofs.Ytghmopeaphandaa
