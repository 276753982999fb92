/-
  slab of the document's answer.
-/
import Derived.Test.YtghmopeaphandaaRup
set_option linter.unusedVariables false
set_option linter.unusedSimpArgs false
namespace Go.Proofs.Ytghmopeaphandaa
open Go Go.RowKit

theorem res_slab {tmps : Array Value} {K : Nat} {w : World} {l : Ly} (h4 : tmps.getD 4 undef = .pointer (some ⟨K, 0, none⟩)) (hb : LyAt w K l) :
    (results Try.f22 tmps).run Try.prog w = .ok l.agg w := by
  obtain ⟨fs, hf⟩ := underL
  exact results_cell_row rfl tmps w K _ l.arr _ (.struct fs) h4 hb hf rfl infoS
theorem sb_next (j : Nat) : sb (j + 1) = sb j * 2 := by
  unfold sb
  rw [Int.pow_succ, Int.mul_assoc]
set_option maxHeartbeats 2000000 in
theorem rSlab (l : Ly) (k : Nat) (hk : k < 4) (hS : 1 ≤ l.step ∧ l.step ≤ 4096) (w : World) :
    Calls Try.prog 22 #[l.agg, .int .i64 k] w fun e w' => e = .returned (inO l.size l.align l.step l.off k).agg ∧ Below w.heap.size w w' := by
  obtain ⟨s, a, S, f, o, m, x⟩ := l
  dsimp only at hS ⊢
  obtain ⟨r1, r2, r3, r4, _⟩ := nO_range (S := S) hS.1 hk
  obtain ⟨b1, b2, b3⟩ := sb_range hk
  have hq0 : 0 ≤ sb k / S := Int.ediv_nonneg (by omega) (by omega)
  have hq1 : sb k / S ≤ sb k := Int.ediv_le_self _ (by omega)
  have hqt : (sb k).tdiv S = sb k / S := Int.tdiv_eq_ediv_of_nonneg (by omega)
  unfold inO
  obtain ⟨n, hn⟩ : ∃ n, nO S k = n := ⟨_, rfl⟩
  obtain ⟨y, hy⟩ : ∃ y, wO S k = y := ⟨_, rfl⟩
  have hY : sb k - n * S = y := by rw [← hn]; exact hy
  have hN : (if 16 < sb k / S then 16 else sb k / S) = n := hn
  rw [hn, hy]
  rw [hn] at r1 r2 r3 r4
  clear hn hy
  obtain ⟨b, hb⟩ : ∃ b, sb k = b := ⟨_, rfl⟩
  have HB := Lib.hid hb
  rw [hb] at b1 b2 b3 hq0 hq1 hqt hY hN r3
  clear hb
  obtain ⟨q, hq⟩ : ∃ q, b / S = q := ⟨_, rfl⟩
  rw [hq] at hN hq0 hq1 hqt
  clear hq
  obtain ⟨p, hp⟩ : ∃ p, n * S = p := ⟨_, rfl⟩
  rw [hp] at r3 r4 hY
  obtain ⟨hS1, hS2⟩ := hS
  go_enter Try.func22, Try.ntmps22
  go_wp2
  obtain ⟨D, hD⟩ : ∃ D, w.heap.size = D := ⟨_, rfl⟩
  obtain ⟨w1, hw1⟩ : ∃ w1, (w.alloc (.cells #[.int .i64 s, .int .i64 a, .int .i64 S, .int .i64 f, .int .i64 o, .int .i64 m, .int .i64 x] 23)).alloc lay0 = w1 := ⟨_, rfl⟩
  have B1 : Hid (Below w.heap.size w w1) := Lib.hid (by rw [← hw1]; exact below_one (below_one (Below.refl _ _) _) _)
  have HH1 : Hid (LyAt w1 D ⟨s, a, S, f, o, m, x⟩) := Lib.hid (by rw [← hw1, ← hD]; exact heap_low2 _ _ _)
  have HR1 : Hid (LyAt w1 (D + 1) zL) := Lib.hid (by rw [← hw1, ← hD]; exact heap_new2 _ _ _)
  simp only [hw1, hD]
  clear hw1
  go_loopw [5, 6] (fun v i wr => ∃ j : Nat, j ≤ k ∧ i = .int .i64 j ∧ v = .int .i64 (sb j) ∧ wr = w1) (fun _ i _ => k - (intOf i).toNat)
  case atStart => exact ⟨0, by omega, rfl, rfl, rfl⟩
  case round =>
    obtain ⟨j, hj, rfl, rfl, rfl⟩ := hrel
    by_cases hlt : j < k
    · obtain ⟨c1, c2, c3⟩ := sb_range (k := j) (by omega)
      have HN := Lib.hid (sb_next j)
      generalize sb j = c at *
      go_wp2
      go_roundw
      case rel => exact ⟨j + 1, by omega, by go_num, by rw [HN.out], by trivial⟩
      case measure => simp [intOf]; omega
    · obtain rfl : j = k := by omega
      rw [HB.out]
      clear HB
      go_wp2_with (first
        | (refine wpList_storeI (by rfl) _ _ (by rfl) D 4 j ⟨s, a, S, f, o, m, x⟩ ⟨s, a, S, f, j, m, x⟩ (by rfl) (by rfl) HH1.out (by decide) (by rfl) ?_; intro w2 h2 hk2; have HH2 := Lib.hid h2; have HR2 := Lib.hid (HR1.out.kept hk2 (by omega)); have B2 := Lib.hid (below_one_kept B1.out hk2 (by omega)); obtain ⟨_, _, g2, _, _, _, _⟩ := h2.cells; clear h2 hk2 HH1 HR1 B1)
        | (refine wpList_storeI (by rfl) _ _ (by rfl) D 5 n ⟨s, a, S, f, j, m, x⟩ ⟨s, a, S, f, j, n, x⟩ (by rfl) (by rfl) HH2.out (by decide) (by rfl) ?_; intro w3 h3 hk3; have HH3 := Lib.hid h3; have HR3 := Lib.hid (HR2.out.kept hk3 (by omega)); have B3 := Lib.hid (below_one_kept B2.out hk3 (by omega)); obtain ⟨_, _, g2, _, _, g5, _⟩ := h3.cells; clear h3 hk3 HH2 HR2 B2)
        | (refine wpList_storeI (by rfl) _ _ (by rfl) D 6 y ⟨s, a, S, f, j, n, x⟩ ⟨s, a, S, f, j, n, y⟩ (by rfl) (by rfl) HH3.out (by decide) (by rfl) ?_; intro w4 h4 hk4; have HH4 := Lib.hid h4; have HR4 := Lib.hid (HR3.out.kept hk4 (by omega)); have B4 := Lib.hid (below_one_kept B3.out hk4 (by omega)); clear h4 hk4 HH3 HR3 B3)
        | (refine wpList_loadL (by rfl) _ (by rfl) D ⟨s, a, S, f, j, n, y⟩ (by rfl) HH4.out ?_)
        | (refine wpList_storeL (by rfl) _ _ (by rfl) (D + 1) ⟨s, a, S, f, j, n, y⟩ (by rfl) (by rfl) _ HR4.out rfl ?_; intro w5 h5 hk5))
      exact bodyPost_ret (res_slab rfl h5) rfl ⟨rfl, by rw [← hD]; exact below_one_kept B4.out hk5 (by omega)⟩
end Go.Proofs.Ytghmopeaphandaa
