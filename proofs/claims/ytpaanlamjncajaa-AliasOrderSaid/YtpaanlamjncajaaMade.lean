/-
  A valid cache without flags, made out of any.
-/
import Derived.Test.YtpaanlamjncajaaReg
set_option linter.unusedVariables false
set_option linter.unusedSimpArgs false
namespace Go.Proofs.Ytpaanlamjncajaa
open Go Go.RowKit

def mdS (c : Sp) : Sp := ⟨1 + (bring c.size 1024 : Int), 8 * 2 ^ bring c.align 4, 0⟩
theorem md_align {n : Nat} (h : n < 4) : (8 : Int) * 2 ^ n = 8 ∨ (8 : Int) * 2 ^ n = 16 ∨ (8 : Int) * 2 ^ n = 32 ∨ (8 : Int) * 2 ^ n = 64 := by
  rcases (show n = 0 ∨ n = 1 ∨ n = 2 ∨ n = 3 by omega) with rfl | rfl | rfl | rfl <;> decide
theorem md_ok (c : Sp) : (mdS c).ok = true ∧ (mdS c).flags = 0 := by
  have h1 := bring_lt c.size 1024 (by decide)
  have h2 := bring_lt c.align 4 (by decide)
  refine ⟨Sp.ok_iff.2 ⟨?_, md_align h2, ?_⟩, rfl⟩
  · show 1 ≤ 1 + (bring c.size 1024 : Int) ∧ 1 + (bring c.size 1024 : Int) ≤ 1024
    omega
  · show (0 : Int) ≤ 0 ∧ (0 : Int) ≤ 7
    omega
theorem res_made {tmps : Array Value} {K : Nat} {w : World} {c : Sp} (h2 : tmps.getD 2 undef = .pointer (some ⟨K, 0, none⟩)) (hb : SpAt w K c) :
    (results Try.f18 tmps).run Try.prog w = .ok c.agg w := by
  obtain ⟨c0, c1, c2⟩ := hb.cells
  rw [Array.getD_eq_getD_getElem?] at h2
  simp [results, Try.f18, h2, c0, c1, c2, go_sem]
set_option maxHeartbeats 2000000 in
set_option maxRecDepth 100000 in
theorem cMade (c : Sp) (w : World) :
    Calls Try.prog 18 #[c.agg] w fun e w' => e = .returned (mdS c).agg ∧ Below w.heap.size w w' := by
  have HT := Lib.hid (show Two w w.heap.size (w.heap.size + 1) c zS ((w.alloc (argO c)).alloc sp0).drew from (two_new w c zS).drew)
  obtain ⟨p0, p1, p2⟩ := (two_new w c zS).at1.cells
  have hb1 := bring_lt c.size 1024 (by decide)
  have hb2 := bring_lt c.align 4 (by decide)
  have HB1 := Lib.hid (fun w => cBringN c.size 1024 1024 (by rfl) (by decide) w)
  have HB2 := Lib.hid (fun w => cBringN c.align 4 4 (by rfl) (by decide) w)
  have hA := md_align hb2
  unfold mdS
  generalize bring c.size 1024 = β at *
  generalize bring c.align 4 = γ at *
  obtain ⟨A, hA2⟩ : ∃ A, (8 : Int) * 2 ^ γ = A := ⟨_, rfl⟩
  rw [hA2] at hA ⊢
  have hw1 : IntKind.i64.wrap (8 * 2 ^ γ) = A := by rw [hA2]; exact IntWalk.i64_in _ (by omega)
  have hw2 : IntKind.i64.wrap (1 + (β : Int)) = 1 + (β : Int) := IntWalk.i64_in _ (by omega)
  clear hA2 hA
  show Calls Try.prog 18 #[.agg #[.int .i64 c.size, .int .i64 c.align, .int .i64 c.flags]] w fun e w' => e = .returned (.agg #[.int .i64 (1 + (β : Int)), .int .i64 A, .int .i64 0]) ∧ Below w.heap.size w w'
  go_enter Try.func18, Try.ntmps18
  go_wp2
  refine wp_region_held_drew (S := (fun w' => w'.cell? ⟨w.heap.size, 0, none⟩ = some (.int .i64 c.size) ∧ w'.cell? ⟨w.heap.size, 1, none⟩ = some (.int .i64 c.align) ∧ w'.cell? ⟨w.heap.size, 2, none⟩ = some (.int .i64 c.flags))) (by kernel_rfl) ?_ (fun hH1 => ?_)
  · exact HT.out.at1.cells
  refine' take_at (i := 0) (d := some 3) (v := _) rfl rfl (by kernel_rfl) (by kernel_rfl) (by kernel_rfl) (fun _ _ _ h => h) (Or.inl ⟨by rfl, ?hy0⟩) (by assumption) ?rest0
  case hy0 => (intro w hSw; (try dsimp only at hSw); go_simp; try with_reducible rfl)
  try simp only [Act.put, List.setIfInBounds_toArray, List.set_cons_zero, List.set_cons_succ]
  refine' take_at (i := 1) (d := some 4) (v := _) rfl rfl (by kernel_rfl) (by kernel_rfl) (by kernel_rfl) (fun _ _ _ h => h) (Or.inl ⟨by rfl, ?hy1⟩) (by assumption) ?rest1
  case hy1 => (intro w hSw; (try dsimp only at hSw); go_simp; try with_reducible rfl)
  try simp only [Act.put, List.setIfInBounds_toArray, List.set_cons_zero, List.set_cons_succ]
  refine' take_at (i := 4) (d := some 7) (v := _) rfl rfl (by kernel_rfl) (by kernel_rfl) (by kernel_rfl) (fun _ _ _ h => h) (Or.inl ⟨by rfl, ?hy4⟩) (by assumption) ?rest4
  case hy4 => (intro w hSw; (try dsimp only at hSw); go_simp; try with_reducible rfl)
  try simp only [Act.put, List.setIfInBounds_toArray, List.set_cons_zero, List.set_cons_succ]
  refine' take_at (i := 5) (d := some 8) (v := _) rfl rfl (by kernel_rfl) (by kernel_rfl) (by kernel_rfl) (fun _ _ _ h => h) (Or.inl ⟨by rfl, ?hy5⟩) (by assumption) ?rest5
  case hy5 => (intro w hSw; (try dsimp only at hSw); go_simp; try with_reducible rfl)
  try simp only [Act.put, List.setIfInBounds_toArray, List.set_cons_zero, List.set_cons_succ]
  refine wpAnyH_ready (rs := [2]) (by kernel_rfl) (by simp) ?_
  refine AllReadyH.cons rfl (fun K hK => ?_) AllReadyH.nil
  go_simp
  go_wp2_with (go_at_call 25; refine (HB1.out _).mono ?_; rintro e _ ⟨rfl, rfl⟩)
  refine hK.out _ _ ?_ (fun hHn => ?_)
  · first | exact HT.out.at1.cells | (dsimp only; exact HT.out.at1.cells)
  clear hK K
  clear hH1
  refine' take_at (i := 3) (d := some 6) (v := _) rfl rfl (by kernel_rfl) (by kernel_rfl) (by kernel_rfl) (fun _ _ _ h => h) (Or.inl ⟨by rfl, ?hy3⟩) (by assumption) ?rest3
  case hy3 => (intro w hSw; (try dsimp only at hSw); go_simp; try with_reducible rfl)
  try simp only [Act.put, List.setIfInBounds_toArray, List.set_cons_zero, List.set_cons_succ]
  refine wpAnyH_ready (rs := [6]) (by kernel_rfl) (by simp) ?_
  refine AllReadyH.cons rfl (fun K hK => ?_) AllReadyH.nil
  go_simp
  go_wp2_with (go_at_call 25; refine (HB2.out _).mono ?_; rintro e _ ⟨rfl, rfl⟩)
  refine hK.out _ _ ?_ (fun hHn => ?_)
  · first | exact HT.out.at1.cells | (dsimp only; exact HT.out.at1.cells)
  clear hK K
  refine' take_at (i := 7) (d := some 10) (v := _) rfl rfl (by kernel_rfl) (by kernel_rfl) (by kernel_rfl) (fun _ _ _ h => h) (Or.inl ⟨by rfl, ?hy7⟩) (by assumption) ?rest7
  case hy7 => (intro w hSw; (try dsimp only at hSw); go_simp; try with_reducible rfl)
  try simp only [Act.put, List.setIfInBounds_toArray, List.set_cons_zero, List.set_cons_succ]
  refine' take_at (i := 8) (d := some 11) (v := _) rfl rfl (by kernel_rfl) (by kernel_rfl) (by kernel_rfl) (fun _ _ _ h => h) (Or.inl ⟨by rfl, ?hy8⟩) (by assumption) ?rest8
  case hy8 => (intro w hSw; (try dsimp only at hSw); go_simp; try with_reducible rfl)
  try simp only [Act.put, List.setIfInBounds_toArray, List.set_cons_zero, List.set_cons_succ]
  refine wpAnyH_ready (rs := [9]) (by kernel_rfl) (by simp) ?_
  refine AllReadyH.cons rfl (fun K hK => ?_) AllReadyH.nil
  refine step_storeC (by rfl) _ _ (by rfl) (w.heap.size + 1) ⟨1 + (β : Int), A, 0⟩ (by rfl) (by rfl) _ HT.out.at2 rfl ?_
  intro w5 h5 k5
  refine hK.out _ _ ?_ (fun hHn => ?_)
  · first | exact SpAt.cells ((k5.block _ HT.out.at1.lt (by omega)).trans HT.out.at1) | (dsimp only; exact SpAt.cells ((k5.block _ HT.out.at1.lt (by omega)).trans HT.out.at1))
  clear hK K
  refine wpAnyH_done (by kernel_rfl) ?_ _
  have HB := below_kept HT.out.low k5 (by rintro k rfl; omega)
  go_wp2_with fail
  exact bodyPost_ret (res_made rfl h5) rfl ⟨rfl, HB⟩
end Go.Proofs.Ytpaanlamjncajaa
