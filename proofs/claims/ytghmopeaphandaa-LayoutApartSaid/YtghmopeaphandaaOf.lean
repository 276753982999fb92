/-
  Of of the program.
-/
import Derived.Test.YtghmopeaphandaaIns
set_option linter.unusedVariables false
set_option linter.unusedSimpArgs false
namespace Go.Proofs.Ytghmopeaphandaa
open Go Go.RowKit

theorem res_of {tmps : Array Value} {K : Nat} {w : World} {l : Ly} {e : Int} (h2 : tmps.getD 6 undef = .pointer (some ⟨K, 0, none⟩)) (h3 : tmps.getD 7 undef = .int .i64 e) (hb : LyAt w K l) :
    (results Try.f8 tmps).run Try.prog w = .ok (.tuple #[l.agg, .int .i64 e]) w := by
  obtain ⟨c0, c1, c2, c3, c4, c5, c6⟩ := hb.cells
  rw [Array.getD_eq_getD_getElem?] at h2 h3
  simp [results, Try.f8, h2, h3, c0, c1, c2, c3, c4, c5, c6, go_sem]
theorem zero_new (w : World) : LyAt (w.alloc lay0) w.heap.size zL := heap_new _ _
set_option maxHeartbeats 2000000 in
theorem cOf (s a : Int) (g : Bool) (w : World) :
    Calls Try.prog 8 #[.int .i64 s, .int .i64 a, .bool g] w fun e w' => e = .returned (.tuple #[(ofL s a g).agg, .int .i64 (ofE s a g)]) ∧ Below w.heap.size w w' := by
  by_cases hs : okS s
  · by_cases ha : okA a
    · have hS := cIsSize s
      have hA := cIsAlign a
      rw [decide_eq_true hs] at hS
      rw [decide_eq_true ha] at hA
      have HS := Lib.hid hS
      have HA := Lib.hid hA
      have q1 := step_range (g := g) hs ha
      have q2 := off_range (g := g) ha
      have hL : ofL s a g = ansL s a (stepF s a g) (offF a g) (slabF (stepF s a g)) := if_pos ⟨hs, ha⟩
      have hE : ofE s a g = ansE (slabF (stepF s a g)) := if_pos ⟨hs, ha⟩
      rw [hL, hE]
      have hu : 1 ≤ (if a > 8 then a else 8) ∧ (if a > 8 then a else 8) ≤ 64 := by
        rcases ha with rfl | rfl | rfl | rfl | rfl | rfl | rfl <;> decide
      have hs2 : 1 ≤ s ∧ s ≤ 2048 := hs
      have ha2 : 1 ≤ a ∧ a ≤ 64 := by rcases ha with rfl | rfl | rfl | rfl | rfl | rfl | rfl <;> decide
      obtain ⟨u, hU⟩ : ∃ u, (if a > 8 then a else 8) = u := ⟨_, rfl⟩
      have HU := Lib.hid hU
      rw [hU] at hu
      have HM : Hid (∀ T : Ly, T.size = s → T.align = a → T.step = stepF s a g → T.off = offF a g → ∀ w', Calls Try.prog 19 #[T.agg] w' fun e w2 => e = .returned (.tuple #[(ansL s a (stepF s a g) (offF a g) (slabF (stepF s a g))).agg, .int .i64 (ansE (slabF (stepF s a g)))]) ∧ Below w'.heap.size w' w2) := Lib.hid (by
        intro T h1 h2 h3 h4 w'
        have h := cInSlab T (by rw [h3]; omega) w'
        rw [h1, h2, h3, h4] at h
        exact h)
      clear hS hA hs ha hL hE
      generalize (ansL s a (stepF s a g) (offF a g) (slabF (stepF s a g))) = X at *
      generalize ansE (slabF (stepF s a g)) = Y at *
      cases g with
      | false =>
        have HR : Hid (∀ w', Calls Try.prog 18 #[.int .i64 s, .int .i64 u] w' fun e w2 => e = .returned (.int .i64 (stepF s a false)) ∧ w2 = w') := Lib.hid (by
          have e : ru s u = stepF s a false := by unfold stepF offF behF; rw [← HU.out]; simp
          rw [← e]
          exact cRoundUp s u (by omega) (by omega))
        have hF : offF a false = 0 := rfl
        rw [hF] at HM
        generalize stepF s a false = S at *
        clear q1 q2 hF
        go_enter Try.func8, Try.ntmps8
        go_wp2_with (first
          | (go_at_call 16; refine (HS.out _).mono ?_; rintro e w1 ⟨rfl, rfl⟩)
          | (go_at_call 17; refine (HA.out _).mono ?_; rintro e w1 ⟨rfl, rfl⟩)
          | (go_at_call 18; refine (HR.out _).mono ?_; rintro e w1 ⟨rfl, rfl⟩))
        refine (HM.out ⟨s, a, S, 0, 0, 0, 0⟩ rfl rfl rfl rfl _).mono ?_
        rintro e w2 ⟨rfl, hb2⟩
        have HR2 := Lib.hid ((zero_new w).below hb2)
        have HB2 := Lib.hid (below_then (below_one (Below.refl _ _) _) hb2)
        clear hb2
        go_wp2_with (refine wpList_storeL (by rfl) _ _ (by rfl) w.heap.size X (by rfl) (by rfl) _ HR2.out rfl ?_; intro w4 h4 hk4)
        exact bodyPost_ret (res_of rfl rfl h4) rfl ⟨rfl, below_one_kept HB2.out hk4 (Nat.le_refl _)⟩
      | true =>
        obtain ⟨f1, f2, _⟩ := q2
        have HR : Hid (∀ w', Calls Try.prog 18 #[.int .i64 (offF a true + s + 8), .int .i64 u] w' fun e w2 => e = .returned (.int .i64 (stepF s a true)) ∧ w2 = w') := Lib.hid (by
          have e : ru (offF a true + s + 8) u = stepF s a true := by unfold stepF; rw [← HU.out]; rfl
          rw [← e]
          exact cRoundUp _ u (by omega) (by omega))
        have HQ : Hid (∀ w', Calls Try.prog 18 #[.int .i64 8, .int .i64 a] w' fun e w2 => e = .returned (.int .i64 (offF a true)) ∧ w2 = w') := Lib.hid (cRoundUp 8 a (by omega) (by omega))
        generalize stepF s a true = S at *
        generalize offF a true = F at *
        clear q1
        go_enter Try.func8, Try.ntmps8
        go_wp2_with (first
          | (go_at_call 16; refine (HS.out _).mono ?_; rintro e w1 ⟨rfl, rfl⟩)
          | (go_at_call 17; refine (HA.out _).mono ?_; rintro e w1 ⟨rfl, rfl⟩))
        refine (HQ.out _).mono ?_
        rintro e w1 ⟨rfl, rfl⟩
        go_wp2_with (go_at_call 18; refine (HR.out _).mono ?_; rintro e w1 ⟨rfl, rfl⟩)
        refine (HM.out ⟨s, a, S, F, 0, 0, 0⟩ rfl rfl rfl rfl _).mono ?_
        rintro e w2 ⟨rfl, hb2⟩
        have HR2 := Lib.hid ((zero_new w).below hb2)
        have HB2 := Lib.hid (below_then (below_one (Below.refl _ _) _) hb2)
        clear hb2
        go_wp2_with (refine wpList_storeL (by rfl) _ _ (by rfl) w.heap.size X (by rfl) (by rfl) _ HR2.out rfl ?_; intro w4 h4 hk4)
        exact bodyPost_ret (res_of rfl rfl h4) rfl ⟨rfl, below_one_kept HB2.out hk4 (Nat.le_refl _)⟩
    · have hS := cIsSize s
      have hA := cIsAlign a
      rw [decide_eq_true hs] at hS
      rw [decide_eq_false ha] at hA
      have HS := Lib.hid hS
      have HA := Lib.hid hA
      have hL : ofL s a g = zL := if_neg fun e => ha e.2
      have hE : ofE s a g = 2 := if_neg fun e => ha e.2
      rw [hL, hE]
      clear hS hA hs ha hL hE
      go_enter Try.func8, Try.ntmps8
      go_wp2_with (first
        | (go_at_call 16; refine (HS.out _).mono ?_; rintro e w1 ⟨rfl, rfl⟩)
        | (go_at_call 17; refine (HA.out _).mono ?_; rintro e w1 ⟨rfl, rfl⟩)
        | (refine wpList_storeL (by rfl) _ _ (by rfl) w.heap.size zL (by rfl) (by rfl) _ (zero_new w) rfl ?_; intro w4 h4 hk4))
      exact bodyPost_ret (res_of rfl rfl h4) rfl ⟨rfl, below_one_kept (below_one (Below.refl _ _) _) hk4 (Nat.le_refl _)⟩
  · have hS := cIsSize s
    rw [decide_eq_false hs] at hS
    have HS := Lib.hid hS
    have hL : ofL s a g = zL := if_neg fun e => hs e.1
    have hE : ofE s a g = 2 := if_neg fun e => hs e.1
    rw [hL, hE]
    clear hS hs hL hE
    go_enter Try.func8, Try.ntmps8
    go_wp2_with (first
      | (go_at_call 16; refine (HS.out _).mono ?_; rintro e w1 ⟨rfl, rfl⟩)
      | (refine wpList_storeL (by rfl) _ _ (by rfl) w.heap.size zL (by rfl) (by rfl) _ (zero_new w) rfl ?_; intro w4 h4 hk4))
    exact bodyPost_ret (res_of rfl rfl h4) rfl ⟨rfl, below_one_kept (below_one (Below.refl _ _) _) hk4 (Nat.le_refl _)⟩
end Go.Proofs.Ytghmopeaphandaa
