/-
  Of of the document's answer.
-/
import Derived.Test.YtghmopeaphandaaRslab
import Derived.Test.YtghmopeaphandaaIns
set_option linter.unusedVariables false
set_option linter.unusedSimpArgs false
namespace Go.Proofs.Ytghmopeaphandaa
open Go Go.RowKit

theorem res_rof {tmps : Array Value} {K : Nat} {w : World} {l : Ly} {e : Int} (h2 : tmps.getD 6 undef = .pointer (some ⟨K, 0, none⟩)) (h3 : tmps.getD 7 undef = .int .i64 e) (hb : LyAt w K l) :
    (results Try.f9 tmps).run Try.prog w = .ok (.tuple #[l.agg, .int .i64 e]) w := by
  obtain ⟨c0, c1, c2, c3, c4, c5, c6⟩ := hb.cells
  rw [Array.getD_eq_getD_getElem?] at h2 h3
  simp [results, Try.f9, h2, h3, c0, c1, c2, c3, c4, c5, c6, go_sem]
/-- Of under way: the result's cell, the layout so far -/
structure OS (w wr : World) (D : Nat) (l : Ly) : Prop where
  res : LyAt wr D zL
  box : LyAt wr (D + 1) l
  low : Below w.heap.size w wr
  eq : w.heap.size = D
theorem OS.below {w wr w' : World} {D : Nat} {l : Ly} (h : OS w wr D l) (hb : Below wr.heap.size wr w') : OS w w' D l := ⟨h.res.below hb, h.box.below hb, below_then h.low hb, h.eq⟩
theorem OS.put {w wr w' : World} {D : Nat} {l d : Ly} (h : OS w wr D l) (h2 : LyAt w' (D + 1) d) (hk : Kept (· = D + 1) wr w') : OS w w' D d :=
  ⟨h.res.kept hk (by omega), h2, below_one_kept h.low hk (by rw [h.eq]; omega), h.eq⟩
theorem OS.done {w wr w' : World} {D : Nat} {l : Ly} (h : OS w wr D l) (hk : Kept (· = D) wr w') : Below w.heap.size w w' := below_one_kept h.low hk (by rw [h.eq]; exact Nat.le_refl _)
theorem OS.start {w wr w' : World} {D : Nat} {d : Ly} (hD : w.heap.size = D) (h2 : LyAt w' (D + 1) d) (hk : Kept (· = D + 1) ((w.alloc lay0).alloc lay0) w') : OS w w' D d := by
  have h0 : LyAt ((w.alloc lay0).alloc lay0) D zL := by rw [← hD]; exact heap_low2 _ _ _
  exact ⟨h0.kept hk (by omega), h2, below_one_kept (below_one (below_one (Below.refl _ _) _) _) hk (by omega), hD⟩
theorem fit_iff {S : Int} {k : Nat} (hk : k < 4) (hS : 1 ≤ S) : wO S k * 8 ≤ wO S k + nO S k * S ↔ wO S k ≤ sb k / 8 := by
  have h : wO S k + nO S k * S = sb k := by unfold wO; omega
  have hb := sb_range hk
  rw [h]
  omega
/-- the walk stands still here -/
def Stop (p : Prop) : Prop := p
theorem Stop.mk {p : Prop} (h : Stop p) : p := h
set_option maxHeartbeats 4000000 in
theorem rOf (s a : Int) (g : Bool) (w : World) :
    Calls Try.prog 9 #[.int .i64 s, .int .i64 a, .bool g] w fun e w' => e = .returned (.tuple #[(ofL s a g).agg, .int .i64 (ofE s a g)]) ∧ Below w.heap.size w w' := by
  have HR0 : Hid (LyAt (w.alloc lay0) w.heap.size zL) := Lib.hid (heap_new _ _)
  by_cases hs : okS s
  · by_cases ha : okA a
    · have HA := Lib.hid (rAligned a true (decide_eq_true ha))
      have q1 := step_range (g := g) hs ha
      have q2 := off_range (g := g) ha
      have hL : ofL s a g = ansL s a (stepF s a g) (offF a g) (slabF (stepF s a g)) := if_pos ⟨hs, ha⟩
      have hE : ofE s a g = ansE (slabF (stepF s a g)) := if_pos ⟨hs, ha⟩
      obtain ⟨X, hX⟩ : ∃ X, ofL s a g = X := ⟨_, rfl⟩
      obtain ⟨Y, hY⟩ : ∃ Y, ofE s a g = Y := ⟨_, rfl⟩
      rw [hX, hY]
      rw [hX] at hL
      rw [hY] at hE
      have HXY : Hid (ansL s a (stepF s a g) (offF a g) (slabF (stepF s a g)) = X ∧ ansE (slabF (stepF s a g)) = Y) := Lib.hid ⟨hL.symm, hE.symm⟩
      clear hX hY hL hE
      have hu : 1 ≤ (if a > 8 then a else 8) ∧ (if a > 8 then a else 8) ≤ 64 := by
        rcases ha with rfl | rfl | rfl | rfl | rfl | rfl | rfl <;> decide
      have hs2 : 1 ≤ s ∧ s ≤ 2048 := hs
      have ha2 : 1 ≤ a ∧ a ≤ 64 := by rcases ha with rfl | rfl | rfl | rfl | rfl | rfl | rfl <;> decide
      obtain ⟨u, hU⟩ : ∃ u, (if a > 8 then a else 8) = u := ⟨_, rfl⟩
      have HU := Lib.hid hU
      rw [hU] at hu
      clear hs ha
      obtain ⟨hs3, hs4⟩ := hs2
      cases g with
      | false =>
        have HR : Hid (∀ w', Calls Try.prog 21 #[.int .i64 s, .int .i64 u] w' fun e w2 => e = .returned (.int .i64 (stepF s a false)) ∧ w2 = w') := Lib.hid (by
          have e : ru s u = stepF s a false := by unfold stepF offF behF; rw [← HU.out]; simp
          exact rUp s u _ (by omega) (by omega) e)
        have hF : offF a false = 0 := rfl
        rw [hF] at HXY
        generalize stepF s a false = S at *
        have HSS : Hid (1 ≤ S ∧ S ≤ 4096) := Lib.hid (by omega)
        clear q1 q2 hF
        go_enter Try.func9, Try.ntmps9
        go_wp2_with (first
          | (go_at_call 20; refine (HA.out _).mono ?_; rintro e w1 ⟨rfl, rfl⟩)
          | (go_at_call 21; refine (HR.out _).mono ?_; rintro e w1 ⟨rfl, rfl⟩))
        obtain ⟨F, hF⟩ : ∃ F : Int, 0 = F := ⟨_, rfl⟩
        rw [hF] at HXY
        obtain ⟨w5, hw5⟩ : ∃ w5, (w.alloc lay0).alloc (.cells #[.int .i64 s, .int .i64 a, .int .i64 S, .int .i64 0, .int .i64 0, .int .i64 0, .int .i64 0] 23) = w5 := ⟨_, rfl⟩
        have HO : Hid (OS w w5 w.heap.size ⟨s, a, S, F, 0, 0, 0⟩) := Lib.hid (by rw [← hF, ← hw5]; exact ⟨heap_low2 _ _ _, heap_new2 _ _ _, below_one (below_one (Below.refl _ _) _) _, rfl⟩)
        rw [hw5]
        clear hF hw5
        obtain ⟨D, hD⟩ : ∃ D, w.heap.size = D := ⟨_, rfl⟩
        simp only [hD] at HO ⊢
        obtain ⟨d0, hd0⟩ : ∃ d0 : Ly, ⟨s, a, S, F, 0, 0, 0⟩ = d0 := ⟨_, rfl⟩
        have HCS : Hid (∀ k, k < 4 → ∀ w', Calls Try.prog 22 #[d0.agg, .int .i64 ((k : Nat) : Int)] w' fun e w2 => e = .returned (inO s a S F k).agg ∧ Below w'.heap.size w' w2) := Lib.hid (fun k hk w' => by rw [← hd0]; exact rSlab ⟨s, a, S, F, 0, 0, 0⟩ k hk HSS.out w')
        rw [hd0] at HO
        clear hd0
        go_loopw [10] (fun i wr => ∃ k : Nat, k ≤ 4 ∧ i = .int .i64 k ∧ Hid ((∀ j, j < k → ¬ fit S j) ∧ OS w wr D d0)) (fun i _ => 4 - (intOf i).toNat)
        case atStart => exact ⟨0, by omega, rfl, Lib.hid ⟨fun j hj => absurd hj (Nat.not_lt_zero _), HO.out⟩⟩
        case round =>
          clear HO
          obtain ⟨k, hk, rfl, HK⟩ := hrel
          obtain ⟨hn, hi⟩ := HK.out
          have HN := Lib.hid hn
          have HI := Lib.hid hi
          clear hn hi HK
          by_cases hk4 : k < 4
          · obtain ⟨r1, r2, r3, r4, _⟩ := nO_range HSS.out.1 hk4
            have hb := sb_range hk4
            have HFIT := Lib.hid (fit_iff (k := k) hk4 HSS.out.1)
            have hyr : wO S k = sb k - nO S k * S := rfl
            have HC := Lib.hid (HCS.out k hk4)
            obtain ⟨d, hd⟩ : ∃ d, inO s a S F k = d := ⟨_, rfl⟩
            have hobj : d.objs = nO S k := by rw [← hd]; rfl
            have hwst : d.waste = wO S k := by rw [← hd]; rfl
            have hstp : d.step = S := by rw [← hd]; rfl
            have HD := Lib.hid hd
            rw [hd] at HC
            have HZ : Hid (fit S k ↔ 0 < nO S k ∧ wO S k * 8 ≤ wO S k + nO S k * S) := Lib.hid ⟨fun h => ⟨h.1, HFIT.out.2 h.2⟩, fun h => ⟨h.1, HFIT.out.1 h.2⟩⟩
            clear hd HFIT
            generalize nO S k = n at *
            generalize wO S k = y at *
            generalize sb k = b at *
            obtain ⟨p, hp⟩ : ∃ p, n * S = p := ⟨_, rfl⟩
            rw [hp] at r3 r4 hyr HZ
            by_cases hz : 0 < n
            · by_cases hf : y * 8 ≤ y + p
              · have HX : Hid (d = X ∧ 0 = Y) := Lib.hid (by
                  have h1 := slab_fit hk4 (HZ.out.2 ⟨hz, hf⟩) HN.out
                  obtain ⟨h2, h3⟩ := HXY.out
                  rw [h1] at h2 h3
                  exact ⟨HD.out.symm.trans h2, h3⟩)
                go_wp2_with (refine wpList_loadL (by rfl) _ (by rfl) (D + 1) d0 (by rfl) HI.out.box ?_)
                refine (HC.out wr).mono ?_
                rintro e w1 ⟨rfl, hb1⟩
                have HI1 := Lib.hid (HI.out.below hb1)
                have HZ0 : Hid (LyAt (w1.alloc lay0) w1.heap.size zL) := Lib.hid (heap_new _ _)
                clear hb1 HC HI
                go_wp2_with (first
                  | (refine wpList_storeL (by rfl) _ _ (by rfl) w1.heap.size d (by rfl) (by rfl) _ HZ0.out rfl ?_; intro w2 h2 hk2; obtain ⟨_, _, c2, _, _, c5, c6⟩ := h2.cells; rw [hobj] at c5; rw [hwst] at c6; rw [hstp] at c2; have HI2 := Lib.hid (HI1.out.below (below_one_kept (below_one (Below.refl _ _) _) hk2 (Nat.le_refl _))); have H2 := Lib.hid h2; clear HZ0 h2 hk2 HI1 hobj hwst hstp)
                  | (refine wpList_loadL (by rfl) _ (by rfl) w1.heap.size d (by rfl) H2.out ?_)
                  | (refine wpList_storeL (by rfl) _ _ (by rfl) D d (by rfl) (by rfl) _ HI2.out.res rfl ?_; intro w4 h4 hk4))
                try rw [Exit.noGoto_ret]
                exact bodyPost_ret (res_rof rfl rfl h4) rfl ⟨by rw [HX.out.1, HX.out.2], by first | exact HI2.out.done hk4 | (rw [← hD]; exact HI2.out.done hk4)⟩
              · have HNF : Hid (∀ j, j < k + 1 → ¬ fit S j) := Lib.hid (fun j hj => by
                  by_cases e : j = k
                  · subst e; exact fun h => hf (HZ.out.1 h).2
                  · exact HN.out j (by omega))
                go_wp2_with (refine wpList_loadL (by rfl) _ (by rfl) (D + 1) d0 (by rfl) HI.out.box ?_)
                refine (HC.out wr).mono ?_
                rintro e w1 ⟨rfl, hb1⟩
                have HI1 := Lib.hid (HI.out.below hb1)
                have HZ0 : Hid (LyAt (w1.alloc lay0) w1.heap.size zL) := Lib.hid (heap_new _ _)
                clear hb1 HC HI
                go_wp2_with (refine wpList_storeL (by rfl) _ _ (by rfl) w1.heap.size d (by rfl) (by rfl) _ HZ0.out rfl ?_; intro w2 h2 hk2; obtain ⟨_, _, c2, _, _, c5, c6⟩ := h2.cells; rw [hobj] at c5; rw [hwst] at c6; rw [hstp] at c2; have HI2 := Lib.hid (HI1.out.below (below_one_kept (below_one (Below.refl _ _) _) hk2 (Nat.le_refl _))); clear HZ0 h2 hk2 HI1 hobj hwst hstp)
                go_roundw
                case rel => exact ⟨k + 1, by omega, by go_num, Lib.hid ⟨HNF.out, HI2.out⟩⟩
                case measure => simp [intOf]; omega
            · have HNF : Hid (∀ j, j < k + 1 → ¬ fit S j) := Lib.hid (fun j hj => by
                by_cases e : j = k
                · subst e; exact fun h => hz (HZ.out.1 h).1
                · exact HN.out j (by omega))
              have hn0 : n = 0 := by omega
              rw [hn0] at hobj
              clear hz hn0 r1 r2 r3 r4 hyr HZ hp
              go_wp2_with (refine wpList_loadL (by rfl) _ (by rfl) (D + 1) d0 (by rfl) HI.out.box ?_)
              refine (HC.out wr).mono ?_
              rintro e w1 ⟨rfl, hb1⟩
              have HI1 := Lib.hid (HI.out.below hb1)
              have HZ0 : Hid (LyAt (w1.alloc lay0) w1.heap.size zL) := Lib.hid (heap_new _ _)
              clear hb1 HC HI
              go_wp2_with (refine wpList_storeL (by rfl) _ _ (by rfl) w1.heap.size d (by rfl) (by rfl) _ HZ0.out rfl ?_; intro w2 h2 hk2; obtain ⟨_, _, c2, _, _, c5, c6⟩ := h2.cells; rw [hobj] at c5; have HI2 := Lib.hid (HI1.out.below (below_one_kept (below_one (Below.refl _ _) _) hk2 (Nat.le_refl _))); clear HZ0 h2 hk2 HI1 hobj hwst hstp; refine Stop.mk ?_)
              unfold Stop
              go_wp2
              go_roundw
              case rel => exact ⟨k + 1, by omega, by go_num, Lib.hid ⟨HNF.out, HI2.out⟩⟩
              case measure => simp [intOf]; omega
          · obtain rfl : k = 4 := by omega
            have HXZ : Hid (ansL s a S F (fstF S 4) = X ∧ ansE (fstF S 4) = Y) := Lib.hid (by
              have h1 := slab_none HN.out
              have h2 := HXY.out
              rw [h1] at h2
              exact h2)
            clear HN HXY hk hk4
            go_wp2
            go_loopw [12] (fun i wx => ∃ k : Nat, k ≤ 4 ∧ i = .int .i64 k ∧ Hid ((∀ j, j < k → ¬ 0 < nO S j) ∧ OS w wx D d0)) (fun i _ => 4 - (intOf i).toNat)
            case atStart => exact ⟨0, by omega, rfl, Lib.hid ⟨fun j hj => absurd hj (Nat.not_lt_zero _), HI.out⟩⟩
            case round =>
              rename_i wx _
              clear HI
              obtain ⟨k, hk, rfl, HK⟩ := hrel
              obtain ⟨hn, hi⟩ := HK.out
              have HN := Lib.hid hn
              have HI := Lib.hid hi
              clear hn hi HK
              by_cases hk4 : k < 4
              · obtain ⟨r1, _⟩ := nO_range HSS.out.1 hk4
                have HC := Lib.hid (HCS.out k hk4)
                obtain ⟨d, hd⟩ : ∃ d, inO s a S F k = d := ⟨_, rfl⟩
                have hobj : d.objs = nO S k := by rw [← hd]; rfl
                have HD := Lib.hid hd
                rw [hd] at HC
                obtain ⟨n, hnn⟩ : ∃ n, nO S k = n := ⟨_, rfl⟩
                have HNN := Lib.hid hnn
                rw [hnn] at hobj r1
                clear hd hnn
                by_cases hz : 0 < n
                · have HX : Hid (d = X ∧ 0 = Y) := Lib.hid (by
                    have h1 := fst_at (by rw [HNN.out]; exact hz) HN.out 4 hk4
                    obtain ⟨h2, h3⟩ := HXZ.out
                    rw [h1] at h2 h3
                    exact ⟨HD.out.symm.trans h2, h3⟩)
                  go_wp2_with (refine wpList_loadL (by rfl) _ (by rfl) (D + 1) d0 (by rfl) HI.out.box ?_)
                  refine (HC.out _).mono ?_
                  rintro e w1 ⟨rfl, hb1⟩
                  have HI1 := Lib.hid (HI.out.below hb1)
                  have HZ0 : Hid (LyAt (w1.alloc lay0) w1.heap.size zL) := Lib.hid (heap_new _ _)
                  clear hb1 HC HI
                  go_wp2_with (first
                    | (refine wpList_storeL (by rfl) _ _ (by rfl) w1.heap.size d (by rfl) (by rfl) _ HZ0.out rfl ?_; intro w2 h2 hk2; obtain ⟨_, _, c2, _, _, c5, c6⟩ := h2.cells; rw [hobj] at c5; have HI2 := Lib.hid (HI1.out.below (below_one_kept (below_one (Below.refl _ _) _) hk2 (Nat.le_refl _))); have H2 := Lib.hid h2; clear HZ0 h2 hk2 HI1 hobj)
                    | (refine wpList_loadL (by rfl) _ (by rfl) w1.heap.size d (by rfl) H2.out ?_)
                    | (refine wpList_storeL (by rfl) _ _ (by rfl) D d (by rfl) (by rfl) _ HI2.out.res rfl ?_; intro w4 h4 hk4))
                  try rw [Exit.noGoto_ret]
                  exact bodyPost_ret (res_rof rfl rfl h4) rfl ⟨by rw [HX.out.1, HX.out.2], by first | exact HI2.out.done hk4 | (rw [← hD]; exact HI2.out.done hk4)⟩
                · have HNF : Hid (∀ j, j < k + 1 → ¬ 0 < nO S j) := Lib.hid (fun j hj => by
                    by_cases e : j = k
                    · subst e; rw [HNN.out]; exact hz
                    · exact HN.out j (by omega))
                  go_wp2_with (refine wpList_loadL (by rfl) _ (by rfl) (D + 1) d0 (by rfl) HI.out.box ?_)
                  refine (HC.out _).mono ?_
                  rintro e w1 ⟨rfl, hb1⟩
                  have HI1 := Lib.hid (HI.out.below hb1)
                  have HZ0 : Hid (LyAt (w1.alloc lay0) w1.heap.size zL) := Lib.hid (heap_new _ _)
                  clear hb1 HC HI
                  go_wp2_with (refine wpList_storeL (by rfl) _ _ (by rfl) w1.heap.size d (by rfl) (by rfl) _ HZ0.out rfl ?_; intro w2 h2 hk2; obtain ⟨_, _, c2, _, _, c5, c6⟩ := h2.cells; rw [hobj] at c5; have HI2 := Lib.hid (HI1.out.below (below_one_kept (below_one (Below.refl _ _) _) hk2 (Nat.le_refl _))); clear HZ0 h2 hk2 HI1 hobj)
                  go_roundw
                  case rel => exact ⟨k + 1, by omega, by go_num, Lib.hid ⟨HNF.out, HI2.out⟩⟩
                  case measure => simp [intOf]; omega
              · obtain rfl : k = 4 := by omega
                have HX : Hid (zL = X ∧ 150 = Y) := Lib.hid (by
                  have h1 := fst_no 4 HN.out
                  have h2 := HXZ.out
                  rw [h1] at h2
                  exact h2)
                go_wp2_with (refine wpList_storeL (by rfl) _ _ (by rfl) D zL (by rfl) (by rfl) _ HI.out.res rfl ?_; intro w4 h4 hk4)
                exact bodyPost_ret (res_rof rfl rfl h4) rfl ⟨by rw [← HX.out.1, ← HX.out.2], by first | exact HI.out.done hk4 | (rw [← hD]; exact HI.out.done hk4)⟩
      | true =>
        obtain ⟨f1, f2, _⟩ := q2
        have HR : Hid (∀ w', Calls Try.prog 21 #[.int .i64 (s + offF a true + 8), .int .i64 u] w' fun e w2 => e = .returned (.int .i64 (stepF s a true)) ∧ w2 = w') := Lib.hid (by
          have e : ru (s + offF a true + 8) u = stepF s a true := by unfold stepF; rw [← HU.out, Int.add_comm s]; rfl
          exact rUp _ u _ (by omega) (by omega) e)
        have HQ : Hid (∀ w', Calls Try.prog 21 #[.int .i64 8, .int .i64 a] w' fun e w2 => e = .returned (.int .i64 (offF a true)) ∧ w2 = w') := Lib.hid (rUp 8 a _ (by omega) (by omega) rfl)
        generalize stepF s a true = S at *
        generalize offF a true = F at *
        have HSS : Hid (1 ≤ S ∧ S ≤ 4096) := Lib.hid (by omega)
        clear q1
        go_enter Try.func9, Try.ntmps9
        go_wp2_with (go_at_call 20; refine (HA.out _).mono ?_; rintro e w1 ⟨rfl, rfl⟩)
        refine (HQ.out _).mono ?_
        rintro e w1 ⟨rfl, rfl⟩
        go_wp2_with (go_at_call 21; refine (HR.out _).mono ?_; rintro e w6 ⟨rfl, rfl⟩)
        obtain ⟨w5, hw5⟩ : ∃ w5, (w.alloc lay0).alloc (.cells #[.int .i64 s, .int .i64 a, .int .i64 S, .int .i64 F, .int .i64 0, .int .i64 0, .int .i64 0] 23) = w5 := ⟨_, rfl⟩
        have HO : Hid (OS w w5 w.heap.size ⟨s, a, S, F, 0, 0, 0⟩) := Lib.hid (by rw [← hw5]; exact ⟨heap_low2 _ _ _, heap_new2 _ _ _, below_one (below_one (Below.refl _ _) _) _, rfl⟩)
        rw [hw5]
        clear hw5
        obtain ⟨D, hD⟩ : ∃ D, w.heap.size = D := ⟨_, rfl⟩
        simp only [hD] at HO ⊢
        obtain ⟨d0, hd0⟩ : ∃ d0 : Ly, ⟨s, a, S, F, 0, 0, 0⟩ = d0 := ⟨_, rfl⟩
        have HCS : Hid (∀ k, k < 4 → ∀ w', Calls Try.prog 22 #[d0.agg, .int .i64 ((k : Nat) : Int)] w' fun e w2 => e = .returned (inO s a S F k).agg ∧ Below w'.heap.size w' w2) := Lib.hid (fun k hk w' => by rw [← hd0]; exact rSlab ⟨s, a, S, F, 0, 0, 0⟩ k hk HSS.out w')
        rw [hd0] at HO
        clear hd0
        go_loopw [10] (fun i wr => ∃ k : Nat, k ≤ 4 ∧ i = .int .i64 k ∧ Hid ((∀ j, j < k → ¬ fit S j) ∧ OS w wr D d0)) (fun i _ => 4 - (intOf i).toNat)
        case atStart => exact ⟨0, by omega, rfl, Lib.hid ⟨fun j hj => absurd hj (Nat.not_lt_zero _), HO.out⟩⟩
        case round =>
          clear HO
          obtain ⟨k, hk, rfl, HK⟩ := hrel
          obtain ⟨hn, hi⟩ := HK.out
          have HN := Lib.hid hn
          have HI := Lib.hid hi
          clear hn hi HK
          by_cases hk4 : k < 4
          · obtain ⟨r1, r2, r3, r4, _⟩ := nO_range HSS.out.1 hk4
            have hb := sb_range hk4
            have HFIT := Lib.hid (fit_iff (k := k) hk4 HSS.out.1)
            have hyr : wO S k = sb k - nO S k * S := rfl
            have HC := Lib.hid (HCS.out k hk4)
            obtain ⟨d, hd⟩ : ∃ d, inO s a S F k = d := ⟨_, rfl⟩
            have hobj : d.objs = nO S k := by rw [← hd]; rfl
            have hwst : d.waste = wO S k := by rw [← hd]; rfl
            have hstp : d.step = S := by rw [← hd]; rfl
            have HD := Lib.hid hd
            rw [hd] at HC
            have HZ : Hid (fit S k ↔ 0 < nO S k ∧ wO S k * 8 ≤ wO S k + nO S k * S) := Lib.hid ⟨fun h => ⟨h.1, HFIT.out.2 h.2⟩, fun h => ⟨h.1, HFIT.out.1 h.2⟩⟩
            clear hd HFIT
            generalize nO S k = n at *
            generalize wO S k = y at *
            generalize sb k = b at *
            obtain ⟨p, hp⟩ : ∃ p, n * S = p := ⟨_, rfl⟩
            rw [hp] at r3 r4 hyr HZ
            by_cases hz : 0 < n
            · by_cases hf : y * 8 ≤ y + p
              · have HX : Hid (d = X ∧ 0 = Y) := Lib.hid (by
                  have h1 := slab_fit hk4 (HZ.out.2 ⟨hz, hf⟩) HN.out
                  obtain ⟨h2, h3⟩ := HXY.out
                  rw [h1] at h2 h3
                  exact ⟨HD.out.symm.trans h2, h3⟩)
                go_wp2_with (refine wpList_loadL (by rfl) _ (by rfl) (D + 1) d0 (by rfl) HI.out.box ?_)
                refine (HC.out wr).mono ?_
                rintro e w1 ⟨rfl, hb1⟩
                have HI1 := Lib.hid (HI.out.below hb1)
                have HZ0 : Hid (LyAt (w1.alloc lay0) w1.heap.size zL) := Lib.hid (heap_new _ _)
                clear hb1 HC HI
                go_wp2_with (first
                  | (refine wpList_storeL (by rfl) _ _ (by rfl) w1.heap.size d (by rfl) (by rfl) _ HZ0.out rfl ?_; intro w2 h2 hk2; obtain ⟨_, _, c2, _, _, c5, c6⟩ := h2.cells; rw [hobj] at c5; rw [hwst] at c6; rw [hstp] at c2; have HI2 := Lib.hid (HI1.out.below (below_one_kept (below_one (Below.refl _ _) _) hk2 (Nat.le_refl _))); have H2 := Lib.hid h2; clear HZ0 h2 hk2 HI1 hobj hwst hstp)
                  | (refine wpList_loadL (by rfl) _ (by rfl) w1.heap.size d (by rfl) H2.out ?_)
                  | (refine wpList_storeL (by rfl) _ _ (by rfl) D d (by rfl) (by rfl) _ HI2.out.res rfl ?_; intro w4 h4 hk4))
                try rw [Exit.noGoto_ret]
                exact bodyPost_ret (res_rof rfl rfl h4) rfl ⟨by rw [HX.out.1, HX.out.2], by first | exact HI2.out.done hk4 | (rw [← hD]; exact HI2.out.done hk4)⟩
              · have HNF : Hid (∀ j, j < k + 1 → ¬ fit S j) := Lib.hid (fun j hj => by
                  by_cases e : j = k
                  · subst e; exact fun h => hf (HZ.out.1 h).2
                  · exact HN.out j (by omega))
                go_wp2_with (refine wpList_loadL (by rfl) _ (by rfl) (D + 1) d0 (by rfl) HI.out.box ?_)
                refine (HC.out wr).mono ?_
                rintro e w1 ⟨rfl, hb1⟩
                have HI1 := Lib.hid (HI.out.below hb1)
                have HZ0 : Hid (LyAt (w1.alloc lay0) w1.heap.size zL) := Lib.hid (heap_new _ _)
                clear hb1 HC HI
                go_wp2_with (refine wpList_storeL (by rfl) _ _ (by rfl) w1.heap.size d (by rfl) (by rfl) _ HZ0.out rfl ?_; intro w2 h2 hk2; obtain ⟨_, _, c2, _, _, c5, c6⟩ := h2.cells; rw [hobj] at c5; rw [hwst] at c6; rw [hstp] at c2; have HI2 := Lib.hid (HI1.out.below (below_one_kept (below_one (Below.refl _ _) _) hk2 (Nat.le_refl _))); clear HZ0 h2 hk2 HI1 hobj hwst hstp)
                go_roundw
                case rel => exact ⟨k + 1, by omega, by go_num, Lib.hid ⟨HNF.out, HI2.out⟩⟩
                case measure => simp [intOf]; omega
            · have HNF : Hid (∀ j, j < k + 1 → ¬ fit S j) := Lib.hid (fun j hj => by
                by_cases e : j = k
                · subst e; exact fun h => hz (HZ.out.1 h).1
                · exact HN.out j (by omega))
              have hn0 : n = 0 := by omega
              rw [hn0] at hobj
              clear hz hn0 r1 r2 r3 r4 hyr HZ hp
              go_wp2_with (refine wpList_loadL (by rfl) _ (by rfl) (D + 1) d0 (by rfl) HI.out.box ?_)
              refine (HC.out wr).mono ?_
              rintro e w1 ⟨rfl, hb1⟩
              have HI1 := Lib.hid (HI.out.below hb1)
              have HZ0 : Hid (LyAt (w1.alloc lay0) w1.heap.size zL) := Lib.hid (heap_new _ _)
              clear hb1 HC HI
              go_wp2_with (refine wpList_storeL (by rfl) _ _ (by rfl) w1.heap.size d (by rfl) (by rfl) _ HZ0.out rfl ?_; intro w2 h2 hk2; obtain ⟨_, _, c2, _, _, c5, c6⟩ := h2.cells; rw [hobj] at c5; have HI2 := Lib.hid (HI1.out.below (below_one_kept (below_one (Below.refl _ _) _) hk2 (Nat.le_refl _))); clear HZ0 h2 hk2 HI1 hobj hwst hstp; refine Stop.mk ?_)
              unfold Stop
              go_wp2
              go_roundw
              case rel => exact ⟨k + 1, by omega, by go_num, Lib.hid ⟨HNF.out, HI2.out⟩⟩
              case measure => simp [intOf]; omega
          · obtain rfl : k = 4 := by omega
            have HXZ : Hid (ansL s a S F (fstF S 4) = X ∧ ansE (fstF S 4) = Y) := Lib.hid (by
              have h1 := slab_none HN.out
              have h2 := HXY.out
              rw [h1] at h2
              exact h2)
            clear HN HXY hk hk4
            go_wp2
            go_loopw [12] (fun i wx => ∃ k : Nat, k ≤ 4 ∧ i = .int .i64 k ∧ Hid ((∀ j, j < k → ¬ 0 < nO S j) ∧ OS w wx D d0)) (fun i _ => 4 - (intOf i).toNat)
            case atStart => exact ⟨0, by omega, rfl, Lib.hid ⟨fun j hj => absurd hj (Nat.not_lt_zero _), HI.out⟩⟩
            case round =>
              rename_i wx _
              clear HI
              obtain ⟨k, hk, rfl, HK⟩ := hrel
              obtain ⟨hn, hi⟩ := HK.out
              have HN := Lib.hid hn
              have HI := Lib.hid hi
              clear hn hi HK
              by_cases hk4 : k < 4
              · obtain ⟨r1, _⟩ := nO_range HSS.out.1 hk4
                have HC := Lib.hid (HCS.out k hk4)
                obtain ⟨d, hd⟩ : ∃ d, inO s a S F k = d := ⟨_, rfl⟩
                have hobj : d.objs = nO S k := by rw [← hd]; rfl
                have HD := Lib.hid hd
                rw [hd] at HC
                obtain ⟨n, hnn⟩ : ∃ n, nO S k = n := ⟨_, rfl⟩
                have HNN := Lib.hid hnn
                rw [hnn] at hobj r1
                clear hd hnn
                by_cases hz : 0 < n
                · have HX : Hid (d = X ∧ 0 = Y) := Lib.hid (by
                    have h1 := fst_at (by rw [HNN.out]; exact hz) HN.out 4 hk4
                    obtain ⟨h2, h3⟩ := HXZ.out
                    rw [h1] at h2 h3
                    exact ⟨HD.out.symm.trans h2, h3⟩)
                  go_wp2_with (refine wpList_loadL (by rfl) _ (by rfl) (D + 1) d0 (by rfl) HI.out.box ?_)
                  refine (HC.out _).mono ?_
                  rintro e w1 ⟨rfl, hb1⟩
                  have HI1 := Lib.hid (HI.out.below hb1)
                  have HZ0 : Hid (LyAt (w1.alloc lay0) w1.heap.size zL) := Lib.hid (heap_new _ _)
                  clear hb1 HC HI
                  go_wp2_with (first
                    | (refine wpList_storeL (by rfl) _ _ (by rfl) w1.heap.size d (by rfl) (by rfl) _ HZ0.out rfl ?_; intro w2 h2 hk2; obtain ⟨_, _, c2, _, _, c5, c6⟩ := h2.cells; rw [hobj] at c5; have HI2 := Lib.hid (HI1.out.below (below_one_kept (below_one (Below.refl _ _) _) hk2 (Nat.le_refl _))); have H2 := Lib.hid h2; clear HZ0 h2 hk2 HI1 hobj)
                    | (refine wpList_loadL (by rfl) _ (by rfl) w1.heap.size d (by rfl) H2.out ?_)
                    | (refine wpList_storeL (by rfl) _ _ (by rfl) D d (by rfl) (by rfl) _ HI2.out.res rfl ?_; intro w4 h4 hk4))
                  try rw [Exit.noGoto_ret]
                  exact bodyPost_ret (res_rof rfl rfl h4) rfl ⟨by rw [HX.out.1, HX.out.2], by first | exact HI2.out.done hk4 | (rw [← hD]; exact HI2.out.done hk4)⟩
                · have HNF : Hid (∀ j, j < k + 1 → ¬ 0 < nO S j) := Lib.hid (fun j hj => by
                    by_cases e : j = k
                    · subst e; rw [HNN.out]; exact hz
                    · exact HN.out j (by omega))
                  go_wp2_with (refine wpList_loadL (by rfl) _ (by rfl) (D + 1) d0 (by rfl) HI.out.box ?_)
                  refine (HC.out _).mono ?_
                  rintro e w1 ⟨rfl, hb1⟩
                  have HI1 := Lib.hid (HI.out.below hb1)
                  have HZ0 : Hid (LyAt (w1.alloc lay0) w1.heap.size zL) := Lib.hid (heap_new _ _)
                  clear hb1 HC HI
                  go_wp2_with (refine wpList_storeL (by rfl) _ _ (by rfl) w1.heap.size d (by rfl) (by rfl) _ HZ0.out rfl ?_; intro w2 h2 hk2; obtain ⟨_, _, c2, _, _, c5, c6⟩ := h2.cells; rw [hobj] at c5; have HI2 := Lib.hid (HI1.out.below (below_one_kept (below_one (Below.refl _ _) _) hk2 (Nat.le_refl _))); clear HZ0 h2 hk2 HI1 hobj)
                  go_roundw
                  case rel => exact ⟨k + 1, by omega, by go_num, Lib.hid ⟨HNF.out, HI2.out⟩⟩
                  case measure => simp [intOf]; omega
              · obtain rfl : k = 4 := by omega
                have HX : Hid (zL = X ∧ 150 = Y) := Lib.hid (by
                  have h1 := fst_no 4 HN.out
                  have h2 := HXZ.out
                  rw [h1] at h2
                  exact h2)
                go_wp2_with (refine wpList_storeL (by rfl) _ _ (by rfl) D zL (by rfl) (by rfl) _ HI.out.res rfl ?_; intro w4 h4 hk4)
                exact bodyPost_ret (res_rof rfl rfl h4) rfl ⟨by rw [← HX.out.1, ← HX.out.2], by first | exact HI.out.done hk4 | (rw [← hD]; exact HI.out.done hk4)⟩
    · have HA := Lib.hid (rAligned a false (decide_eq_false ha))
      have hL : ofL s a g = zL := if_neg fun e => ha e.2
      have hE : ofE s a g = 2 := if_neg fun e => ha e.2
      obtain ⟨hs3, hs4⟩ := hs
      rw [hL, hE]
      clear ha hL hE
      go_enter Try.func9, Try.ntmps9
      go_wp2_with (first
        | (go_at_call 20; refine (HA.out _).mono ?_; rintro e w1 ⟨rfl, rfl⟩)
        | (refine wpList_storeL (by rfl) _ _ (by rfl) w.heap.size zL (by rfl) (by rfl) _ HR0.out rfl ?_; intro w4 h4 hk4))
      exact bodyPost_ret (res_rof rfl rfl h4) rfl ⟨rfl, below_one_kept (below_one (Below.refl _ _) _) hk4 (Nat.le_refl _)⟩
  · have hL : ofL s a g = zL := if_neg fun e => hs e.1
    have hE : ofE s a g = 2 := if_neg fun e => hs e.1
    rw [hL, hE]
    clear hL hE
    by_cases h1 : s < 1
    · clear hs
      go_enter Try.func9, Try.ntmps9
      go_wp2_with (refine wpList_storeL (by rfl) _ _ (by rfl) w.heap.size zL (by rfl) (by rfl) _ HR0.out rfl ?_; intro w4 h4 hk4)
      exact bodyPost_ret (res_rof rfl rfl h4) rfl ⟨rfl, below_one_kept (below_one (Below.refl _ _) _) hk4 (Nat.le_refl _)⟩
    · have h2 : 2048 < s := by unfold okS at hs; omega
      clear hs
      go_enter Try.func9, Try.ntmps9
      go_wp2_with (refine wpList_storeL (by rfl) _ _ (by rfl) w.heap.size zL (by rfl) (by rfl) _ HR0.out rfl ?_; intro w4 h4 hk4)
      exact bodyPost_ret (res_rof rfl rfl h4) rfl ⟨rfl, below_one_kept (below_one (Below.refl _ _) _) hk4 (Nat.le_refl _)⟩
end Go.Proofs.Ytghmopeaphandaa
