/-
  inSlab of the program.
-/
import Derived.Test.YtghmopeaphandaaIno
set_option linter.unusedVariables false
set_option linter.unusedSimpArgs false
namespace Go.Proofs.Ytghmopeaphandaa
open Go Go.RowKit

theorem res_inSlab {tmps : Array Value} {K : Nat} {w : World} {l : Ly} {e : Int} (h2 : tmps.getD 2 undef = .pointer (some ⟨K, 0, none⟩)) (h3 : tmps.getD 3 undef = .int .i64 e) (hb : LyAt w K l) :
    (results Try.f19 tmps).run Try.prog w = .ok (.tuple #[l.agg, .int .i64 e]) w := by
  obtain ⟨c0, c1, c2, c3, c4, c5, c6⟩ := hb.cells
  rw [Array.getD_eq_getD_getElem?] at h2 h3
  simp [results, Try.f19, h2, h3, c0, c1, c2, c3, c4, c5, c6, go_sem]
theorem fst_skip {S : Int} {k : Nat} (h : ¬ 0 < nO S k) : fstF S (k + 1) = fstF S k := by
  conv => lhs; unfold fstF
  cases fstF S k with
  | none => dsimp only; rw [if_neg h]
  | some j => rfl
theorem fst_stay {S : Int} {k j : Nat} (h : fstF S k = some j) : fstF S (k + 1) = some j := by
  unfold fstF
  rw [h]
theorem fst_new {S : Int} {k : Nat} (h : fstF S k = none) (hn : 0 < nO S k) : fstF S (k + 1) = some k := by
  unfold fstF
  rw [h]
  dsimp only
  rw [if_pos hn]
theorem low3 (w : World) (a b c : Obj) : (((w.alloc a).alloc b).alloc c).heap[w.heap.size]? = some a ∧ (((w.alloc a).alloc b).alloc c).heap[w.heap.size + 1]? = some b ∧ (((w.alloc a).alloc b).alloc c).heap[w.heap.size + 2]? = some c := by
  refine ⟨?_, ?_, ?_⟩
  · rw [Below.heap_alloc _ _ _ (by rw [size_alloc, size_alloc]; omega)]
    exact heap_low2 _ _ _
  · rw [Below.heap_alloc _ _ _ (by rw [size_alloc, size_alloc]; omega)]
    exact heap_new2 _ _ _
  · have h := heap_new ((w.alloc a).alloc b) c
    rw [size_alloc, size_alloc] at h
    exact h
/-- inSlab under way: what it holds ahead of an order -/
structure IS (w wr : World) (D : Nat) (l : Ly) (k : Nat) : Prop where
  box : LyAt wr D l
  res : LyAt wr (D + 1) zL
  fst : LyAt wr (D + 2) (ansL l.size l.align l.step l.off (fstF l.step k))
  low : Below w.heap.size w wr
  eq : w.heap.size = D
theorem IS.below {w wr w' : World} {D k : Nat} {l : Ly} (h : IS w wr D l k) (hb : Below wr.heap.size wr w') : IS w w' D l k := ⟨h.box.below hb, h.res.below hb, h.fst.below hb, below_then h.low hb, h.eq⟩
theorem IS.next {w wr : World} {D k : Nat} {l : Ly} (h : IS w wr D l k) (e : fstF l.step (k + 1) = fstF l.step k) : IS w wr D l (k + 1) := ⟨h.box, h.res, by rw [e]; exact h.fst, h.low, h.eq⟩
theorem IS.put {w wr w' : World} {D k : Nat} {l d : Ly} (h : IS w wr D l k) (h2 : LyAt w' (D + 2) d) (hk : Kept (· = D + 2) wr w') (e : ansL l.size l.align l.step l.off (fstF l.step (k + 1)) = d) : IS w w' D l (k + 1) :=
  ⟨h.box.kept hk (by omega), h.res.kept hk (by omega), h2.eq e.symm, below_one_kept h.low hk (by rw [h.eq]; omega), h.eq⟩
set_option maxHeartbeats 4000000 in
set_option maxRecDepth 100000 in
theorem cInSlab (l : Ly) (hS : 1 ≤ l.step ∧ l.step ≤ 4096) (w : World) :
    Calls Try.prog 19 #[l.agg] w fun e w' => e = .returned (.tuple #[(ansL l.size l.align l.step l.off (slabF l.step)).agg, .int .i64 (ansE (slabF l.step))]) ∧ Below w.heap.size w w' := by
  obtain ⟨X, hX⟩ : ∃ X, ansL l.size l.align l.step l.off (slabF l.step) = X := ⟨_, rfl⟩
  obtain ⟨Y, hY⟩ : ∃ Y, ansE (slabF l.step) = Y := ⟨_, rfl⟩
  rw [hX, hY]
  have HXY := Lib.hid (And.intro hX hY)
  clear hX hY
  have HSS := Lib.hid hS
  clear hS
  go_enter Try.func19, Try.ntmps19
  go_wp2
  obtain ⟨D, hD⟩ : ∃ D, w.heap.size = D := ⟨_, rfl⟩
  have HI : Hid (IS w (((w.alloc (.cells l.arr 23)).alloc lay0).alloc lay0) D l 0) := Lib.hid (by
    obtain ⟨q0, q1, q2⟩ := low3 w (.cells l.arr 23) lay0 lay0
    rw [hD] at q0 q1 q2
    exact ⟨q0, q1, q2, below_one (below_one (below_one (Below.refl _ _) _) _) _, hD⟩)
  simp only [hD]
  go_loopw [5, 9] (fun e i wr => ∃ k : Nat, k ≤ 4 ∧ i = .int .i64 k ∧ e = .int .i64 (ansE (fstF l.step k)) ∧ Hid ((∀ j, j < k → ¬ fit l.step j) ∧ IS w wr D l k)) (fun _ i _ => 4 - (intOf i).toNat)
  case atStart => exact ⟨0, by omega, rfl, rfl, Lib.hid ⟨fun j hj => absurd hj (Nat.not_lt_zero _), HI.out⟩⟩
  case round =>
    clear HI
    obtain ⟨k, hk, rfl, rfl, HK⟩ := hrel
    obtain ⟨hn, hi⟩ := HK.out
    have HN := Lib.hid hn
    have HI := Lib.hid hi
    clear hn hi HK
    by_cases hk4 : k < 4
    · have hr := nO_range HSS.out.1 hk4
      have hb := sb_range hk4
      have HIB : Hid (∀ w', Calls Try.prog 27 #[.int .i64 k] w' fun e w2 => e = .returned (.int .i64 (sb k)) ∧ w2 = w') := Lib.hid (cSlabBytes k hk4)
      by_cases hz : 0 < nO l.step k
      · have HZ := Lib.hid hz
        have HFIT : Hid (wO l.step k ≤ sb k / 8 ↔ fit l.step k) := Lib.hid ⟨fun h => ⟨HZ.out, h⟩, fun h => h.2⟩
        obtain ⟨n, hnn⟩ : ∃ n, nO l.step k = n := ⟨_, rfl⟩
        have HNN := Lib.hid hnn
        obtain ⟨y, hww⟩ : ∃ y, wO l.step k = y := ⟨_, rfl⟩
        have HWW := Lib.hid hww
        have hq : (sb k).tdiv 8 = sb k / 8 := Int.tdiv_eq_ediv_of_nonneg (by omega)
        have hq8 : IntKind.i64.wrap ((sb k).tdiv 8) = sb k / 8 := by rw [hq]; exact IntWalk.i64_in _ (by omega)
        rw [hww] at HFIT
        rw [hnn] at hz
        have hzn : (n == 0) = false := by simp; omega
        clear hnn hww hr
        obtain ⟨E, hE⟩ : ∃ E, ansE (fstF l.step k) = E := ⟨_, rfl⟩
        have HE := Lib.hid hE
        rw [hE]
        clear hE hq hz
        obtain ⟨d, hd⟩ : ∃ d, inO l.size l.align l.step l.off k = d := ⟨_, rfl⟩
        have hobj : d.objs = n := by rw [← hd]; rw [← HNN.out]; rfl
        have hwst : d.waste = y := by rw [← hd, ← HWW.out]; rfl
        have HD := Lib.hid hd
        have HC : Hid (∀ w', Calls Try.prog 26 #[l.agg, .int .i64 k] w' fun e w2 => e = .returned d.agg ∧ Below w'.heap.size w' w2) := Lib.hid (fun w' => by rw [← hd]; exact cInOrder l k hk4 HSS.out w')
        clear hd
        go_wp2_with (refine wpList_loadL (by rfl) _ (by rfl) D l (by rfl) HI.out.box ?_)
        refine (HC.out wr).mono ?_
        rintro e w1 ⟨rfl, hb1⟩
        have HB1 := Lib.hid hb1
        clear hb1 HC
        have HI1 := Lib.hid (HI.out.below HB1.out)
        clear HI HB1
        generalize sb k = b at *
        obtain ⟨q8, hqq⟩ : ∃ q8, b / 8 = q8 := ⟨_, rfl⟩
        rw [hqq] at hq8 HFIT
        clear hqq hb
        go_wp2_with (refine wpList_storeL (by rfl) _ _ (by rfl) w1.heap.size d (by rfl) (by rfl) _ (heap_new _ _) rfl ?_; intro w2 h2 hk2; obtain ⟨_, _, _, _, _, c5, c6⟩ := h2.cells; rw [hobj] at c5; rw [hwst] at c6; have HI2 := Lib.hid (HI1.out.below (below_one_kept (below_one (Below.refl _ _) _) hk2 (Nat.le_refl _))); have H2 := Lib.hid h2; clear h2 hk2 HI1)
        clear hobj hwst
        refine wp_region_still_tail 5 (by kernel_rfl) (by kernel_rfl) ?_
        simp only [List.take_succ_cons, List.take_zero, List.drop_succ_cons, List.drop_zero]
        repeat still_step
        still_call (HIB.out _)
        repeat still_step
        refine wpStill_nil ?_
        change wpList _ _ _ _ _ w2.drew
        have HI3 := Lib.hid (HI2.out.below (Below.refl _ w2).drew)
        clear HI2 HIB hzn c5 c6
        by_cases hfit : y ≤ q8
        · have HX : Hid (d = X ∧ 0 = Y) := Lib.hid (by
            have h1 := slab_fit hk4 (HFIT.out.1 hfit) HN.out
            obtain ⟨h2, h3⟩ := HXY.out
            rw [h1] at h2 h3
            exact ⟨HD.out.symm.trans h2, h3⟩)
          go_wp2_with (first
            | (refine wpList_loadL (by rfl) _ (by rfl) w1.heap.size d (by rfl) H2.out ?_)
            | (refine wpList_storeL (by rfl) _ _ (by rfl) (D + 1) d (by rfl) (by rfl) _ HI3.out.res rfl ?_; intro w4 h4 hk4))
          exact bodyPost_ret (res_inSlab rfl rfl h4) rfl ⟨by rw [HX.out.1, HX.out.2], below_one_kept HI3.out.low hk4 (by rw [hD]; omega)⟩
        · have HNF : Hid (∀ j, j < k + 1 → ¬ fit l.step j) := Lib.hid (fun j hj => by
            by_cases e : j = k
            · subst e; exact fun h => hfit (HFIT.out.2 h)
            · exact HN.out j (by omega))
          cases hfk : fstF l.step k with
          | some j =>
            have HF : Hid (fstF l.step (k + 1) = fstF l.step k) := Lib.hid (by rw [fst_stay hfk, hfk])
            have hE0 : E = 0 := by rw [← HE.out, hfk]; rfl
            subst hE0
            clear hfk
            go_wp2
            go_roundw
            case rel => exact ⟨k + 1, by omega, by go_num, by rw [HF.out, HE.out], Lib.hid ⟨HNF.out, HI3.out.next HF.out⟩⟩
            case measure => simp [intOf]; omega
          | none =>
            have HF : Hid (fstF l.step (k + 1) = some k) := Lib.hid (fst_new hfk HZ.out)
            have hE0 : E = 150 := by rw [← HE.out, hfk]; rfl
            subst hE0
            clear hfk
            go_wp2_with (first
              | (refine wpList_loadL (by rfl) _ (by rfl) w1.heap.size d (by rfl) H2.out ?_)
              | (refine wpList_storeL (by rfl) _ _ (by rfl) (D + 2) d (by rfl) (by rfl) _ HI3.out.fst rfl ?_; intro w4 h4 hk4))
            go_roundw
            case rel => exact ⟨k + 1, by omega, by go_num, by rw [HF.out]; rfl, Lib.hid ⟨HNF.out, HI3.out.put h4 hk4 (by rw [HF.out]; exact HD.out)⟩⟩
            case measure => simp [intOf]; omega
      · have HF : Hid (fstF l.step (k + 1) = fstF l.step k) := Lib.hid (fst_skip hz)
        have HNF : Hid (∀ j, j < k + 1 → ¬ fit l.step j) := Lib.hid (fun j hj => by
          by_cases e : j = k
          · subst e; exact fun h => hz h.1
          · exact HN.out j (by omega))
        have hz0 : nO l.step k = 0 := by omega
        have HZ := Lib.hid hz0
        obtain ⟨E, hE⟩ : ∃ E, ansE (fstF l.step k) = E := ⟨_, rfl⟩
        have HE := Lib.hid hE
        rw [hE]
        clear hz hz0 hr hb hE
        obtain ⟨d, hd⟩ : ∃ d, inO l.size l.align l.step l.off k = d := ⟨_, rfl⟩
        have hobj : d.objs = 0 := by rw [← hd]; exact HZ.out
        have HD := Lib.hid hd
        have HC : Hid (∀ w', Calls Try.prog 26 #[l.agg, .int .i64 k] w' fun e w2 => e = .returned d.agg ∧ Below w'.heap.size w' w2) := Lib.hid (fun w' => by rw [← hd]; exact cInOrder l k hk4 HSS.out w')
        clear hd
        go_wp2_with (refine wpList_loadL (by rfl) _ (by rfl) D l (by rfl) HI.out.box ?_)
        refine (HC.out wr).mono ?_
        rintro e w1 ⟨rfl, hb1⟩
        have HB1 := Lib.hid hb1
        clear hb1 HC
        have HI1 := Lib.hid (HI.out.below HB1.out)
        clear HI HB1
        go_wp2_with (refine wpList_storeL (by rfl) _ _ (by rfl) w1.heap.size d (by rfl) (by rfl) _ (heap_new _ _) rfl ?_; intro w2 h2 hk2; obtain ⟨_, _, _, _, _, c5, c6⟩ := h2.cells; rw [hobj] at c5; have HI2 := Lib.hid (HI1.out.below (below_one_kept (below_one (Below.refl _ _) _) hk2 (Nat.le_refl _))); have H2 := Lib.hid h2; clear h2 hk2 HI1)
        go_roundw
        case rel => exact ⟨k + 1, by omega, by go_num, by rw [HF.out, HE.out], Lib.hid ⟨HNF.out, HI2.out.next HF.out⟩⟩
        case measure => simp [intOf]; omega
    · obtain rfl : k = 4 := by omega
      have HX : Hid (ansL l.size l.align l.step l.off (fstF l.step 4) = X ∧ ansE (fstF l.step 4) = Y) := Lib.hid (by
        have h1 := slab_none HN.out
        have h2 := HXY.out
        rw [h1] at h2
        exact h2)
      have HF := HI.out.fst
      rw [HX.out.1] at HF
      have HF1 := Lib.hid HF
      rw [HX.out.2]
      clear HF HX
      go_wp2_with (first
        | (refine wpList_loadL (by rfl) _ (by rfl) (D + 2) X (by rfl) HF1.out ?_)
        | (refine wpList_storeL (by rfl) _ _ (by rfl) (D + 1) X (by rfl) (by rfl) _ HI.out.res rfl ?_; intro w4 h4 hk4))
      exact bodyPost_ret (res_inSlab rfl rfl h4) rfl ⟨rfl, below_one_kept HI.out.low hk4 (by rw [hD]; omega)⟩
end Go.Proofs.Ytghmopeaphandaa
