/-
  played: buddies to which calls are done.
-/
import Derived.Test.YtpohfecbogppkaaPl
import Derived.Test.YtpohfecbogppkaaPlays
set_option linter.unusedVariables false
set_option linter.unusedSimpArgs false
namespace Go.Proofs.Ytpohfecbogppkaa
open Go Go.RowKit

theorem key2 {W0 w : World} {p q : Addr} {u v : Value} (h : W0.cell? p = some u ∧ W0.cell? q = some v) (hb : Below W0.heap.size W0 w) : w.cell? p = some u ∧ w.cell? q = some v := ⟨cell_keep hb h.1, cell_keep hb h.2⟩
theorem key2k {S : Nat → Prop} {W0 w : World} {p q : Addr} {u v : Value} (h : W0.cell? p = some u ∧ W0.cell? q = some v) (hk : Kept S W0 w) (hp : ¬ S p.block) (hq : ¬ S q.block) : w.cell? p = some u ∧ w.cell? q = some v := ⟨cell_kept h.1 hk hp, cell_kept h.2 hk hq⟩
theorem cBringMod (x m : Int) (h : 1 ≤ m ∧ m ≤ 1000) (w : World) : Calls Try.prog 10 #[.int .i64 x, .int .i64 m] w fun e w' => e = .returned (.int .i64 (x % m)) ∧ w' = w := by
  obtain ⟨n, rfl⟩ : ∃ n : Nat, m = n := ⟨m.toNat, by omega⟩
  have := cBring x n w (by omega) (by omega)
  rwa [bring_int x n (by omega)] at this
theorem own_cells {w : World} {Bs hb N cap : Nat} {f : Nat → Nat} (h : w.ownsRow Bs 3 1 (.slice (some ⟨hb, 0, none⟩) N cap) N (nmf f N)) : (∀ i, i < N → w.cell? ⟨hb, i, none⟩ = some (.int .i64 (f i : Int))) ∧ ∀ i, w.frozen? ⟨hb, i, none⟩ = false := by
  rcases h.2 with ⟨e, _⟩ | ⟨g', cap', cur, e, hge, hgg, hc1, hc2, hsz, htk⟩
  · cases e
  · cases e
    refine ⟨fun i hi => ?_, fun i => self_free hgg i⟩
    have := nmf_at f hi
    rw [← htk, List.getElem?_take, if_pos (by omega)] at this
    exact self_cell hgg i _ (by simpa using this)
set_option maxHeartbeats 16000000 in
set_option maxRecDepth 100000 in
theorem cPlayed (pages : Int) (u : Value) (l : List Pg) (n : Nat) (hn : 1 + bring pages 300 = n) (W : World) (hs : ShowP W u l) :
    Calls Try.prog 18 #[.int .i64 pages, u] W fun e w' => ∃ B g L f N v, e = .returned (.tuple #[.pointer (some ⟨B, 0, none⟩), v]) ∧ Pl W w' B g n L f N v := by
  obtain ⟨ao, cap0, rfl, hcap, hat⟩ := hs.form
  clear hs
  have hbl := bring_lt pages 300 (by decide)
  obtain ⟨r, hr⟩ : ∃ r, bring pages 300 = r := ⟨_, rfl⟩
  rw [hr] at hn hbl
  have HR := Lib.hid hr
  clear hr
  obtain rfl : n = r + 1 := by omega
  clear hn
  obtain ⟨i0, hi, hz0, hz1, hz2⟩ := info_parts infoI
  go_enter Try.func18, Try.ntmps18
  go_wp2_with fail
  refine (cBringLit pages 300 _ rfl r HR.out _ (by decide) (by decide)).mono ?_
  rintro e w' ⟨rfl, rfl⟩
  go_wp2_with fail
  rw [show (1 : Int) + (r : Int) = ((r + 1 : Nat) : Int) by omega]
  refine (cNew (r + 1) (by omega) (by omega) _).mono ?_
  rintro e w1 ⟨B, g, rfl, ha, hge, hb1⟩
  have HP0 := Lib.hid (Pl.start ha hge hb1 (by omega) (by omega))
  clear ha hge hb1
  go_wp2
  go_loopw [8, 9] (fun v y wr => ∃ j : Nat, j ≤ l.length ∧ j ≤ 60 ∧ y = .int .i64 j ∧ ∃ N, N ≤ j ∧ Hid (∃ L f, Pl w' wr B g (r + 1) L f N v)) (fun _ y _ => l.length - (intOf y).toNat)
  case atStart => exact ⟨0, by omega, by omega, rfl, 0, by omega, Lib.hid ⟨_, _, HP0.out⟩⟩
  case round =>
    obtain ⟨j, hj, hj60, rfl, N, hNj, HS⟩ := hrel
    obtain ⟨L, f, hpl⟩ := HS.out
    have HP := Lib.hid hpl
    obtain ⟨va, vc, rfl, hvc1, hvc2⟩ := own_shape hpl.own
    clear HS hpl
    by_cases hlt : j < l.length ∧ j < 60
    · obtain ⟨hlt, h60⟩ := hlt
      obtain ⟨b1, o1, rfl, c0, c1, c2⟩ := hat j hlt
      obtain ⟨k, hk⟩ : ∃ k, (pg l j).kind = k := ⟨_, rfl⟩
      obtain ⟨a, ha⟩ : ∃ a, (pg l j).order = a := ⟨_, rfl⟩
      obtain ⟨b, hb⟩ : ∃ b, (pg l j).cache = b := ⟨_, rfl⟩
      rw [hk] at c0
      rw [ha] at c1
      rw [hb] at c2
      have lc := World.block_lt_of_cell? w' _ c0
      have hb1g : b1 ≠ g := by have := HP.out.ge; simp only at lc; omega
      have d0 := cell_keep HP.out.low c0
      have d1 := cell_keep HP.out.low c1
      have d2 := cell_keep HP.out.low c2
      clear c0 c1 c2 hat hk ha hb
      obtain ⟨R, hR⟩ : ∃ R, bring k 2 = R := ⟨_, rfl⟩
      have HRR := Lib.hid hR
      clear hR
      by_cases hR0 : R = 0
      · subst hR0
        obtain ⟨q6, hq6⟩ : ∃ q6, bring a 6 = q6 := ⟨_, rfl⟩
        have hq6l : q6 < 6 := by rw [← hq6]; exact bring_lt a 6 (by decide)
        have hq6i : (q6 : Int) = a % 6 := by rw [← hq6]; exact bring_int a 6 (by decide)
        have h9a : 0 ≤ b % 9 := Int.emod_nonneg _ (by decide)
        have h9b : b % 9 ≤ 8 := by have := Int.emod_lt_of_pos b (show (0 : Int) < 9 by decide); omega
        have K2 := Lib.hid (And.intro d1 d2)
        have HQ6 := Lib.hid hq6i
        clear hq6 hq6i
        rcases fit_or L q6 with hno | ⟨o, p, hf⟩
        · have HAL : Hid (AllocIs L (a % 6) (b % 9) 0 7 L) := Lib.hid (by rw [← HQ6.out]; exact .full q6 _ (by omega) h9a h9b hno)
          clear hno
          go_wp2_with fail
          refine (cBringLit k 2 _ rfl 0 HRR.out _ (by decide) (by decide)).mono ?_
          rintro e w2 ⟨rfl, rfl⟩
          go_wp2
          go_region_held3 (fun W => W.cell? ⟨b1, o1 + j * 3 + 1, none⟩ = some (.int .i64 a) ∧ W.cell? ⟨b1, o1 + j * 3 + 2, none⟩ = some (.int .i64 b))
            (first | exact key2 K2.out (Below.drew (Below.refl _ _)) | exact key2k (key2 K2.out (Below.drew (Below.refl _ _))) (show Kept (· = g) w2.drew _ from by assumption) hb1g hb1g)
            (first
              | (go_at_call 10; refine (cBringMod _ _ (by decide) _).mono ?_; rintro e w3 ⟨rfl, rfl⟩)
              | (go_at_call 11; refine (cAlloc (HP.out.a.below (Below.drew (Below.refl _ _))) HP.out.std HAL.out).mono ?_; rintro e w4 ⟨rfl, ha4, hk4⟩))
          have hk5 : Kept (· = g) w2.drew _ := hk4
          have HP5 := Lib.hid ((HP.out.below (Below.drew (Below.refl _ _))).same ha4 hk5)
          clear ha4 hk4 hk5
          go_wp2
          go_roundw
          case rel => exact ⟨j + 1, by omega, by omega, by go_num, N, by omega, Lib.hid ⟨_, _, HP5.out⟩⟩
          case measure => simp [intOf]; omega
        · have HAL : Hid (AllocIs L (a % 6) (b % 9) p 0 (allocL L q6 o p (b % 9))) := Lib.hid (by rw [← HQ6.out]; exact .ok q6 o p _ (by omega) h9a h9b hf)
          have HF := Lib.hid hf
          clear hf
          go_wp2_with fail
          refine (cBringLit k 2 _ rfl 0 HRR.out _ (by decide) (by decide)).mono ?_
          rintro e w2 ⟨rfl, rfl⟩
          go_wp2
          go_region_held3 (fun W => W.cell? ⟨b1, o1 + j * 3 + 1, none⟩ = some (.int .i64 a) ∧ W.cell? ⟨b1, o1 + j * 3 + 2, none⟩ = some (.int .i64 b))
            (first | exact key2 K2.out (Below.drew (Below.refl _ _)) | exact key2k (key2 K2.out (Below.drew (Below.refl _ _))) (show Kept (· = g) w2.drew _ from by assumption) hb1g hb1g)
            (first
              | (go_at_call 10; refine (cBringMod _ _ (by decide) _).mono ?_; rintro e w3 ⟨rfl, rfl⟩)
              | (go_at_call 11; refine (cAlloc (HP.out.a.below (Below.drew (Below.refl _ _))) HP.out.std HAL.out).mono ?_; rintro e w4 ⟨rfl, ha4, hk4⟩))
          have hk5 : Kept (· = g) w2.drew _ := hk4
          have HPD := Lib.hid (HP.out.below (Below.drew (Below.refl _ _)))
          have hown := HPD.out.ownKept hk5
          have HLOW := Lib.hid (below_kept HPD.out.low hk5 (fun k e => by have := HPD.out.ge; omega))
          have HA4 := Lib.hid ha4
          have HK4 := Lib.hid hk5
          have hzz := HLOW.out.size
          obtain ⟨xs, hxs⟩ : ∃ xs, nmf f N = xs := ⟨_, rfl⟩
          rw [hxs] at hown
          have HXS := Lib.hid hxs
          clear ha4 hk4 hk5 hxs
          go_wp2_with (at_builtin; refine wpList_append_own _ (by rfl) _ _ 35 (by rfl) w'.heap.size 3 i0 (.int .i64 0) 1 8 Try.underlying35 hi hz0 hz1 hz2 (by rfl) (by decide) _ N xs (by rfl) (hown.alloc _) ⟨_, 0, none⟩ 1 1 [.int .i64 (p : Int)] (by rfl) (by rfl) (cell_one_new _ _ _) (by intro u hu; simp at hu; subst hu; rfl) (by unfold maxLen; omega) (by omega) (by rw [size_alloc]; omega) ?_)
          intro v' w5 hown' hg _
          have HP6 := Lib.hid (HPD.out.more HF.out h9a h9b HA4.out HK4.out (by rw [HXS.out]; exact hown') hg)
          clear hown hown' hg
          go_wp2
          go_roundw
          case rel => exact ⟨j + 1, by omega, by omega, by go_num, N + 1, by omega, Lib.hid ⟨_, _, HP6.out⟩⟩
          case measure => simp [intOf]; omega
      · have hR1 : ((R : Int) == 0) = false := by rw [beq_eq_false_iff_ne]; omega
        by_cases hN0 : N = 0
        · subst hN0
          obtain ⟨q6, hq6⟩ : ∃ q6, bring a 6 = q6 := ⟨_, rfl⟩
          have hq6l : q6 < 6 := by rw [← hq6]; exact bring_lt a 6 (by decide)
          have hq6i : (q6 : Int) = a % 6 := by rw [← hq6]; exact bring_int a 6 (by decide)
          have h9a : 0 ≤ b % 9 := Int.emod_nonneg _ (by decide)
          have h9b : b % 9 ≤ 8 := by have := Int.emod_lt_of_pos b (show (0 : Int) < 9 by decide); omega
          have K2 := Lib.hid (And.intro d1 d2)
          have HQ6 := Lib.hid hq6i
          clear hq6 hq6i
          rcases fit_or L q6 with hno | ⟨o, p, hf⟩
          · have HAL : Hid (AllocIs L (a % 6) (b % 9) 0 7 L) := Lib.hid (by rw [← HQ6.out]; exact .full q6 _ (by omega) h9a h9b hno)
            clear hno
            go_wp2_with fail
            refine (cBringLit k 2 _ rfl R HRR.out _ (by decide) (by decide)).mono ?_
            rintro e w2 ⟨rfl, rfl⟩
            go_wp2
            go_region_held3 (fun W => W.cell? ⟨b1, o1 + j * 3 + 1, none⟩ = some (.int .i64 a) ∧ W.cell? ⟨b1, o1 + j * 3 + 2, none⟩ = some (.int .i64 b))
              (first | exact key2 K2.out (Below.drew (Below.refl _ _)) | exact key2k (key2 K2.out (Below.drew (Below.refl _ _))) (show Kept (· = g) w2.drew _ from by assumption) hb1g hb1g)
              (first
                | (go_at_call 10; refine (cBringMod _ _ (by decide) _).mono ?_; rintro e w3 ⟨rfl, rfl⟩)
                | (go_at_call 11; refine (cAlloc (HP.out.a.below (Below.drew (Below.refl _ _))) HP.out.std HAL.out).mono ?_; rintro e w4 ⟨rfl, ha4, hk4⟩))
            have hk5 : Kept (· = g) w2.drew _ := hk4
            have HP5 := Lib.hid ((HP.out.below (Below.drew (Below.refl _ _))).same ha4 hk5)
            clear ha4 hk4 hk5
            go_wp2
            go_roundw
            case rel => exact ⟨j + 1, by omega, by omega, by go_num, 0, by omega, Lib.hid ⟨_, _, HP5.out⟩⟩
            case measure => simp [intOf]; omega
          · have HAL : Hid (AllocIs L (a % 6) (b % 9) p 0 (allocL L q6 o p (b % 9))) := Lib.hid (by rw [← HQ6.out]; exact .ok q6 o p _ (by omega) h9a h9b hf)
            have HF := Lib.hid hf
            clear hf
            go_wp2_with fail
            refine (cBringLit k 2 _ rfl R HRR.out _ (by decide) (by decide)).mono ?_
            rintro e w2 ⟨rfl, rfl⟩
            go_wp2
            go_region_held3 (fun W => W.cell? ⟨b1, o1 + j * 3 + 1, none⟩ = some (.int .i64 a) ∧ W.cell? ⟨b1, o1 + j * 3 + 2, none⟩ = some (.int .i64 b))
              (first | exact key2 K2.out (Below.drew (Below.refl _ _)) | exact key2k (key2 K2.out (Below.drew (Below.refl _ _))) (show Kept (· = g) w2.drew _ from by assumption) hb1g hb1g)
              (first
                | (go_at_call 10; refine (cBringMod _ _ (by decide) _).mono ?_; rintro e w3 ⟨rfl, rfl⟩)
                | (go_at_call 11; refine (cAlloc (HP.out.a.below (Below.drew (Below.refl _ _))) HP.out.std HAL.out).mono ?_; rintro e w4 ⟨rfl, ha4, hk4⟩))
            have hk5 : Kept (· = g) w2.drew _ := hk4
            have HPD := Lib.hid (HP.out.below (Below.drew (Below.refl _ _)))
            have hown := HPD.out.ownKept hk5
            have HLOW := Lib.hid (below_kept HPD.out.low hk5 (fun k e => by have := HPD.out.ge; omega))
            have HA4 := Lib.hid ha4
            have HK4 := Lib.hid hk5
            have hzz := HLOW.out.size
            obtain ⟨xs, hxs⟩ : ∃ xs, nmf f 0 = xs := ⟨_, rfl⟩
            rw [hxs] at hown
            have HXS := Lib.hid hxs
            clear ha4 hk4 hk5 hxs
            go_wp2_with (at_builtin; refine wpList_append_own _ (by rfl) _ _ 35 (by rfl) w'.heap.size 3 i0 (.int .i64 0) 1 8 Try.underlying35 hi hz0 hz1 hz2 (by rfl) (by decide) _ 0 xs (by rfl) (hown.alloc _) ⟨_, 0, none⟩ 1 1 [.int .i64 (p : Int)] (by rfl) (by rfl) (cell_one_new _ _ _) (by intro u hu; simp at hu; subst hu; rfl) (by unfold maxLen; omega) (by omega) (by rw [size_alloc]; omega) ?_)
            intro v' w5 hown' hg _
            have HP6 := Lib.hid (HPD.out.more HF.out h9a h9b HA4.out HK4.out (by rw [HXS.out]; exact hown') hg)
            clear hown hown' hg
            go_wp2
            go_roundw
            case rel => exact ⟨j + 1, by omega, by omega, by go_num, 0 + 1, by omega, Lib.hid ⟨_, _, HP6.out⟩⟩
            case measure => simp [intOf]; omega
        · obtain ⟨M, rfl⟩ : ∃ M, N = M + 1 := ⟨N - 1, by omega⟩
          obtain ⟨hb, cap, e, hcp, hcells, hfro, hbg⟩ := HP.out.form (by omega)
          cases e
          obtain ⟨k2, hk2⟩ : ∃ k2, bring a (M + 1) = k2 := ⟨_, rfl⟩
          have hk2l : k2 < M + 1 := by rw [← hk2]; exact bring_lt a (M + 1) (by omega)
          have hc2 := hcells k2 hk2l
          have hFI := HP.out.outs k2 hk2l
          have HFI : Hid (FreeIs L (f k2 : Int) 0 (freeL L (f k2))) := Lib.hid (.ok (f k2) hFI.1 hFI.2)
          have HK2 := Lib.hid hk2
          clear hk2 hFI hcells hfro
          go_wp2_with fail
          refine (cBringLit k 2 _ rfl R HRR.out _ (by decide) (by decide)).mono ?_
          rintro e w2 ⟨rfl, rfl⟩
          go_wp2_with fail
          refine (cBringLit a (M + 1) _ rfl k2 HK2.out _ (by omega) (by omega)).mono ?_
          rintro e w2 ⟨rfl, rfl⟩
          go_wp2_with fail
          refine (cFreeB HP.out.a HP.out.std HFI.out).mono ?_
          rintro e w4 ⟨rfl, ha4, hk4⟩
          obtain ⟨hcells, hfro⟩ := own_cells (HP.out.ownKept hk4)
          have e1 := hcells M (by omega)
          have e2 := hcells k2 hk2l
          have e3 := hfro k2
          have HP5 := Lib.hid (HP.out.less hk2l ha4 hk4)
          clear hcells hfro ha4 hk4 hc2
          go_wp2
          go_roundw
          case rel => exact ⟨j + 1, by omega, by omega, by go_num, M, by omega, Lib.hid ⟨_, _, HP5.out⟩⟩
          case measure => simp [intOf]; omega
    · by_cases hjl : j = l.length
      · subst hjl
        go_wp2
        go_ret2
        exact ⟨B, g, L, f, N, _, rfl, HP.out⟩
      · obtain rfl : j = 60 := by omega
        have hl60 : 60 < l.length := by omega
        go_wp2
        go_ret2
        exact ⟨B, g, L, f, N, _, rfl, HP.out⟩
end Go.Proofs.Ytpohfecbogppkaa
