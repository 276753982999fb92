/-
  The law LayoutFinds, walked.
-/
import Derived.Test.YtghmopeaphandaaApart
import Derived.Test.YtghmopeaphandaaIdx
import Derived.Deep.RegionWith
import Derived.Deep.Cut
import Derived.Deep.CutRange
set_option linter.unusedVariables false
set_option linter.unusedSimpArgs false
namespace Go.Proofs.Ytghmopeaphandaa
open Go Go.RowKit

/-- seven cells written, one behind another -/
abbrev fill7 (w : World) (K : Nat) (X : Ly) : World := ((((((w.setCell ⟨K, 0, none⟩ (.int .i64 X.size)).setCell ⟨K, 1, none⟩ (.int .i64 X.align)).setCell ⟨K, 2, none⟩ (.int .i64 X.step)).setCell ⟨K, 3, none⟩ (.int .i64 X.off)).setCell ⟨K, 4, none⟩ (.int .i64 X.order)).setCell ⟨K, 5, none⟩ (.int .i64 X.objs)).setCell ⟨K, 6, none⟩ (.int .i64 X.waste)
theorem LyAt.size' {w : World} {K : Nat} {l : Ly} (h : LyAt w K l) (x : Int) : LyAt (w.setCell ⟨K, 0, none⟩ (.int .i64 x)) K { l with size := x } := cells_set h 0 _
theorem LyAt.align' {w : World} {K : Nat} {l : Ly} (h : LyAt w K l) (x : Int) : LyAt (w.setCell ⟨K, 1, none⟩ (.int .i64 x)) K { l with align := x } := cells_set h 1 _
theorem LyAt.fill {w : World} {K : Nat} {l : Ly} (h : LyAt w K l) (X : Ly) : LyAt (fill7 w K X) K X :=
  LyAt.eq (LyAt.waste (LyAt.objs (LyAt.order (LyAt.off (LyAt.step (LyAt.align' (LyAt.size' h X.size) X.align) X.step) X.off) X.order) X.objs) X.waste) rfl
theorem below_set {W w : World} {K : Nat} (hK : W.heap.size ≤ K) (j : Nat) (v : Value) (hb : Below W.heap.size W w) : Below W.heap.size W (w.setCell ⟨K, j, none⟩ v) := hb.setCell (p := ⟨K, j, none⟩) hK v
theorem below_fill {W w : World} (hb : Below W.heap.size W w) {K : Nat} (hK : W.heap.size ≤ K) (X : Ly) : Below W.heap.size W (fill7 w K X) := by
  refine below_set hK 6 _ ?_
  refine below_set hK 5 _ ?_
  refine below_set hK 4 _ ?_
  refine below_set hK 3 _ ?_
  refine below_set hK 2 _ ?_
  refine below_set hK 1 _ ?_
  exact below_set hK 0 _ hb
theorem LyAt.free {w : World} {K : Nat} {l : Ly} (h : LyAt w K l) : w.frozen? ⟨K, 0, none⟩ = false ∧ w.frozen? ⟨K, 1, none⟩ = false ∧ w.frozen? ⟨K, 2, none⟩ = false ∧ w.frozen? ⟨K, 3, none⟩ = false ∧ w.frozen? ⟨K, 4, none⟩ = false ∧ w.frozen? ⟨K, 5, none⟩ = false ∧ w.frozen? ⟨K, 6, none⟩ = false :=
  ⟨self_free h 0, self_free h 1, self_free h 2, self_free h 3, self_free h 4, self_free h 5, self_free h 6⟩
set_option maxHeartbeats 4000000 in
set_option maxRecDepth 100000 in
theorem walkFinds (x y z : Int) (W : World) : Calls Try.prog 6 #[.int .i64 x, .int .i64 y, .int .i64 z] W fun e W' => e = .returned (.bool true) ∧ Below W.heap.size W W' := by
  have hx0 : 0 ≤ x % 2048 := Int.emod_nonneg _ (by decide)
  have hx1 : x % 2048 < 2048 := Int.emod_lt_of_pos _ (by decide)
  have hy0 : 0 ≤ y % 7 := Int.emod_nonneg _ (by decide)
  have hy1 : y % 7 < 7 := Int.emod_lt_of_pos _ (by decide)
  obtain ⟨n, hn⟩ : ∃ n, 1 + x % 2048 = n := ⟨_, rfl⟩
  obtain ⟨a, ha⟩ : ∃ a, (2 : Int) ^ (y % 7).toNat = a := ⟨_, rfl⟩
  obtain ⟨g, hg⟩ : ∃ g, (z % 2 == 1) = g := ⟨_, rfl⟩
  have hsn : okS n := by unfold okS; omega
  have hsa : okA a := by rw [← ha]; exact pow_okA _ (by omega)
  have hra := okA_le hsa
  have hw1 : IntKind.i64.wrap (1 + x % 2048) = n := by rw [hn]; exact IntWalk.i64_in _ (by omega)
  have hw2 : IntKind.i64.wrap (1 * 2 ^ (y % 7).toNat) = a := by rw [Int.one_mul, ha]; exact IntWalk.i64_in _ (by omega)
  have hw3 : IntKind.i64.wrap (2 ^ (y % 7).toNat) = a := by rw [ha]; exact IntWalk.i64_in _ (by omega)
  have HSN := Lib.hid hsn
  have HSA := Lib.hid hsa
  have hC : ∀ w', Calls Try.prog 8 #[.int .i64 n, .int .i64 a, .bool g] w' fun e w2 => e = .returned (.tuple #[.agg #[.int .i64 (ofL n a g).size, .int .i64 (ofL n a g).align, .int .i64 (ofL n a g).step, .int .i64 (ofL n a g).off, .int .i64 (ofL n a g).order, .int .i64 (ofL n a g).objs, .int .i64 (ofL n a g).waste], .int .i64 (ofE n a g)]) ∧ Below w'.heap.size w' w2 := cOf n a g
  obtain ⟨X, hX⟩ : ∃ X, ofL n a g = X := ⟨_, rfl⟩
  obtain ⟨E, hE⟩ : ∃ E, ofE n a g = E := ⟨_, rfl⟩
  rw [hX, hE] at hC
  have HC := Lib.hid hC
  have HXE := Lib.hid (And.intro hX hE)
  clear hsn hsa hC hX hE hn ha
  go_enter Try.func6, Try.ntmps6
  go_upto_region 1 with fail
  go_cut [7, 8] from 18 (fun s7 s8 wx => ∃ D, s7 = .pointer (some ⟨D, 0, none⟩) ∧ s8 = .int .i64 E ∧ Hid (LyAt wx D X ∧ Below W.heap.size W wx))
  case first =>
    go_region_with (first
      | (go_at_call 15; refine (cBringM _ _ (by decide) _).mono ?_; rintro e w1 ⟨rfl, rfl⟩)
      | (go_at_call 8; refine (HC.out _).mono ?_; rintro e w1 ⟨rfl, hb1⟩; first | (have HB0 : Hid (LyAt w1 W.heap.size zL ∧ Below W.heap.size W w1) := Lib.hid ⟨LyAt.below (w := (W.alloc lay0).drew) (zero_new W) hb1, below_then (below_one (Below.refl _ _) lay0).drew hb1⟩; obtain ⟨c0, c1, c2, c3, c4, c5, c6⟩ := HB0.out.1.cells; obtain ⟨g0, g1, g2, g3, g4, g5, g6⟩ := HB0.out.1.free) | have HB2 : Hid (Below W.heap.size W w1) := Lib.hid (below_then (Below.refl _ W).drew hb1)))
    all_goals
      clear hx0 hx1 hy0 hy1 hw1 hw2 hw3 hg HC
      first
        | have HF := Lib.hid (And.intro (HB0.out.1.fill X) (below_fill HB0.out.2 (Nat.le_refl _) X))
        | have HF := Lib.hid (And.intro (show LyAt (w1.alloc (.cells X.arr 23)) w1.heap.size X from heap_new _ _) (below_one HB2.out (.cells X.arr 23)))
      go_wp2_with fail
      go_meet
      case rel => exact ⟨_, rfl, rfl, HF⟩
  case rest =>
    obtain ⟨D, rfl, rfl, HD⟩ := hcut
    clear HC hx0 hx1 hy0 hy1 hw1 hw2 hw3 hg
    obtain ⟨hXE, hEE⟩ := HXE.out
    by_cases hE : E = 0
    · subst hE
      obtain ⟨l, S, F, b, y', p, O, k, h1, hv, ⟨s1, s2, s3, s4, s5, s6⟩, ⟨o1, o2, o3, o4, o5, o6, o7, o8, o9, o10⟩, ⟨e1, e2, e3, e4, e5⟩, m1, m2⟩ := apart_known HSN.out HSA.out hEE
      obtain rfl : X = l := hXE.symm.trans h1
      have HCE : Hid (∀ w K, LyAt w K X → w.cell? ⟨K, 5, none⟩ = some (.int .i64 O)) := Lib.hid (fun w K h => by
        obtain ⟨_, _, _, _, _, c5, _⟩ := h.cells
        rw [e4] at c5
        exact c5)
      have HAT : Hid (∀ j : Nat, j < O → (∀ w', Calls Try.prog 11 #[X.agg, .int .i64 j] w' fun e w2 => e = .returned (.tuple #[.int .i64 ((j : Int) * S + F), .int .i64 0]) ∧ Below w'.heap.size w' w2) ∧ (∀ w', Calls Try.prog 13 #[X.agg, .int .i64 ((j : Int) * S + F)] w' fun e w2 => e = .returned (.tuple #[.int .i64 j, .bool true]) ∧ Below w'.heap.size w' w2)) := Lib.hid (fun j hj => by
        obtain ⟨h1, h2, _⟩ := at_known hv e1 e2 e4 s1 o7 m1 m2 j hj
        refine ⟨fun w' => ?_, fun w' => cIndex X _ j true (.yes j hv (by omega) (by rw [e1, e2])) w'⟩
        have h := cAt X j w'
        rw [h1, h2] at h
        exact h)
      obtain ⟨q, hq⟩ : ∃ q, z % 2100 = q := ⟨_, rfl⟩
      have hq0 : 0 ≤ q := by rw [← hq]; exact Int.emod_nonneg _ (by decide)
      have hq1 : q < 2100 := by rw [← hq]; exact Int.emod_lt_of_pos _ (by decide)
      have HB : Hid (∀ w', Calls Try.prog 15 #[.int .i64 z, .int .i64 2100] w' fun e w2 => e = .returned (.int .i64 q) ∧ w2 = w') := Lib.hid (fun w' => by
        have h := cBringM z 2100 (by decide) w'
        rw [hq] at h
        exact h)
      obtain ⟨Y, hY⟩ : ∃ Y, q - 20 = Y := ⟨_, rfl⟩
      obtain ⟨i0, b0, hi⟩ := IdxIs.ex X Y
      have HI := Lib.hid (cIndex X Y i0 b0 hi)
      have HHIT : Hid (∀ j : Nat, j < O → (j : Int) * S + F = Y → (j : Int) = i0 ∧ true = b0) := Lib.hid (fun j hj h => (IdxIs.yes j hv (by omega) (by rw [e1, e2]; exact h)).one hi)
      have HMISS : Hid ((∀ j : Nat, j < O → (j : Int) * S + F ≠ Y) → false = b0) := Lib.hid (fun h => ((IdxIs.no hv (fun j hj => by rw [e1, e2]; exact h j (by omega))).one hi).2)
      clear hXE hEE HXE h1 hv e1 e2 e3 e4 e5 m1 m2 s5 s6 hq hi o4 o5 o6 o7 o8 o9 o10
      go_wp2_with fail
      refine (HB.out _).mono ?_
      rintro e w1 ⟨rfl, rfl⟩
      go_wp2_with (refine wpList_loadL (by rfl) _ (by rfl) D X (by rfl) HD.out.1 ?_)
      refine (HI.out _).mono ?_
      rintro e w2 ⟨rfl, hb2⟩
      have HA2 := Lib.hid (And.intro (below_then HD.out.2 hb2) (HD.out.1.below hb2))
      clear hb2 HD HI HB hq0 hq1 hY
      go_wp2
      go_loopw [12, 13] (fun v i wr => ∃ (j : Nat) (fb : Bool), j ≤ O ∧ i = .int .i64 j ∧ v = .bool fb ∧ Hid ((fb = true ↔ ∃ m, m < j ∧ (m : Int) * S + F = Y) ∧ Below W.heap.size W wr ∧ LyAt wr D X)) (fun _ i _ => O - (intOf i).toNat)
      case atStart => exact ⟨0, false, by omega, rfl, rfl, Lib.hid ⟨⟨fun h => absurd h (by decide), fun ⟨m, h, _⟩ => absurd h (Nat.not_lt_zero _)⟩, HA2.out⟩⟩
      case round =>
        clear HA2
        obtain ⟨j, fb, hj, rfl, rfl, HR⟩ := hrel
        have HW := Lib.hid HR.out.2
        have HF := Lib.hid HR.out.1
        have c5 := HCE.out _ _ HW.out.2
        clear HR
        by_cases hlt : j < O
        · obtain ⟨hT, hU⟩ := HAT.out j hlt
          have HT := Lib.hid hT
          have HU := Lib.hid hU
          have hlt2 : (j : Int) < (O : Int) := by omega
          have hlt3 : (j : Int) < 20 := by omega
          have HH := Lib.hid (HHIT.out j hlt)
          have hjj : ((j : Int) == (j : Int)) = true := by simp
          clear hT hU
          obtain ⟨v, hv⟩ : ∃ v, (j : Int) * S + F = v := ⟨_, rfl⟩
          have HV := Lib.hid hv
          rw [hv] at HT HU HH
          clear hv
          have HNX : Hid (∀ fb' : Bool, (fb' = true ↔ fb = true ∨ v = Y) → (fb' = true ↔ ∃ m, m < j + 1 ∧ (m : Int) * S + F = Y)) := Lib.hid (fun fb' h => by
            rw [h, HF.out]
            constructor
            · rintro (⟨m, hm, h2⟩ | h2)
              · exact ⟨m, by omega, h2⟩
              · exact ⟨j, by omega, HV.out.trans h2⟩
            · rintro ⟨m, hm, h2⟩
              by_cases e : m = j
              · subst e; exact .inr (HV.out.symm.trans h2)
              · exact .inl ⟨m, by omega, h2⟩)
          go_wp2_with (refine wpList_loadL (by rfl) _ (by rfl) D X (by rfl) HW.out.2 ?_)
          refine (HT.out _).mono ?_
          rintro e w3 ⟨rfl, hb3⟩
          have HW3 := Lib.hid (And.intro (below_then HW.out.1 hb3) (HW.out.2.below hb3))
          clear hb3 HW c5 HT
          go_wp2_with (refine wpList_loadL (by rfl) _ (by rfl) D X (by rfl) HW3.out.2 ?_)
          refine (HU.out _).mono ?_
          rintro e w4 ⟨rfl, hb4⟩
          have HW4 := Lib.hid (And.intro (below_then HW3.out.1 hb4) (HW3.out.2.below hb4))
          clear hb4 HW3 HU HAT HHIT HMISS HCE HF HV
          cases fb with
          | true =>
            have HN2 := Lib.hid (HNX.out true (by simp))
            clear HNX HH
            go_wp2
            go_roundw
            case rel => exact ⟨j + 1, true, by omega, by go_num, by rfl, Lib.hid ⟨by first | exact HN2.out | simpa using HN2.out, HW4.out⟩⟩
            case measure => simp [intOf]; omega
          | false =>
            by_cases hvy : v = Y
            · obtain ⟨g1, g2⟩ := HH.out hvy
              have HN2 := Lib.hid (HNX.out true (by simp [hvy]))
              have hvv : (v == Y) = true := by simp [hvy]
              subst g1
              subst g2
              clear HNX HH hvy
              go_wp2
              go_roundw
              case rel => exact ⟨j + 1, true, by omega, by go_num, by rfl, Lib.hid ⟨by first | exact HN2.out | simpa using HN2.out, HW4.out⟩⟩
              case measure => simp [intOf]; omega
            · have HN2 := Lib.hid (HNX.out false (by simp [hvy]))
              have hvv : (v == Y) = false := by simp [hvy]
              clear HNX HH hvy
              go_wp2
              go_roundw
              case rel => exact ⟨j + 1, false, by omega, by go_num, by rfl, Lib.hid ⟨by first | exact HN2.out | simpa using HN2.out, HW4.out⟩⟩
              case measure => simp [intOf]; omega
        · obtain rfl : j = O := by omega
          have hfb : fb = b0 := by
            by_cases h : ∃ m, m < j ∧ (m : Int) * S + F = Y
            · obtain ⟨m, hm, h2⟩ := h
              rw [← (HHIT.out m hm h2).2]
              exact HF.out.2 ⟨m, hm, h2⟩
            · rw [← HMISS.out (fun m hm h2 => h ⟨m, hm, h2⟩)]
              cases fb with
              | false => rfl
              | true => exact absurd (HF.out.1 rfl) h
          subst hfb
          have hbb : (fb == fb) = true := by simp
          have HV := Lib.hid HW.out.1
          clear HW HAT HHIT HMISS HF hlt
          go_wp2_with fail
          refine (works _).mono ?_
          rintro e w5 ⟨rfl, hb5⟩
          have HV5 := Lib.hid (below_then HV.out hb5)
          clear hb5 HV
          go_wp2
          go_ret
          exact ⟨rfl, HV5.out⟩
    · have hEn : (E != 0) = true := by simp [hE]
      have HV := Lib.hid HD.out.2
      clear hE hXE hEE HXE HD
      go_wp2_with fail
      refine (works _).mono ?_
      rintro e w5 ⟨rfl, hb5⟩
      have HV5 := Lib.hid (below_then HV.out hb5)
      clear hb5 HV
      go_wp2
      go_ret
      exact ⟨rfl, HV5.out⟩
end Go.Proofs.Ytghmopeaphandaa
