/-
  The closed law AliasKnown, walked.
-/
import Derived.Test.YtpaanlamjncajaaReg
import Derived.Test.YtpaanlamjncajaaFinds
set_option linter.unusedVariables false
set_option linter.unusedSimpArgs false
namespace Go.Proofs.Ytpaanlamjncajaa
open Go Go.RowKit

def szs : List Int := [-1, 0, 1, 7, 8, 9, 16, 63, 64, 65, 1023, 1024, 1025, 9223372036854775807, -9223372036854775808]
def als : List Int := [-8, 0, 1, 4, 7, 8, 12, 16, 24, 32, 64, 128]
/-- the two lists, in a world above another one -/
structure Tabs (W w : World) : Prop where
  sz : ∀ i, i < 15 → w.cell? ⟨W.heap.size, i, none⟩ = some (.int .i64 (pk szs i))
  al : ∀ i, i < 12 → w.cell? ⟨W.heap.size + 1, i, none⟩ = some (.int .i64 (pk als i))
  low : Below W.heap.size W w
theorem Tabs.below {W w w' : World} (h : Tabs W w) (hb : Below w.heap.size w w') : Tabs W w' := ⟨fun i hi => cell_keep hb (h.sz i hi), fun i hi => cell_keep hb (h.al i hi), below_then h.low hb⟩
theorem Tabs.drew {W w : World} (h : Tabs W w) : Tabs W w.drew := ⟨h.sz, h.al, ⟨h.low.os, h.low.tape, h.low.output, h.low.size, h.low.block⟩⟩
theorem tabs_new (W : World) : Tabs W ((W.alloc (.cells (nms szs).toArray 3)).alloc (.cells (nms als).toArray 3)) :=
  ⟨fun i hi => self_cell (heap_low2 _ _ _) i _ (by simpa using nms_at (l := szs) hi), fun i hi => self_cell (heap_new2 _ _ _) i _ (by simpa using nms_at (l := als) hi), below_one (below_one (Below.refl _ _) _) _⟩
set_option maxHeartbeats 8000000 in
set_option maxRecDepth 100000 in
theorem walkKnown (W : World) : Calls Try.prog 8 #[] W fun e W' => e = .returned (.bool true) ∧ Below W.heap.size W W' := by
  have HT0 := Lib.hid (tabs_new W)
  go_enter Try.func8, Try.ntmps8
  go_wp2
  go_loopw [3] (fun i wr => ∃ n : Nat, n ≤ 15 ∧ i = .int .i64 n ∧ Hid (Tabs W wr)) (fun i _ => 15 - (intOf i).toNat)
  case atStart => exact ⟨0, by omega, rfl, HT0⟩
  case round =>
    obtain ⟨n, hn, rfl, HT⟩ := hrel
    by_cases hlt : n < 15
    · have n2 : (n : Int) < 15 := by omega
      go_wp2
      go_loopw [4] (fun i wr => ∃ m : Nat, m ≤ 12 ∧ i = .int .i64 m ∧ Hid (Tabs W wr)) (fun i _ => 12 - (intOf i).toNat)
      case atStart => exact ⟨0, by omega, rfl, HT⟩
      case round =>
        clear HT
        obtain ⟨m, hm, rfl, HT⟩ := hrel
        by_cases hlt2 : m < 12
        · have m2 : (m : Int) < 12 := by omega
          go_wp2
          go_loopw [5] (fun i wr => ∃ f : Int, -1 ≤ f ∧ f ≤ 9 ∧ i = .int .i64 f ∧ Hid (Tabs W wr)) (fun i _ => (9 - intOf i).toNat)
          case atStart => exact ⟨-1, by omega, by omega, rfl, HT⟩
          case round =>
            clear HT
            obtain ⟨f, hf0, hf1, rfl, HT⟩ := hrel
            by_cases hlt3 : f < 9
            · have hz := HT.out.sz n hlt
              have ha := HT.out.al m hlt2
              have n1 : (0 : Int) ≤ (n : Int) := by omega
              have m1 : (0 : Int) ≤ (m : Int) := by omega
              have HK : Hid (∀ w', Below wr.drew.heap.size wr.drew w' → w'.cell? ⟨W.heap.size, n, none⟩ = some (.int .i64 (pk szs n)) ∧ w'.cell? ⟨W.heap.size + 1, m, none⟩ = some (.int .i64 (pk als m))) := Lib.hid (fun w' hb => ⟨(HT.out.drew.below hb).sz n hlt, (HT.out.drew.below hb).al m hlt2⟩)
              generalize pk szs n = x at *
              generalize pk als m = y at *
              go_wp2
              refine wp_region_held_drew (S := (fun w' => w'.cell? ⟨W.heap.size, n, none⟩ = some (.int .i64 x) ∧ w'.cell? ⟨W.heap.size + 1, m, none⟩ = some (.int .i64 y))) (by kernel_rfl) ?_ (fun hH1 => ?_)
              · exact HK.out _ (Below.refl _ _)
              refine' take_at (i := 0) (d := some 25) (v := _) rfl rfl (by kernel_rfl) (by kernel_rfl) (by kernel_rfl) (fun _ _ _ h => h) (Or.inl ⟨by rfl, ?hy0⟩) (by assumption) ?rest0
              case hy0 => (intro w hSw; (try dsimp only at hSw); go_simp; try with_reducible rfl)
              try simp only [Act.put, List.setIfInBounds_toArray, List.set_cons_zero, List.set_cons_succ]
              refine' take_at (i := 1) (d := some 26) (v := _) rfl rfl (by kernel_rfl) (by kernel_rfl) (by kernel_rfl) (fun _ _ _ h => h) (Or.inl ⟨by rfl, ?hy1⟩) (by assumption) ?rest1
              case hy1 => (intro w hSw; (try dsimp only at hSw); go_simp; try with_reducible rfl)
              try simp only [Act.put, List.setIfInBounds_toArray, List.set_cons_zero, List.set_cons_succ]
              refine' take_at (i := 2) (d := some 27) (v := _) rfl rfl (by kernel_rfl) (by kernel_rfl) (by kernel_rfl) (fun _ _ _ h => h) (Or.inl ⟨by rfl, ?hy2⟩) (by assumption) ?rest2
              case hy2 => (intro w hSw; (try dsimp only at hSw); go_simp; try with_reducible rfl)
              try simp only [Act.put, List.setIfInBounds_toArray, List.set_cons_zero, List.set_cons_succ]
              refine' take_at (i := 3) (d := some 28) (v := _) rfl rfl (by kernel_rfl) (by kernel_rfl) (by kernel_rfl) (fun _ _ _ h => h) (Or.inl ⟨by rfl, ?hy3⟩) (by assumption) ?rest3
              case hy3 => (intro w hSw; (try dsimp only at hSw); go_simp; try with_reducible rfl)
              try simp only [Act.put, List.setIfInBounds_toArray, List.set_cons_zero, List.set_cons_succ]
              refine' take_at (i := 4) (d := some 29) (v := _) rfl rfl (by kernel_rfl) (by kernel_rfl) (by kernel_rfl) (fun _ _ _ h => h) (Or.inl ⟨by rfl, ?hy4⟩) (by assumption) ?rest4
              case hy4 => (intro w hSw; (try dsimp only at hSw); go_simp; try with_reducible rfl)
              try simp only [Act.put, List.setIfInBounds_toArray, List.set_cons_zero, List.set_cons_succ]
              refine' take_at (i := 5) (d := some 30) (v := _) rfl rfl (by kernel_rfl) (by kernel_rfl) (by kernel_rfl) (fun _ _ _ h => h) (Or.inl ⟨by rfl, ?hy5⟩) (by assumption) ?rest5
              case hy5 => (intro w hSw; (try dsimp only at hSw); go_simp; try with_reducible rfl)
              try simp only [Act.put, List.setIfInBounds_toArray, List.set_cons_zero, List.set_cons_succ]
              refine' take_at (i := 6) (d := some 31) (v := _) rfl rfl (by kernel_rfl) (by kernel_rfl) (by kernel_rfl) (fun _ _ _ h => h) (Or.inl ⟨by rfl, ?hy6⟩) (by assumption) ?rest6
              case hy6 => (intro w hSw; (try dsimp only at hSw); go_simp; try with_reducible rfl)
              try simp only [Act.put, List.setIfInBounds_toArray, List.set_cons_zero, List.set_cons_succ]
              refine' take_at (i := 7) (d := some 32) (v := _) rfl rfl (by kernel_rfl) (by kernel_rfl) (by kernel_rfl) (fun _ _ _ h => h) (Or.inl ⟨by rfl, ?hy7⟩) (by assumption) ?rest7
              case hy7 => (intro w hSw; (try dsimp only at hSw); go_simp; try with_reducible rfl)
              try simp only [Act.put, List.setIfInBounds_toArray, List.set_cons_zero, List.set_cons_succ]
              refine' take_at (i := 8) (d := some 33) (v := _) rfl rfl (by kernel_rfl) (by kernel_rfl) (by kernel_rfl) (fun _ _ _ h => h) (Or.inl ⟨by rfl, ?hy8⟩) (by assumption) ?rest8
              case hy8 => (intro w hSw; (try dsimp only at hSw); go_simp; try with_reducible rfl)
              try simp only [Act.put, List.setIfInBounds_toArray, List.set_cons_zero, List.set_cons_succ]
              refine' take_at (i := 9) (d := some 34) (v := _) rfl rfl (by kernel_rfl) (by kernel_rfl) (by kernel_rfl) (fun _ _ _ h => h) (Or.inl ⟨by rfl, ?hy9⟩) (by assumption) ?rest9
              case hy9 => (intro w hSw; (try dsimp only at hSw); go_simp; try with_reducible rfl)
              try simp only [Act.put, List.setIfInBounds_toArray, List.set_cons_zero, List.set_cons_succ]
              refine wpAnyH_ready (rs := [10]) (by kernel_rfl) (by simp) ?_
              refine AllReadyH.cons rfl (fun K hK => ?_) AllReadyH.nil
              go_simp
              refine hK.out _ _ ?_ (fun hHn => ?_)
              · exact HK.out _ (below_one (Below.refl _ _) _)
              clear hK K
              refine wpAnyH_ready (rs := [11]) (by kernel_rfl) (by simp) ?_
              refine AllReadyH.cons rfl (fun K hK => ?_) AllReadyH.nil
              refine step_storeC (by rfl) _ _ (by rfl) wr.heap.size ⟨x, y, f⟩ (by rfl) (by rfl) _ (zero_new wr.drew) rfl ?_
              intro w1 h1 k1
              have hb1 := below_one_kept (below_one (Below.refl wr.drew.heap.size wr.drew) sp0) k1 (Nat.le_refl _)
              refine hK.out _ _ ?_ (fun hHn => ?_)
              · first | exact HK.out _ hb1 | (dsimp only; exact HK.out _ hb1)
              clear hK K
              refine wpAnyH_done (by kernel_rfl) ?_ _
              have HT1 := Lib.hid (HT.out.drew.below hb1)
              have HX1 := Lib.hid h1
              clear h1 k1 hb1 HK hHn hz ha HT
              obtain ⟨c0, c1, c2⟩ := HX1.out.cells
              dsimp only at c0 c1 c2
              go_wp2_with fail
              refine (walkAnswers ⟨x, y, f⟩ ⟨9, 8, 0⟩ _).mono ?_
              rintro e w2 ⟨rfl, hb2⟩
              have HT2 := Lib.hid (HT1.out.below hb2)
              have HX2 := Lib.hid (HX1.out.below hb2)
              clear hb2 c0 c1 c2 HT1 HX1
              obtain ⟨c0, c1, c2⟩ := HX2.out.cells
              dsimp only at c0 c1 c2
              go_wp2_with fail
              refine (walkAnswers ⟨60, 16, 0⟩ ⟨x, y, f⟩ _).mono ?_
              rintro e w3 ⟨rfl, hb3⟩
              have HT3 := Lib.hid (HT2.out.below hb3)
              have HX3 := Lib.hid (HX2.out.below hb3)
              clear hb3 c0 c1 c2 HT2 HX2
              obtain ⟨c0, c1, c2⟩ := HX3.out.cells
              dsimp only at c0 c1 c2
              go_wp2_with fail
              refine (walkAnswers ⟨x, y, f⟩ ⟨x, y, f⟩ _).mono ?_
              rintro e w4 ⟨rfl, hb4⟩
              have HT4 := Lib.hid (HT3.out.below hb4)
              have HX4 := Lib.hid (HX3.out.below hb4)
              clear hb4 c0 c1 c2 HT3 HX3
              obtain ⟨c0, c1, c2⟩ := HX4.out.cells
              dsimp only at c0 c1 c2
              go_wp2
              go_roundw
              case rel => exact ⟨f + 1, by omega, by omega, rfl, HT4⟩
              case measure => simp [intOf]; omega
            · obtain rfl : f = 9 := by omega
              go_wp2
              go_roundw
              case rel => exact ⟨m + 1, by omega, by go_num, HT⟩
              case measure => simp [intOf]; omega
        · obtain rfl : m = 12 := by omega
          go_wp2
          go_roundw
          case rel => exact ⟨n + 1, by omega, by go_num, HT⟩
          case measure => simp [intOf]; omega
    · obtain rfl : n = 15 := by omega
      go_wp2_with fail
      refine (works _).mono ?_
      rintro e w1 ⟨rfl, hb1⟩
      have HT1 := Lib.hid (HT.out.below hb1)
      clear hb1
      go_wp2_with fail
      refine (walkFinds (.slice none 0 0) [] ⟨1, 8, 0⟩ _ (ShowS.nil _) (by simp)).mono ?_
      rintro e w2 ⟨rfl, hb2⟩
      have HT2 := Lib.hid (HT1.out.below hb2)
      clear hb2
      go_wp2
      go_ret
      exact ⟨rfl, HT2.out.low⟩
end Go.Proofs.Ytpaanlamjncajaa
