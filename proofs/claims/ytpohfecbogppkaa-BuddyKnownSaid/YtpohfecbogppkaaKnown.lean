/-
  BuddyKnown: both ends of all; pages that are none.
-/
import Derived.Test.YtpohfecbogppkaaFullL
set_option linter.unusedVariables false
set_option linter.unusedSimpArgs false
namespace Go.Proofs.Ytpohfecbogppkaa
open Go Go.RowKit

theorem infoDo : (Try.prog.info? 31).map (fun i => (i.zero, i.size, i.bytes)) = some (some (.agg #[.int .i64 0, .int .i64 0, .int .i64 0]), 3, 24) := by kernel_rfl
/-- the calls that are tried -/
def someL (x : Int) : List Pg := [⟨0, 10, 8⟩, ⟨0, 11, 0⟩, ⟨0, -1, 0⟩, ⟨0, 0, 9⟩, ⟨0, 0, -1⟩, ⟨0, 3, 0⟩, ⟨0, 0, 0⟩, ⟨0, 0, 1⟩, ⟨1, -1, 0⟩, ⟨1, x, 0⟩, ⟨1, 1, 0⟩, ⟨2, 0, 0⟩, ⟨0, 2, 0⟩, ⟨2, 1, 0⟩, ⟨0, 10, 0⟩, ⟨2, 0, 0⟩, ⟨2, 0, 0⟩, ⟨2, 0, 0⟩, ⟨0, 10, 0⟩]
def nine (k : Nat) : List Pg := (List.range k).map fun (i : Nat) => (⟨0, 0, (i : Int) % 9⟩ : Pg)
theorem nine_more (k : Nat) : nine (k + 1) = nine k ++ [⟨0, 0, (k : Int) % 9⟩] := by simp [nine, List.range_succ]
theorem nine_length (k : Nat) : (nine k).length = k := by simp [nine]
/-- twelve numbers in a block -/
def Nums (w : World) (Z : Nat) : Prop := ∀ i, i < 12 → ∃ x : Int, w.cell? ⟨Z, i, none⟩ = some (.int .i64 x)
theorem Nums.below {w w' : World} {Z : Nat} (h : Nums w Z) (hb : Below w.heap.size w w') : Nums w' Z := fun i hi => by
  obtain ⟨x, hx⟩ := h i hi
  exact ⟨x, cell_keep hb hx⟩
theorem nums_new (w : World) (a0 a1 a2 a3 a4 a5 a6 a7 a8 a9 a10 a11 : Int) (t : TypeId) : Nums (w.alloc (.cells #[.int .i64 a0, .int .i64 a1, .int .i64 a2, .int .i64 a3, .int .i64 a4, .int .i64 a5, .int .i64 a6, .int .i64 a7, .int .i64 a8, .int .i64 a9, .int .i64 a10, .int .i64 a11] t)) w.heap.size := fun i hi => by
  have hb := heap_new w (.cells #[.int .i64 a0, .int .i64 a1, .int .i64 a2, .int .i64 a3, .int .i64 a4, .int .i64 a5, .int .i64 a6, .int .i64 a7, .int .i64 a8, .int .i64 a9, .int .i64 a10, .int .i64 a11] t)
  match i, hi with
  | 0, _ => exact ⟨_, self_cell hb 0 _ rfl⟩
  | 1, _ => exact ⟨_, self_cell hb 1 _ rfl⟩
  | 2, _ => exact ⟨_, self_cell hb 2 _ rfl⟩
  | 3, _ => exact ⟨_, self_cell hb 3 _ rfl⟩
  | 4, _ => exact ⟨_, self_cell hb 4 _ rfl⟩
  | 5, _ => exact ⟨_, self_cell hb 5 _ rfl⟩
  | 6, _ => exact ⟨_, self_cell hb 6 _ rfl⟩
  | 7, _ => exact ⟨_, self_cell hb 7 _ rfl⟩
  | 8, _ => exact ⟨_, self_cell hb 8 _ rfl⟩
  | 9, _ => exact ⟨_, self_cell hb 9 _ rfl⟩
  | 10, _ => exact ⟨_, self_cell hb 10 _ rfl⟩
  | 11, _ => exact ⟨_, self_cell hb 11 _ rfl⟩
  | i + 12, hi => omega
set_option maxHeartbeats 16000000 in
set_option maxRecDepth 100000 in
theorem walkKnown (W : World) : Calls Try.prog 7 #[] W fun e w' => e = .returned (.bool true) ∧ Below W.heap.size W w' := by
  obtain ⟨i0, hi, hz0, hz1, hz2⟩ := info_parts infoDo
  go_enter Try.func7, Try.ntmps7
  go_wp2
  go_loopw [1, 2] (fun p y wr => ∃ i : Nat, i ≤ 2 ∧ y = .int .i64 i ∧ ((i = 0 ∧ p = .pointer none) ∨ (1 ≤ i ∧ ∃ Z, p = .pointer (some ⟨Z, 0, none⟩) ∧ Hid (wr.cell? ⟨Z, 0, none⟩ = some (.slice none 0 0)))) ∧ Hid (Below W.heap.size W wr)) (fun _ y _ => 2 - (intOf y).toNat)
  case atStart => exact ⟨0, by omega, by first | rfl | go_num, .inl ⟨rfl, rfl⟩, Lib.hid (Below.refl _ _)⟩
  case round =>
    obtain ⟨i, hi2, rfl, hp, HB⟩ := hrel
    by_cases h0 : i = 0
    · subst h0
      rcases hp with ⟨_, rfl⟩ | ⟨h, _⟩
      rotate_left
      · omega
      go_wp2_with fail
      refine (cAllocNil 99 0 _).mono ?_
      rintro e w1 ⟨rfl, rfl⟩
      go_wp2_with fail
      refine (cFreeNil 0 _).mono ?_
      rintro e w1 ⟨rfl, rfl⟩
      go_wp2_with fail
      refine (cFreesNil 0 _).mono ?_
      rintro e w1 ⟨rfl, rfl⟩
      go_wp2_with fail
      refine (cLeftNil _).mono ?_
      rintro e w1 ⟨rfl, rfl⟩
      go_wp2_with fail
      refine (cWholeNil _).mono ?_
      rintro e w2 ⟨rfl, hb⟩
      have HB2 := Lib.hid (below_then HB.out hb)
      clear hb
      go_wp2_with fail
      refine (cPagesNil _).mono ?_
      rintro e w3 ⟨rfl, rfl⟩
      have HZ := Lib.hid (self_cell (heap_new w3 (.cells #[.slice none 0 0] 56)) 0 _ rfl)
      have HB3 := Lib.hid (below_one HB2.out (.cells #[.slice none 0 0] 56))
      go_wp2
      go_roundw
      case rel => exact ⟨1, by omega, by go_num, .inr ⟨by omega, _, rfl, HZ⟩, HB3⟩
      case measure => simp [intOf]
    · rcases hp with ⟨h, _⟩ | ⟨_, Z, rfl, HC⟩
      · omega
      by_cases h1 : i = 1
      · subst h1
        go_wp2_with fail
        refine (cAllocZero Z 99 0 _ HC.out).mono ?_
        rintro e w1 ⟨rfl, rfl⟩
        go_wp2_with fail
        refine (cFreeZero Z 0 _ HC.out).mono ?_
        rintro e w1 ⟨rfl, rfl⟩
        go_wp2_with fail
        refine (cFreesZero Z 0 _ HC.out).mono ?_
        rintro e w1 ⟨rfl, rfl⟩
        go_wp2_with fail
        refine (cLeftZero Z _ HC.out).mono ?_
        rintro e w1 ⟨rfl, rfl⟩
        go_wp2_with fail
        refine (cWholeZero Z _ HC.out).mono ?_
        rintro e w2 ⟨rfl, hb⟩
        have HB2 := Lib.hid (below_then HB.out hb)
        have HC2 := Lib.hid (cell_keep hb HC.out)
        clear hb HC
        go_wp2_with fail
        refine (cPagesZero Z _ HC2.out).mono ?_
        rintro e w3 ⟨rfl, rfl⟩
        have HZ := Lib.hid (self_cell (heap_new w3 (.cells #[.slice none 0 0] 56)) 0 _ rfl)
        have HB3 := Lib.hid (below_one HB2.out (.cells #[.slice none 0 0] 56))
        go_wp2
        go_roundw
        case rel => exact ⟨2, by omega, by go_num, .inr ⟨by omega, _, rfl, HZ⟩, HB3⟩
        case measure => simp [intOf]
      · obtain rfl : i = 2 := by omega
        have HNM := Lib.hid (nums_new wr (-1) 0 1 2 3 5 8 63 64 1023 1024 1025 3)
        have HBW := Lib.hid (below_one HB.out (.cells #[.int .i64 (-1), .int .i64 0, .int .i64 1, .int .i64 2, .int .i64 3, .int .i64 5, .int .i64 8, .int .i64 63, .int .i64 64, .int .i64 1023, .int .i64 1024, .int .i64 1025] 3))
        obtain ⟨Y, hY⟩ : ∃ Y, wr.heap.size = Y := ⟨_, rfl⟩
        rw [hY] at HNM
        clear HC HB
        rw [show ((2 : Nat) : Int) = 2 from rfl]
        go_wp2
        go_loopw [6] (fun y wx => ∃ j : Nat, j ≤ 12 ∧ y = .int .i64 j ∧ Hid (Nums wx Y) ∧ Hid (Below W.heap.size W wx)) (fun y _ => 12 - (intOf y).toNat)
        case atStart => exact ⟨0, by omega, by first | rfl | go_num, HNM, HBW⟩
        case round =>
          obtain ⟨j, hj, rfl, HNj, HBj⟩ := hrel
          by_cases hj12 : j < 12
          · obtain ⟨x, hx⟩ := HNj.out j hj12
            have HL := Lib.hid (lit_p wr 31 (someL x) 19 rfl (by decide))
            have HB0 := Lib.hid (below_one HBj.out (.cells (pgs (someL x)).toArray 31))
            have HN0 := Lib.hid (HNj.out.below (below_one (Below.refl _ _) (.cells (pgs (someL x)).toArray 31)))
            have HX := Lib.hid hx
            have hYl : Y < wr.heap.size := World.block_lt_of_cell? wr _ hx
            clear HNj
            go_wp2_with fail
            refine (walkPlays x _ (someL x) _ HL.out).mono ?_
            rintro e w1 ⟨rfl, hb1⟩
            have HB1 := Lib.hid (below_then HB0.out hb1)
            have HN1 := Lib.hid (HN0.out.below hb1)
            have hx1 := cell_keep hb1 (cell_keep (below_one (Below.refl _ wr) (.cells (pgs (someL x)).toArray 31)) HX.out)
            clear hb1 HL HB0 HN0 hx
            go_wp2_with fail
            refine (walkPlays x _ [] _ (ShowP.nil _)).mono ?_
            rintro e w2 ⟨rfl, hb2⟩
            have HB2 := Lib.hid (below_then HB1.out hb2)
            have HN2 := Lib.hid (HN1.out.below hb2)
            clear hb2 HB1 HN1 hx1
            go_wp2
            go_roundw
            case rel => exact ⟨j + 1, by omega, by go_num, HN2, HB2⟩
            case measure => simp [intOf]; omega
          · obtain rfl : j = 12 := by omega
            clear HNj HNM HBW
            rw [show ((12 : Nat) : Int) = 12 from rfl]
            go_wp2
            go_loopw [8, 9] (fun v y wx => ∃ m : Nat, m ≤ 40 ∧ y = .int .i64 m ∧ Hid (wx.ownsRow W.heap.size 31 3 v (nine m).length (pgs (nine m))) ∧ Hid (Below W.heap.size W wx)) (fun _ y _ => 40 - (intOf y).toNat)
            case atStart => exact ⟨0, by omega, by first | rfl | go_num, Lib.hid (World.ownsRow_nil _ _ _ _), HBj⟩
            case round =>
              obtain ⟨m, hm, rfl, HO, HBm⟩ := hrel
              by_cases hm40 : m < 40
              · have hown := HO.out
                obtain ⟨xs, hxs⟩ : ∃ xs, pgs (nine m) = xs := ⟨_, rfl⟩
                rw [nine_length, hxs] at hown
                have HXS := Lib.hid hxs
                have hz := HBm.out.size
                clear hxs
                go_wp2_with (at_builtin; refine wpList_append_own _ (by rfl) _ _ 22 (by rfl) W.heap.size 31 i0 _ 3 24 Try.underlying22 hi hz0 hz1 hz2 (by rfl) (by decide) _ m xs (by rfl) (hown.alloc _) ⟨_, 0, none⟩ 1 1 [.int .i64 0, .int .i64 0, .int .i64 ((m : Int) % 9)] (by rfl) (by rfl) (new3 _ _ _ _ _) (by intro u hu; simp at hu; rcases hu with rfl | rfl <;> rfl) (by unfold maxLen; omega) (by omega) (by rw [size_alloc]; omega) ?_)
                intro v2 w2 hown2 hg2 _
                have HB3 : Hid (Below W.heap.size W w2) := Lib.hid ((below_one HBm.out _).grown hg2 (by rw [size_alloc]; omega) (own_ge hown))
                have HO3 : Hid (w2.ownsRow W.heap.size 31 3 v2 (nine (m + 1)).length (pgs (nine (m + 1)))) := Lib.hid (by
                  rw [nine_more]
                  exact own_more (x := ⟨0, 0, (m : Int) % 9⟩) (nine_length m) HXS.out hown2)
                clear hown hown2 hg2
                go_wp2
                go_roundw
                case rel => exact ⟨m + 1, by omega, by go_num, HO3, HB3⟩
                case measure => simp [intOf]; omega
              · obtain rfl : m = 40 := by omega
                have HS := Lib.hid (show ShowP _ _ (nine 40) from Shows.ofOwns HO.out)
                clear HO
                go_wp2_with fail
                refine (works _).mono ?_
                rintro e w1 ⟨rfl, hb1⟩
                have HB1 := Lib.hid (below_then HBm.out hb1)
                have HS1 := Lib.hid (HS.out.below hb1)
                clear hb1 HS
                go_wp2_with fail
                refine (walkPlays 32 _ (nine 40) _ HS1.out).mono ?_
                rintro e w2 ⟨rfl, hb2⟩
                have HB2 := Lib.hid (below_then HB1.out hb2)
                have HS2 := Lib.hid (HS1.out.below hb2)
                clear hb2 HS1 HB1
                go_wp2_with fail
                refine (walkBack 31 _ (nine 40) 7 _ HS2.out).mono ?_
                rintro e w3 ⟨rfl, hb3⟩
                have HB3 := Lib.hid (below_then HB2.out hb3)
                have HS3 := Lib.hid (HS2.out.below hb3)
                clear hb3 HS2 HB2
                go_wp2_with fail
                refine (walkFull 39 _ (nine 40) 0 _ HS3.out).mono ?_
                rintro e w4 ⟨rfl, hb4⟩
                have HB4 := Lib.hid (below_then HB3.out hb4)
                clear hb4 HS3 HB3
                go_wp2
                go_ret
                exact ⟨rfl, HB4.out⟩
end Go.Proofs.Ytpohfecbogppkaa
