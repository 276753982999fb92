/-
  The closed law GraceKnown, walked.
-/
import Derived.Test.YtnnpclknlccmiaaNone
import Derived.Test.YtnnpclknlccmiaaPlays
set_option linter.unusedVariables false
set_option linter.unusedSimpArgs false
namespace Go.Proofs.Ytnnpclknlccmiaa
open Go Go.RowKit

/-- calls of one processor, with numbers that rise -/
def manyL (j : Nat) : List Pg := (List.range j).map (fun i : Nat => (⟨3, 0, (i : Int)⟩ : Pg))
theorem manyL_length (j : Nat) : (manyL j).length = j := by simp [manyL]
theorem manyL_more (j : Nat) : manyL (j + 1) = manyL j ++ [⟨3, 0, (j : Int)⟩] := by simp [manyL, List.range_succ]
def tailL : List Pg := [⟨2, 0, 0⟩, ⟨4, 0, 0⟩, ⟨2, 0, 0⟩, ⟨4, 0, 0⟩, ⟨3, 0, 0⟩]
theorem many_at {i : Nat} (h : i < 200) : pg (manyL 258 ++ tailL) i = ⟨3, 0, (i : Int)⟩ := by
  unfold pg
  rw [List.getD_eq_getElem?_getD, List.getElem?_append_left (by rw [manyL_length]; omega)]
  simp [manyL, show i < 258 by omega]
/-- the calls in the middle of the list -/
def midL (j : Nat) : List Pg := [⟨2, (j : Int) % 3, 0⟩, ⟨3, (j : Int) % 2, (j : Int)⟩, ⟨4, (j : Int) % 2, 0⟩, ⟨1, 1, 0⟩]
def endL : List Pg := [⟨3, 0, -1⟩, ⟨3, 0, 9007199254740991⟩, ⟨3, 0, 9007199254740992⟩, ⟨3, 9, 0⟩, ⟨4, -1, 0⟩, ⟨0, 8, 0⟩, ⟨1, -1, 0⟩, ⟨2, 8, 0⟩]
def lastL (j : Nat) : List Pg := [⟨2, (j : Int) % 3, 0⟩, ⟨4, (j : Int) % 3, 0⟩]
set_option maxHeartbeats 16000000 in
set_option maxRecDepth 100000 in
theorem walkKnown (W : World) : Calls Try.prog 5 #[] W fun e W' => e = .returned (.bool true) ∧ Below W.heap.size W W' := by
  obtain ⟨i0, hi, hz0, hz1, hz2⟩ := info_parts infoD
  go_enter Try.func5, Try.ntmps5
  go_wp2
  go_loopw [1, 2] (fun v i wr => ∃ k : Nat, k ≤ 2 ∧ i = .int .i64 k ∧ Hid (NoneG wr v) ∧ Hid (Below W.heap.size W wr)) (fun _ i _ => 2 - (intOf i).toNat)
  case atStart => exact ⟨0, by omega, rfl, Lib.hid (.inl rfl), Lib.hid (Below.refl _ _)⟩
  case round =>
    obtain ⟨k, hk, rfl, HN, HB⟩ := hrel
    by_cases hlt : k < 2
    · go_wp2_with fail
      refine (zPoll HN.out (-1)).mono ?_
      rintro e w1 ⟨rfl, rfl⟩
      go_wp2_with fail
      refine (zDone HN.out).mono ?_
      rintro e w2 ⟨rfl, hb⟩
      have HN2 := Lib.hid (HN.out.below hb)
      have HB2 := Lib.hid (below_then HB.out hb)
      clear hb HN HB
      go_wp2_with fail
      refine (zLock HN2.out (-1)).mono ?_
      rintro e w1 ⟨rfl, rfl⟩
      go_wp2_with fail
      refine (zUnlock HN2.out (-1)).mono ?_
      rintro e w1 ⟨rfl, rfl⟩
      go_wp2_with fail
      refine (zQuiet HN2.out (-1)).mono ?_
      rintro e w1 ⟨rfl, rfl⟩
      go_wp2_with fail
      refine (zCall HN2.out (-1) (-1)).mono ?_
      rintro e w1 ⟨rfl, rfl⟩
      go_wp2_with fail
      refine (zDepth HN2.out 0).mono ?_
      rintro e w1 ⟨rfl, rfl⟩
      go_wp2_with fail
      refine (zWaits HN2.out 0).mono ?_
      rintro e w1 ⟨rfl, rfl⟩
      go_wp2_with fail
      refine (zWanted HN2.out 0).mono ?_
      rintro e w1 ⟨rfl, rfl⟩
      go_wp2
      go_roundw
      case rel => exact ⟨k + 1, by omega, by go_num, Lib.hid (.inr ⟨_, rfl, heap_new _ _⟩), Lib.hid (below_one HB2.out _)⟩
      case measure => simp [intOf]; omega
    · obtain rfl : k = 2 := by omega
      rw [show ((2 : Nat) : Int) = 2 from rfl]
      obtain ⟨w4, hw4⟩ : ∃ w4, wr = w4 := ⟨_, rfl⟩
      rw [hw4] at HB ⊢
      clear HN hw4
      go_wp2
      go_loopw [7, 8] (fun v i wx => ∃ j : Nat, j ≤ 10 ∧ i = .int .i64 j ∧ Hid (Dos wx w4.heap.size v j) ∧ Hid (Below w4.heap.size w4 wx)) (fun _ i _ => 10 - (intOf i).toNat)
      case atStart => exact ⟨0, by omega, rfl, Lib.hid ⟨[], rfl, World.ownsRow_nil _ _ _ _⟩, Lib.hid (Below.refl _ _)⟩
      case round =>
        obtain ⟨j, hj, rfl, HD, HX⟩ := hrel
        obtain ⟨l, hl, hown⟩ := HD.out
        obtain ⟨xs, hxs⟩ : ∃ xs, pgs l = xs := ⟨_, rfl⟩
        rw [hxs] at hown
        have HL := Lib.hid (And.intro hl hxs)
        have hz := HX.out.size
        have HO := Lib.hid hown
        clear hl hxs hown
        by_cases hlt : j < 10
        · go_wp2_with (at_builtin; refine wpList_append_own_at _ (by rfl) _ _ 22 (by rfl) w4.heap.size 32 i0 _ 3 24 Try.underlying22 hi hz0 hz1 hz2 (by rfl) (by decide) _ j xs (by rfl) (HO.out.alloc _) ⟨_, 0, none⟩ 1 1 [.int .i64 0, .int .i64 1, .int .i64 0] (by rfl) (by rfl) (new3 _ _ _ _ _) (by intro u hu; simp at hu; rcases hu with rfl | rfl | rfl <;> rfl) (by unfold maxLen; omega) (by omega) (by rw [size_alloc]; omega) ?_)
          intro v5 w5 hown5 hg5 _ _
          have HD5 : Hid (Dos w5 w4.heap.size v5 (j + 1)) := Lib.hid (Dos.more HL.out.1 (by rw [HL.out.2]; exact hown5))
          have HB5 : Hid (Below w4.heap.size w4 w5) := Lib.hid ((below_one HX.out _).grown hg5 (by rw [size_alloc]; omega) (own_ge HO.out))
          clear hown5 hg5 HO HL HX hz HD
          go_wp2
          go_roundw
          case rel => exact ⟨j + 1, by omega, by go_num, HD5, HB5⟩
          case measure => simp [intOf]; omega
        · obtain rfl : j = 10 := by omega
          rw [show ((10 : Nat) : Int) = 10 from rfl]
          clear HL HO hz
          go_wp2
          go_loopw [7, 9] (fun v i wx => ∃ j : Nat, j ≤ 10 ∧ i = .int .i64 j ∧ Hid (Dos wx w4.heap.size v (10 + 4 * j)) ∧ Hid (Below w4.heap.size w4 wx)) (fun _ i _ => 10 - (intOf i).toNat)
          case atStart => exact ⟨0, by omega, rfl, HD, HX⟩
          case round =>
            clear HD HX
            obtain ⟨j, hj, rfl, HD, HX⟩ := hrel
            obtain ⟨l, hl, hown⟩ := HD.out
            obtain ⟨xs, hxs⟩ : ∃ xs, pgs l = xs := ⟨_, rfl⟩
            rw [hxs] at hown
            obtain ⟨N, hN⟩ : ∃ N, 10 + 4 * j = N := ⟨_, rfl⟩
            have hNb : N ≤ 50 := by omega
            have HNN := Lib.hid hN
            rw [hN] at hl hown HD
            have HL := Lib.hid (And.intro hl hxs)
            have hz := HX.out.size
            have HO := Lib.hid hown
            clear hl hxs hown hN
            by_cases hlt : j < 10
            · go_wp2_with (at_builtin; refine wpList_append_own_at _ (by rfl) _ _ 22 (by rfl) w4.heap.size 32 i0 _ 3 24 Try.underlying22 hi hz0 hz1 hz2 (by rfl) (by decide) _ N xs (by rfl) (HO.out.alloc _) ⟨_, 0, none⟩ 4 4 (pgs (midL j)) (by rfl) (by rfl) (World.news_of_block (cs := (pgs (midL j)).toArray) (t := 32) (fr := (0, 0)) (heap_new _ _)) (pgs_one (midL j)) (by unfold maxLen; omega) (by omega) (by rw [size_alloc]; omega) ?_)
              intro v5 w5 hown5 hg5 _ _
              have HD5 : Hid (Dos w5 w4.heap.size v5 (10 + 4 * (j + 1))) := Lib.hid (by
                have := Dos.many (m := midL j) HL.out.1 (k := 4) rfl (by rw [HL.out.2]; exact hown5)
                rw [← HNN.out] at this
                exact this)
              have HB5 : Hid (Below w4.heap.size w4 w5) := Lib.hid ((below_one HX.out _).grown hg5 (by rw [size_alloc]; omega) (own_ge HO.out))
              clear hown5 hg5 HO HL HX hz HD
              go_wp2
              go_roundw
              case rel => exact ⟨j + 1, by omega, by go_num, HD5, HB5⟩
              case measure => simp [intOf]; omega
            · obtain rfl : j = 10 := by omega
              obtain rfl : N = 50 := by have := HNN.out; omega
              rw [show ((10 : Nat) : Int) = 10 from rfl]
              go_wp2_with (at_builtin; refine wpList_append_own_at _ (by rfl) _ _ 22 (by rfl) w4.heap.size 32 i0 _ 3 24 Try.underlying22 hi hz0 hz1 hz2 (by rfl) (by decide) _ 50 xs (by rfl) (HO.out.alloc _) ⟨_, 0, none⟩ 8 8 (pgs endL) (by rfl) (by rfl) (World.news_of_block (cs := (pgs endL).toArray) (t := 32) (fr := (0, 0)) (heap_new _ _)) (pgs_one endL) (by unfold maxLen; omega) (by omega) (by rw [size_alloc]; omega) ?_)
              intro v5 w5 hown5 hg5 _ _
              have HD5 : Hid (Dos w5 w4.heap.size v5 (50 + 8)) := Lib.hid (Dos.many (m := endL) HL.out.1 rfl (by rw [HL.out.2]; exact hown5))
              have HB5 : Hid (Below w4.heap.size w4 w5) := Lib.hid ((below_one HX.out _).grown hg5 (by rw [size_alloc]; omega) (own_ge HO.out))
              clear hown5 hg5 HO HL HX hz HD HNN hNb
              go_wp2
              go_loopw [7, 10] (fun v i wx => ∃ j : Nat, j ≤ 20 ∧ i = .int .i64 j ∧ Hid (Dos wx w4.heap.size v (58 + 2 * j)) ∧ Hid (Below w4.heap.size w4 wx)) (fun _ i _ => 20 - (intOf i).toNat)
              case atStart => exact ⟨0, by omega, rfl, HD5, HB5⟩
              case round =>
                clear HD5 HB5
                obtain ⟨j, hj, rfl, HD, HX⟩ := hrel
                obtain ⟨l, hl, hown⟩ := HD.out
                obtain ⟨xs, hxs⟩ : ∃ xs, pgs l = xs := ⟨_, rfl⟩
                rw [hxs] at hown
                obtain ⟨N, hN⟩ : ∃ N, 58 + 2 * j = N := ⟨_, rfl⟩
                have hNb : N ≤ 98 := by omega
                have HNN := Lib.hid hN
                rw [hN] at hl hown HD
                have HL := Lib.hid (And.intro hl hxs)
                have hz := HX.out.size
                have HO := Lib.hid hown
                clear hl hxs hown hN
                by_cases hlt : j < 20
                · go_wp2_with (at_builtin; refine wpList_append_own_at _ (by rfl) _ _ 22 (by rfl) w4.heap.size 32 i0 _ 3 24 Try.underlying22 hi hz0 hz1 hz2 (by rfl) (by decide) _ N xs (by rfl) (HO.out.alloc _) ⟨_, 0, none⟩ 2 2 (pgs (lastL j)) (by rfl) (by rfl) (World.news_of_block (cs := (pgs (lastL j)).toArray) (t := 32) (fr := (0, 0)) (heap_new _ _)) (pgs_one (lastL j)) (by unfold maxLen; omega) (by omega) (by rw [size_alloc]; omega) ?_)
                  intro v5 w5 hown5 hg5 _ _
                  have HD5 : Hid (Dos w5 w4.heap.size v5 (58 + 2 * (j + 1))) := Lib.hid (by
                    have := Dos.many (m := lastL j) HL.out.1 (k := 2) rfl (by rw [HL.out.2]; exact hown5)
                    rw [← HNN.out] at this
                    exact this)
                  have HB5 : Hid (Below w4.heap.size w4 w5) := Lib.hid ((below_one HX.out _).grown hg5 (by rw [size_alloc]; omega) (own_ge HO.out))
                  clear hown5 hg5 HO HL HX hz HD
                  go_wp2
                  go_roundw
                  case rel => exact ⟨j + 1, by omega, by go_num, HD5, HB5⟩
                  case measure => simp [intOf]; omega
                · obtain rfl : j = 20 := by omega
                  rw [show ((20 : Nat) : Int) = 20 from rfl]
                  obtain ⟨l5, hs5⟩ := HD.out.shows
                  obtain ⟨w5, hw5⟩ : ∃ w5, wr = w5 := ⟨_, rfl⟩
                  have HBW : Hid (Below W.heap.size W wr) := Lib.hid (below_then HB.out HX.out)
                  have HS5 := Lib.hid hs5
                  rw [hw5] at HBW HS5 ⊢
                  clear HL HO hz HD HX HNN hNb hw5 hs5 HB
                  go_wp2
                  go_loopw [11, 12] (fun v i wx => ∃ j : Nat, j ≤ 258 ∧ i = .int .i64 j ∧ Hid (wx.ownsRow w5.heap.size 32 3 v j (pgs (manyL j))) ∧ Hid (Below w5.heap.size w5 wx)) (fun _ i _ => 258 - (intOf i).toNat)
                  case atStart => exact ⟨0, by omega, rfl, Lib.hid (World.ownsRow_nil _ _ _ _), Lib.hid (Below.refl _ _)⟩
                  case round =>
                    obtain ⟨j, hj, rfl, HO, HX⟩ := hrel
                    obtain ⟨xs, hxs⟩ : ∃ xs, pgs (manyL j) = xs := ⟨_, rfl⟩
                    rw [hxs] at HO
                    have HL := Lib.hid hxs
                    have hz := HX.out.size
                    clear hxs
                    by_cases hlt : j < 258
                    · go_wp2_with (at_builtin; refine wpList_append_own_at _ (by rfl) _ _ 22 (by rfl) w5.heap.size 32 i0 _ 3 24 Try.underlying22 hi hz0 hz1 hz2 (by rfl) (by decide) _ j xs (by rfl) (HO.out.alloc _) ⟨_, 0, none⟩ 1 1 [.int .i64 3, .int .i64 0, .int .i64 j] (by rfl) (by rfl) (new3 _ _ _ _ _) (by intro u hu; simp at hu; rcases hu with rfl | rfl | rfl <;> rfl) (by unfold maxLen; omega) (by omega) (by rw [size_alloc]; omega) ?_)
                      intro v6 w6 hown6 hg6 _ _
                      have HO6 : Hid (w6.ownsRow w5.heap.size 32 3 v6 (j + 1) (pgs (manyL (j + 1)))) := Lib.hid (by rw [manyL_more, pgs_snoc, HL.out]; exact hown6)
                      have HB6 : Hid (Below w5.heap.size w5 w6) := Lib.hid ((below_one HX.out _).grown hg6 (by rw [size_alloc]; omega) (own_ge HO.out))
                      clear hown6 hg6 HO HL HX hz
                      go_wp2
                      go_roundw
                      case rel => exact ⟨j + 1, by omega, by go_num, HO6, HB6⟩
                      case measure => simp [intOf]; omega
                    · obtain rfl : j = 258 := by omega
                      rw [show ((258 : Nat) : Int) = 258 from rfl]
                      go_wp2_with (at_builtin; refine wpList_append_own_at _ (by rfl) _ _ 22 (by rfl) w5.heap.size 32 i0 _ 3 24 Try.underlying22 hi hz0 hz1 hz2 (by rfl) (by decide) _ 258 xs (by rfl) (HO.out.alloc _) ⟨_, 0, none⟩ 5 5 (pgs tailL) (by rfl) (by rfl) (World.news_of_block (cs := (pgs tailL).toArray) (t := 32) (fr := (0, 0)) (heap_new _ _)) (pgs_one tailL) (by unfold maxLen; omega) (by omega) (by rw [size_alloc]; omega) ?_)
                      intro v6 w6 hown6 hg6 _ _
                      have hml : (manyL 258 ++ tailL).length = 263 := by rw [List.length_append, manyL_length]; rfl
                      have HM : Hid (ShowP w6 v6 (manyL 258 ++ tailL)) := Lib.hid (by
                        have h1 := Shows.ofOwns hown6
                        unfold ShowP
                        rw [hml, show pgs (manyL 258 ++ tailL) = pgs (manyL 258) ++ pgs tailL by simp [pgs], HL.out]
                        exact h1)
                      have HML := Lib.hid hml
                      have hb6 : Below w5.heap.size w5 w6 := (below_one HX.out _).grown hg6 (by rw [size_alloc]; omega) (own_ge HO.out)
                      have HS6 := Lib.hid (HS5.out.below hb6)
                      have HB6 := Lib.hid (below_then HBW.out hb6)
                      clear hown6 hg6 HO HL HX hz hml hb6 HS5 HBW
                      go_wp2_with fail
                      refine (works _).mono ?_
                      rintro e w7 ⟨rfl, hb⟩
                      have H7 := Lib.hid hb
                      clear hb
                      go_wp2_with fail
                      refine (walkPlays 0 _ [] _ (ShowP.nil _)).mono ?_
                      rintro e w8 ⟨rfl, hb⟩
                      have H8 := Lib.hid (below_then H7.out hb)
                      clear hb H7
                      go_wp2_with fail
                      refine (walkPlays 9 _ l5 _ (HS6.out.below H8.out)).mono ?_
                      rintro e w9 ⟨rfl, hb⟩
                      have H9 := Lib.hid (below_then H8.out hb)
                      clear hb H8
                      go_wp2_with fail
                      refine (walkPlays 2 _ l5 _ (HS6.out.below H9.out)).mono ?_
                      rintro e w10 ⟨rfl, hb⟩
                      have H10 := Lib.hid (below_then H9.out hb)
                      clear hb H9
                      go_wp2_with fail
                      refine (walkPlays 3 _ l5 _ (HS6.out.below H10.out)).mono ?_
                      rintro e w11 ⟨rfl, hb⟩
                      have H11 := Lib.hid (below_then H10.out hb)
                      clear hb H10
                      go_wp2_with fail
                      refine (walkPlays 8 _ l5 _ (HS6.out.below H11.out)).mono ?_
                      rintro e w12 ⟨rfl, hb⟩
                      have H12 := Lib.hid (below_then H11.out hb)
                      clear hb H11
                      go_wp2_with fail
                      refine (walkPlays 1 _ (manyL 258 ++ tailL) _ (HM.out.below H12.out)).mono ?_
                      rintro e w13 ⟨rfl, hb⟩
                      have H13 := Lib.hid (below_then H12.out hb)
                      clear hb H12
                      go_wp2_with fail
                      refine (walkWaits _ l5 _ (HS6.out.below H13.out)).mono ?_
                      rintro e w14 ⟨rfl, hb⟩
                      have H14 := Lib.hid (below_then H13.out hb)
                      clear hb H13
                      go_wp2_with fail
                      refine (walkEnds _ (manyL 258 ++ tailL) _ (HM.out.below H14.out) (by rw [HML.out]; omega) (fun i hi => many_at hi)).mono ?_
                      rintro e w15 ⟨rfl, hb⟩
                      have H15 := Lib.hid (below_then HB6.out (below_then H14.out hb))
                      clear hb H14
                      go_wp2
                      go_ret
                      exact ⟨rfl, H15.out⟩
end Go.Proofs.Ytnnpclknlccmiaa
