/-
  The closed law NearKnown, walked.
-/
import Derived.Test.YtpmlmpkjmgebnaaNone
set_option linter.unusedVariables false
set_option linter.unusedSimpArgs false
namespace Go.Proofs.Ytpmlmpkjmgebnaa
open Go Go.RowKit

/-- the last calls of the list -/
def ends : List Pg := [⟨0, 0, 1024⟩, ⟨0, 0, -1⟩, ⟨0, 8, 0⟩, ⟨0, -1, 0⟩, ⟨1, 9, 0⟩, ⟨2, -1, 0⟩, ⟨2, 1, 0⟩, ⟨1, 0, 0⟩]
set_option maxHeartbeats 4000000 in
set_option maxRecDepth 100000 in
theorem walkKnown (W : World) : Calls Try.prog 6 #[] W fun e W' => e = .returned (.bool true) ∧ Below W.heap.size W W' := by
  obtain ⟨i0, hi, hz0, hz1, hz2⟩ := info_parts infoD
  go_enter Try.func6, Try.ntmps6
  go_wp2
  go_loopw [1, 2] (fun v i wr => ∃ k : Nat, k ≤ 2 ∧ i = .int .i64 k ∧ Hid (NoneAt wr v) ∧ Hid (Below W.heap.size W wr)) (fun _ i _ => 2 - (intOf i).toNat)
  case atStart => exact ⟨0, by omega, rfl, Lib.hid (.inl rfl), Lib.hid (Below.refl _ _)⟩
  case round =>
    obtain ⟨k, hk, rfl, HN, HB⟩ := hrel
    by_cases hlt : k < 2
    · go_wp2_with fail
      refine (zPut HN.out).mono ?_
      rintro e w1 ⟨rfl, rfl⟩
      go_wp2_with fail
      refine (zTake HN.out).mono ?_
      rintro e w1 ⟨rfl, rfl⟩
      go_wp2_with fail
      refine (zDrain HN.out).mono ?_
      rintro e w1 ⟨rfl, rfl⟩
      go_wp2_with fail
      refine (zHas HN.out).mono ?_
      rintro e w2 ⟨rfl, hb⟩
      have HN2 := Lib.hid (HN.out.below hb)
      have HB2 := Lib.hid (below_then HB.out hb)
      clear hb HN HB
      go_wp2_with fail
      refine (zList HN2.out).mono ?_
      rintro e w3 ⟨rfl, rfl⟩
      go_wp2
      go_roundw
      case rel => exact ⟨k + 1, by omega, by go_num, Lib.hid (.inr ⟨_, rfl, heap_new _ _⟩), Lib.hid (below_one HB2.out _)⟩
      case measure => simp [intOf]; omega
    · obtain rfl : k = 2 := by omega
      rw [show ((2 : Nat) : Int) = 2 from rfl]
      obtain ⟨w4, hw4⟩ : ∃ w4, wr = w4 := ⟨_, rfl⟩
      rw [hw4] at HB ⊢
      clear HN hw4
      go_wp2
      go_loopw [7, 8] (fun v i wx => ∃ j : Nat, j ≤ 140 ∧ i = .int .i64 j ∧ Hid (Dos wx w4.heap.size v j) ∧ Hid (Below w4.heap.size w4 wx)) (fun _ i _ => 140 - (intOf i).toNat)
      case atStart => exact ⟨0, by omega, rfl, Lib.hid ⟨[], rfl, World.ownsRow_nil _ _ _ _⟩, Lib.hid (Below.refl _ _)⟩
      case round =>
        obtain ⟨j, hj, rfl, HD, HX⟩ := hrel
        obtain ⟨l, hl, hown⟩ := HD.out
        obtain ⟨xs, hxs⟩ : ∃ xs, pgs l = xs := ⟨_, rfl⟩
        rw [hxs] at hown
        have HL := Lib.hid (And.intro hl hxs)
        have hz := HX.out.size
        have HO := Lib.hid hown
        clear hl hxs hown HD
        by_cases hlt : j < 140
        · go_wp2_with (at_builtin; refine wpList_append_own_at _ (by rfl) _ _ 22 (by rfl) w4.heap.size 32 i0 _ 3 24 Try.underlying22 hi hz0 hz1 hz2 (by rfl) (by decide) _ j xs (by rfl) (HO.out.alloc _) ⟨_, 0, none⟩ 1 1 [.int .i64 0, .int .i64 ((j : Int) % 3), .int .i64 (1023 - (j : Int))] (by rfl) (by rfl) (new3 _ _ _ _ _) (by intro u hu; simp at hu; rcases hu with rfl | rfl | rfl <;> rfl) (by unfold maxLen; omega) (by omega) (by rw [size_alloc]; omega) ?_)
          intro v5 w5 hown5 hg5 _ _
          have HD5 : Hid (Dos w5 w4.heap.size v5 (j + 1)) := Lib.hid (Dos.more HL.out.1 (by rw [HL.out.2]; exact hown5))
          have HB5 : Hid (Below w4.heap.size w4 w5) := Lib.hid ((below_one HX.out _).grown hg5 (by rw [size_alloc]; omega) (own_ge HO.out))
          clear hown5 hg5 HO HL HX hz
          go_wp2
          go_roundw
          case rel => exact ⟨j + 1, by omega, by go_num, HD5, HB5⟩
          case measure => simp [intOf]; omega
        · obtain rfl : j = 140 := by omega
          rw [show ((140 : Nat) : Int) = 140 from rfl]
          go_wp2_with (at_builtin; refine wpList_append_own_at _ (by rfl) _ _ 22 (by rfl) w4.heap.size 32 i0 _ 3 24 Try.underlying22 hi hz0 hz1 hz2 (by rfl) (by decide) _ 140 xs (by rfl) (HO.out.alloc _) ⟨_, 0, none⟩ 8 8 (pgs ends) (by rfl) (by rfl) (World.news_of_block (cs := (pgs ends).toArray) (t := 32) (fr := (0, 0)) (heap_new _ _)) (pgs_one ends) (by unfold maxLen; omega) (by omega) (by rw [size_alloc]; omega) ?_)
          intro v5 w5 hown5 hg5 _ _
          have HD5 : Hid (Dos w5 w4.heap.size v5 (140 + 8)) := Lib.hid (Dos.many (m := ends) HL.out.1 rfl (by rw [HL.out.2]; exact hown5))
          have HB5 : Hid (Below W.heap.size W w5) := Lib.hid (below_then HB.out ((below_one HX.out _).grown hg5 (by rw [size_alloc]; omega) (own_ge HO.out)))
          obtain ⟨l5, hs5⟩ := HD5.out.shows
          have HS5 := Lib.hid hs5
          clear hown5 hg5 HO HL HX hz HD5 hs5 HB
          go_wp2
          go_loopw [9] (fun i wx => ∃ y : Int, i = .int .i64 y ∧ -1 ≤ y ∧ y ≤ 68 ∧ Hid (Below w5.heap.size w5 wx)) (fun i _ => (68 - intOf i).toNat)
          case atStart => exact ⟨-1, rfl, by omega, by omega, Lib.hid (Below.refl _ _)⟩
          case round =>
            obtain ⟨y, rfl, hy1, hy2, HX⟩ := hrel
            by_cases hy : y ≤ 65
            · go_wp2_with fail
              refine (walkPlays 3 y v5 l5 _ (HS5.out.below HX.out)).mono ?_
              rintro e w6 ⟨rfl, hb⟩
              have H6 := Lib.hid (below_then HX.out hb)
              clear hb HX
              go_wp2_with fail
              refine (walkPlays 8 y v5 l5 _ (HS5.out.below H6.out)).mono ?_
              rintro e w7 ⟨rfl, hb⟩
              have H7 := Lib.hid (below_then H6.out hb)
              clear hb H6
              go_wp2
              go_roundw
              case rel => exact ⟨y + 3, rfl, by omega, by omega, H7⟩
              case measure => simp [intOf]; omega
            · go_wp2_with fail
              refine (cWorks _).mono ?_
              rintro e w6 ⟨rfl, hb⟩
              have H6 := Lib.hid (below_then HX.out hb)
              clear hb HX
              go_wp2_with fail
              refine (walkPlays 0 1 _ [] _ (ShowP.nil _)).mono ?_
              rintro e w7 ⟨rfl, hb⟩
              have H7 := Lib.hid (below_then H6.out hb)
              clear hb H6
              go_wp2_with fail
              refine (walkPlays 9 1 _ [] _ (ShowP.nil _)).mono ?_
              rintro e w8 ⟨rfl, hb⟩
              have H8 := Lib.hid (below_then H7.out hb)
              clear hb H7
              go_wp2_with fail
              refine (walkPlays 1 64 v5 l5 _ (HS5.out.below H8.out)).mono ?_
              rintro e w9 ⟨rfl, hb⟩
              have H9 := Lib.hid (below_then H8.out hb)
              clear hb H8
              go_wp2_with fail
              refine (walkPlays 1 65 v5 l5 _ (HS5.out.below H9.out)).mono ?_
              rintro e w10 ⟨rfl, hb⟩
              have H10 := Lib.hid (below_then HB5.out (below_then H9.out hb))
              clear hb H9
              go_wp2
              go_ret
              exact ⟨rfl, H10.out⟩
end Go.Proofs.Ytpmlmpkjmgebnaa
