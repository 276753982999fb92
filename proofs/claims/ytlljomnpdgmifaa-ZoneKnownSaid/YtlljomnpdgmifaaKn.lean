/-
  The closed law ZoneKnown, walked.
-/
import Derived.Test.YtlljomnpdgmifaaPy
import Derived.Test.YtlljomnpdgmifaaFl
set_option linter.unusedVariables false
set_option linter.unusedSimpArgs false
namespace Go.Proofs.Ytlljomnpdgmifaa
open Go Go.RowKit

/-! ### a list of calls that grows -/
theorem qds_snoc (l : List Qd) (x : Qd) : qds (l ++ [x]) = qds l ++ x.cells := by simp [qds]
theorem new4 (w : World) (a b c d : Value) (t : TypeId) : ∀ j u, [a, b, c, d][j]? = some u → (w.alloc (.cells #[a, b, c, d] t)).cell? ((⟨w.heap.size, 0, none⟩ : Addr).add j) = some u := by
  intro j u hj
  rw [plain_add, Nat.zero_add]
  exact self_cell (heap_new w _) j u (by
    have : (#[a, b, c, d] : Array Value)[j]? = [a, b, c, d][j]? := by simp
    rw [this]; exact hj)
def WfL (l : List Qd) : Prop := ∀ x ∈ l, wf64 x.a
theorem WfL.wfD {l : List Qd} (h : WfL l) : WfD l := fun i hi => by
  rw [← qd_at l i hi]
  exact h _ (List.getElem_mem hi)
/-- a row of calls of one's own, as many as N -/
def Dos (w : World) (b : Nat) (v : Value) (N : Nat) : Prop := ∃ l : List Qd, (l.length = N ∧ WfL l) ∧ w.ownsRow b 32 4 v N (qds l)
theorem Dos.shows {w : World} {b N : Nat} {v : Value} (h : Dos w b v N) : ∃ l, ShowD w v l ∧ WfD l := by
  obtain ⟨l, h1, h2⟩ := h
  have := Shows.ofOwns h2
  exact ⟨l, by unfold ShowD; rw [h1.1]; exact this, h1.2.wfD⟩
theorem Dos.more {w : World} {b N : Nat} {v : Value} {l : List Qd} {k x y z : Int} (hl : l.length = N ∧ WfL l) (hy : wf64 y) (h : w.ownsRow b 32 4 v (N + 1) (qds l ++ [.int .i64 k, .int .i64 x, .int .i64 y, .int .i64 z])) : Dos w b v (N + 1) :=
  ⟨l ++ [⟨k, x, y, z⟩], ⟨by simp [hl.1], fun d hd => by
    rcases List.mem_append.1 hd with e | e
    · exact hl.2 d e
    · rw [List.mem_singleton.1 e]; exact hy⟩, by rw [qds_snoc]; exact h⟩
theorem Dos.many {w : World} {b N : Nat} {v : Value} {l m : List Qd} (hl : l.length = N ∧ WfL l) {k : Nat} (hm : m.length = k) (hw : WfL m) (h : w.ownsRow b 32 4 v (N + k) (qds l ++ qds m)) : Dos w b v (N + k) :=
  ⟨l ++ m, ⟨by simp [hl.1, hm], fun d hd => (List.mem_append.1 hd).elim (hl.2 d) (hw d)⟩, by rw [show qds (l ++ m) = qds l ++ qds m by simp [qds]]; exact h⟩
theorem qds_one (l : List Qd) : ∀ u ∈ qds l, u.oneCell' = true := by
  intro u hu
  obtain ⟨c, _, hc⟩ := List.mem_flatMap.1 hu
  simp only [Qd.cells, List.mem_cons, List.mem_nil_iff, or_false] at hc
  rcases hc with rfl | rfl | rfl | rfl <;> rfl
theorem infoDo : (Try.prog.info? 32).map (fun i => (i.zero, i.size, i.bytes)) = some (some (.agg #[.int .i64 0, .int .i64 0, .int .i64 0, .int .i64 0]), 4, 32) := by kernel_rfl
/-- the last calls of the list -/
def ends : List Qd := [⟨0, 9, 0, 0⟩, ⟨0, 0, 11, 0⟩, ⟨0, 0, -1, 0⟩, ⟨0, 0, 0, 9⟩, ⟨0, 0, 0, -1⟩, ⟨1, 9, 0, 0⟩, ⟨1, 0, -1, 0⟩, ⟨1, 0, 2000, 0⟩, ⟨3, -1, 0, 0⟩, ⟨0, 0, 3, 0⟩, ⟨1, 0, 1, 0⟩, ⟨0, 0, 5, 0⟩, ⟨3, 1, 0, 0⟩, ⟨0, 0, 2, 0⟩, ⟨2, 0, 0, 0⟩, ⟨0, 0, 0, 0⟩]
theorem ends_wf : WfL ends := by
  intro x hx
  have key : ∀ y ∈ ends, decide (-1 ≤ y.a ∧ y.a ≤ 2000) = true := List.all_eq_true.1 (by kernel_rfl)
  have := of_decide_eq_true (key x hx)
  exact wf_near _ this.1 (by omega)
theorem ini_whole {m : Nat} (h1 : 1 ≤ m) (h2 : m ≤ 1024) {n : Nat} : decide (ini m = ini (ini m).length) = true ∧ freeF (ini m) + cnt n noF = m := by
  refine ⟨decide_eq_true (by rw [ini_length]), ?_⟩
  have h3 := left_of (ini_std h1 h2)
  rw [none_used (fun i hi => (ini_is m).free i (by rwa [ini_length] at hi)), ini_length] at h3
  have h4 : cnt n noF = 0 := cnt_zero.2 fun _ _ => rfl
  omega
set_option maxHeartbeats 16000000 in
set_option maxRecDepth 100000 in
theorem walkKnown (W : World) : Calls Try.prog 7 #[] W fun e W' => e = .returned (.bool true) ∧ Below W.heap.size W W' := by
  obtain ⟨i0, hi, hz0, hz1, hz2⟩ := info_parts infoDo
  have heq := eqinT_self 0 0 0
  have hgd := guardT
  go_enter Try.func7, Try.ntmps7
  go_wp2
  go_loopw [1, 2] (fun v i wr => ∃ k : Nat, k ≤ 2 ∧ i = .int .i64 k ∧ Hid (ZNone wr v) ∧ Hid (Below W.heap.size W wr)) (fun _ i _ => 2 - (intOf i).toNat)
  case atStart => exact ⟨0, by omega, rfl, Lib.hid (.inl rfl), Lib.hid (Below.refl _ _)⟩
  case round =>
    obtain ⟨k, hk, rfl, HN, HB⟩ := hrel
    by_cases hlt : k < 2
    · go_wp2_with fail
      refine (nAlloc HN.out (-1) 0 0).mono ?_
      rintro e w1 ⟨rfl, rfl⟩
      go_wp2_with fail
      refine (nTag HN.out 0).mono ?_
      rintro e w2 ⟨rfl, hb⟩
      have HN2 := Lib.hid ((HN.out.below hb).below (below_one (Below.refl _ w2) (.cells #[.int .i64 0, .int .i64 0, .int .i64 0] 44)))
      have HB2 := Lib.hid (below_one (below_then HB.out hb) (.cells #[.int .i64 0, .int .i64 0, .int .i64 0] 44))
      clear hb HN HB
      go_wp2_with fail
      refine (nFree HN2.out (-1) 0).mono ?_
      rintro e w3 ⟨rfl, rfl⟩
      go_wp2_with fail
      refine (nDrain HN2.out (-1)).mono ?_
      rintro e w3 ⟨rfl, rfl⟩
      go_wp2_with fail
      refine (nLeft HN2.out).mono ?_
      rintro e w3 ⟨rfl, rfl⟩
      go_wp2_with fail
      refine (nNear HN2.out 0).mono ?_
      rintro e w3 ⟨rfl, rfl⟩
      go_wp2_with fail
      refine (nWhole HN2.out).mono ?_
      rintro e w3 ⟨rfl, rfl⟩
      go_wp2
      go_roundw
      case rel => exact ⟨k + 1, by omega, by go_num, Lib.hid (.inr ⟨_, rfl, self_cell (heap_new2 _ _ _) 0 _ rfl⟩), Lib.hid (below_one HB2.out _)⟩
      case measure => simp [intOf]; omega
    · obtain rfl : k = 2 := by omega
      rw [show ((2 : Nat) : Int) = 2 from rfl]
      clear HN heq hgd
      go_wp2_with fail
      refine (zNewBad 0 5 _ (by omega)).mono ?_
      rintro e w1 ⟨rfl, hb⟩
      have HB1 := Lib.hid (below_then HB.out hb)
      clear hb HB
      go_wp2_with fail
      refine (zNewBad 9 5 _ (by omega)).mono ?_
      rintro e w2 ⟨rfl, hb⟩
      have HB2 := Lib.hid (below_then HB1.out hb)
      clear hb HB1
      go_wp2_with fail
      refine (zNewBad 1 0 _ (by omega)).mono ?_
      rintro e w3 ⟨rfl, hb⟩
      have HB3 := Lib.hid (below_then HB2.out hb)
      clear hb HB2
      go_wp2_with fail
      refine (zNewBad 8 1025 _ (by omega)).mono ?_
      rintro e w3b ⟨rfl, hb⟩
      have HB4 := Lib.hid (below_then HB3.out hb)
      clear hb HB3
      go_wp2_with fail
      refine (tNew (W := W) 8 1024 8 1024 (ini 1024) rfl rfl rfl (by decide) (by decide) HB4.out).mono ?_
      rintro e w5 ⟨z, N, rfl, hz⟩
      have HZ := Lib.hid hz
      have HWH := Lib.hid (ini_whole (m := 1024) (n := 8) (by decide) (by decide))
      clear hz HB4
      go_wp2_with fail
      refine (tWhole HZ.out true HWH.out.1).mono ?_
      rintro e w6 ⟨rfl, hz, _⟩
      have HZ6 := Lib.hid hz
      clear hz HZ
      go_wp2_with fail
      refine (tLeft HZ6.out 1024 HWH.out.2).mono ?_
      rintro e w4 ⟨rfl, hz, _⟩
      have HB := Lib.hid hz.low
      clear hz HZ6
      go_wp2
      go_loopw [17, 18] (fun v i wx => ∃ j : Nat, j ≤ 10 ∧ i = .int .i64 j ∧ Hid (Dos wx w4.heap.size v j) ∧ Hid (Below w4.heap.size w4 wx)) (fun _ i _ => 10 - (intOf i).toNat)
      case atStart => exact ⟨0, by omega, rfl, Lib.hid ⟨[], ⟨rfl, fun x hx => by simp at hx⟩, World.ownsRow_nil _ _ _ _⟩, Lib.hid (Below.refl _ _)⟩
      case round =>
        obtain ⟨j, hj, rfl, HD, HX⟩ := hrel
        obtain ⟨l, hl, hown⟩ := HD.out
        obtain ⟨xs, hxs⟩ : ∃ xs, qds l = xs := ⟨_, rfl⟩
        rw [hxs] at hown
        have HL := Lib.hid (And.intro hl hxs)
        have hz := HX.out.size
        have HO := Lib.hid hown
        clear hl hxs hown HD
        by_cases hlt : j < 10
        · obtain ⟨X, hX⟩ : ∃ X : Nat, j % 2 = X := ⟨_, rfl⟩
          obtain ⟨Y, hY⟩ : ∃ Y : Nat, j % 9 = Y := ⟨_, rfl⟩
          have hX1 : (j : Int).tmod 2 = (X : Int) := by rw [Int.tmod_eq_emod_of_nonneg (by omega)]; omega
          have hX2 : (j : Int) % 2 = (X : Int) := by omega
          have hY1 : (j : Int).tmod 9 = (Y : Int) := by rw [Int.tmod_eq_emod_of_nonneg (by omega)]; omega
          have hY2 : (j : Int) % 9 = (Y : Int) := by omega
          clear hX hY
          go_wp2_with (at_builtin; refine wpList_append_own_at _ (by rfl) _ _ 22 (by rfl) w4.heap.size 32 i0 _ 4 32 Try.underlying22 hi hz0 hz1 hz2 (by rfl) (by decide) _ j xs (by rfl) (HO.out.alloc _) ⟨_, 0, none⟩ 1 1 [.int .i64 0, .int .i64 (X : Int), .int .i64 0, .int .i64 (Y : Int)] (by rfl) (by rfl) (new4 _ _ _ _ _ _) (by intro u hu; simp at hu; rcases hu with rfl | rfl | rfl | rfl <;> rfl) (by unfold maxLen; omega) (by omega) (by first | omega | (rw [size_alloc]; omega)) ?_)
          intro v5 w5' hown5 hg5 _ _
          have HD5 : Hid (Dos w5' w4.heap.size v5 (j + 1)) := Lib.hid (Dos.more HL.out.1 (wf_small 0 (by decide)) (by rw [HL.out.2]; exact hown5))
          have HB5 : Hid (Below w4.heap.size w4 w5') := Lib.hid ((below_one HX.out _).grown hg5 (by rw [size_alloc]; omega) (own_ge HO.out))
          clear hown5 hg5 HO HL HX hz hX1 hX2 hY1 hY2
          go_wp2
          go_roundw
          case rel => exact ⟨j + 1, by omega, by go_num, HD5, HB5⟩
          case measure => simp [intOf]; omega
        · obtain rfl : j = 10 := by omega
          rw [show ((10 : Nat) : Int) = 10 from rfl]
          have HD0 : Hid (Dos wr w4.heap.size _ 10) := Lib.hid ⟨l, HL.out.1, by rw [HL.out.2]; exact HO.out⟩
          clear HO HL hz
          go_wp2
          go_loopw [17, 19] (fun v i wx => ∃ j : Nat, j ≤ 10 ∧ i = .int .i64 j ∧ Hid (Dos wx w4.heap.size v (10 + j)) ∧ Hid (Below w4.heap.size w4 wx)) (fun _ i _ => 10 - (intOf i).toNat)
          case atStart => exact ⟨0, by omega, rfl, HD0, HX⟩
          case round =>
            obtain ⟨j, hj, rfl, HD, HX2⟩ := hrel
            obtain ⟨l2, hl, hown⟩ := HD.out
            obtain ⟨xs, hxs⟩ : ∃ xs, qds l2 = xs := ⟨_, rfl⟩
            rw [hxs] at hown
            have HL := Lib.hid (And.intro hl hxs)
            have hz := HX2.out.size
            have HO := Lib.hid hown
            clear hl hxs hown HD
            by_cases hlt2 : j < 10
            · go_wp2_with (at_builtin; refine wpList_append_own_at _ (by rfl) _ _ 22 (by rfl) w4.heap.size 32 i0 _ 4 32 Try.underlying22 hi hz0 hz1 hz2 (by rfl) (by decide) _ (10 + j) xs (by rfl) (HO.out.alloc _) ⟨_, 0, none⟩ 1 1 [.int .i64 2, .int .i64 1, .int .i64 (j : Int), .int .i64 0] (by rfl) (by rfl) (new4 _ _ _ _ _ _) (by intro u hu; simp at hu; rcases hu with rfl | rfl | rfl | rfl <;> rfl) (by unfold maxLen; omega) (by omega) (by first | omega | (rw [size_alloc]; omega)) ?_)
              intro v5 w5' hown5 hg5 _ _
              have HD5 : Hid (Dos w5' w4.heap.size v5 (10 + (j + 1))) := Lib.hid (Dos.more HL.out.1 (wf_small j (by omega)) (by rw [HL.out.2]; exact hown5))
              have HB5 : Hid (Below w4.heap.size w4 w5') := Lib.hid ((below_one HX2.out _).grown hg5 (by rw [size_alloc]; omega) (own_ge HO.out))
              clear hown5 hg5 HO HL HX2 hz
              go_wp2
              go_roundw
              case rel => exact ⟨j + 1, by omega, by go_num, HD5, HB5⟩
              case measure => simp [intOf]; omega
            · obtain rfl : j = 10 := by omega
              rw [show ((10 : Nat) : Int) = 10 from rfl]
              go_wp2_with (at_builtin; refine wpList_append_own_at _ (by rfl) _ _ 22 (by rfl) w4.heap.size 32 i0 _ 4 32 Try.underlying22 hi hz0 hz1 hz2 (by rfl) (by decide) _ (10 + 10) xs (by rfl) (HO.out.alloc _) ⟨_, 0, none⟩ 16 16 (qds ends) (by rfl) (by rfl) (World.news_of_block (cs := (qds ends).toArray) (t := 32) (fr := (0, 0)) (heap_new _ _)) (qds_one ends) (by unfold maxLen; omega) (by omega) (by first | omega | (rw [size_alloc]; omega)) ?_)
              intro v5 w5' hown5 hg5 _ _
              have HD5 : Hid (Dos w5' w4.heap.size v5 (10 + 10 + 16)) := Lib.hid (Dos.many (m := ends) HL.out.1 rfl ends_wf (by rw [HL.out.2]; exact hown5))
              have HB5 : Hid (Below W.heap.size W w5') := Lib.hid (below_then HB.out ((below_one HX2.out _).grown hg5 (by rw [size_alloc]; omega) (own_ge HO.out)))
              obtain ⟨l5, hs5, hw5⟩ := HD5.out.shows
              have HS5 := Lib.hid (And.intro hs5 hw5)
              clear hown5 hg5 HO HL HX HX2 hz HD5 hs5 hw5 HB
              go_wp2
              go_loopw [20] (fun i wx => ∃ y : Int, i = .int .i64 y ∧ 1 ≤ y ∧ y ≤ 42 ∧ Hid (Below w5'.heap.size w5' wx)) (fun i _ => (42 - intOf i).toNat)
              case atStart => exact ⟨1, rfl, by omega, by omega, Lib.hid (Below.refl _ _)⟩
              case round =>
                obtain ⟨y, rfl, hy1, hy2, HX⟩ := hrel
                by_cases hy : y < 40
                · go_wp2_with fail
                  refine (walkPlays 2 y v5 l5 _ (HS5.out.1.below HX.out) HS5.out.2).mono ?_
                  rintro e w6 ⟨rfl, hb⟩
                  have H6 := Lib.hid (below_then HX.out hb)
                  clear hb HX
                  go_wp2_with fail
                  refine (walkPlays 8 y v5 l5 _ (HS5.out.1.below H6.out) HS5.out.2).mono ?_
                  rintro e w7 ⟨rfl, hb⟩
                  have H7 := Lib.hid (below_then H6.out hb)
                  clear hb H6
                  go_wp2_with fail
                  refine (walkFull y v5 l5 0 _ (HS5.out.1.below H7.out)).mono ?_
                  rintro e w8 ⟨rfl, hb⟩
                  have H8 := Lib.hid (below_then H7.out hb)
                  clear hb H7
                  go_wp2
                  go_roundw
                  case rel => exact ⟨y + 3, rfl, by omega, by omega, H8⟩
                  case measure => simp [intOf]; omega
                · go_wp2_with fail
                  refine (works _).mono ?_
                  rintro e w6 ⟨rfl, hb⟩
                  have H6 := Lib.hid (below_then HX.out hb)
                  clear hb HX
                  go_wp2_with fail
                  refine (walkPlays 9 5 v5 l5 _ (HS5.out.1.below H6.out) HS5.out.2).mono ?_
                  rintro e w7 ⟨rfl, hb⟩
                  have H7 := Lib.hid (below_then H6.out hb)
                  clear hb H6
                  go_wp2_with fail
                  refine (walkPlays 1 (-3) v5 l5 _ (HS5.out.1.below H7.out) HS5.out.2).mono ?_
                  rintro e w8 ⟨rfl, hb⟩
                  have H8 := Lib.hid (below_then HB5.out (below_then H7.out hb))
                  clear hb H7
                  go_wp2
                  go_ret
                  exact ⟨rfl, H8.out⟩
end Go.Proofs.Ytlljomnpdgmifaa
