/-
  The law TreeKnown, walked: trees that are none; two lists of calls that grow.
-/
import Derived.Test.YtbdlkglngjjpjaaPaths
import Derived.Test.YtbdlkglngjjpjaaPlays
set_option linter.unusedVariables false
set_option linter.unusedSimpArgs false
namespace Go.Proofs.Ytbdlkglngjjpjaa
open Go Go.RowKit

section
variable {w w' w5 : World} {q : Option Addr} {b n m : Nat} {u v v5 : Value} {o : Obj}
/-- a tree that is none -/
def ZN (w : World) (q : Option Addr) : Prop := q = none ∨ ∃ B, q = some ⟨B, 0, none⟩ ∧ w.heap[B]? = some (.cells #[.slice none 0 0] 49 (0, 0))
theorem ZN.below (h : ZN w q) (hb : Below w.heap.size w w') : ZN w' q := by
  rcases h with e | ⟨B, e, h⟩
  · exact .inl e
  · exact .inr ⟨B, e, keep_block h hb⟩
theorem ZN.tq (h : ZN w q) : TQ w q zeroT := .inr ⟨rfl, h⟩
theorem zParent (h : ZN w q) : Calls Try.prog 21 #[.pointer q, .int .i64 1] w fun e w' => e = .returned (.int .i64 0) ∧ w' = w := cParent h.tq 1 0 rfl
theorem zOnline (h : ZN w q) : Calls Try.prog 24 #[.pointer q, .int .i64 1] w fun e w' => e = .returned (.bool false) ∧ w' = w := cOnline h.tq 1 false rfl
theorem zMany (h : ZN w q) : Calls Try.prog 18 #[.pointer q] w fun e w' => e = .returned (.int .i64 0) ∧ w' = w := cMany h.tq
theorem zDepth (h : ZN w q) : Calls Try.prog 20 #[.pointer q, .int .i64 1] w fun e w' => e = .returned (.int .i64 0) ∧ Below w.heap.size w w' := cDepth (d := 0) (by decide) h.tq
theorem zHeir (h : ZN w q) : Calls Try.prog 23 #[.pointer q, .int .i64 1] w fun e w' => e = .returned (.int .i64 0) ∧ Below w.heap.size w w' := cHeir (q := 0) (by decide) h.tq
theorem zBelow (h : ZN w q) : Calls Try.prog 22 #[.pointer q, .int .i64 1, .int .i64 1] w fun e w' => e = .returned (.bool false) ∧ Below w.heap.size w w' := cBelow (q := false) (by decide) h.tq
theorem zPath (h : ZN w q) : Calls Try.prog 19 #[.pointer q, .int .i64 1] w fun e w' => ∃ ao cap, e = .returned (.slice ao 0 cap) ∧ Below w.heap.size w w' := by
  refine (cPath (l := []) (by decide) h.tq).mono ?_
  rintro e w' ⟨ao, cap, rfl, _, hb⟩
  exact ⟨ao, cap, rfl, hb⟩
/-- a row of calls of one's own, as many as that -/
def Dos (w : World) (b : Nat) (v : Value) (n : Nat) : Prop := ∃ l : List Wt, l.length = n ∧ w.ownsRow b 29 2 v n (wts l)
theorem Dos.below (h : Dos w b v n) (hb : Below w.heap.size w w') : Dos w' b v n := by
  obtain ⟨l, h1, h2⟩ := h
  exact ⟨l, h1, own_below h2 hb⟩
theorem Dos.shows (h : Dos w b v n) : ∃ l : List Wt, l.length = n ∧ ShowW w v l := by
  obtain ⟨l, h1, h2⟩ := h
  subst h1
  exact ⟨l, rfl, Shows.ofOwns h2⟩
theorem Dos.many {l k : List Wt} (hl : l.length = n) (hk : k.length = m) (h : w.ownsRow b 29 2 v (n + m) (wts l ++ wts k)) : Dos w b v (n + m) :=
  ⟨l ++ k, by simp [hl, hk], by rw [wts_append]; exact h⟩
/-- two such rows, apart -/
structure Mix (w : World) (b : Nat) (v : Value) (n : Nat) (u : Value) (m : Nat) : Prop where
  l : Dos w b v n
  r : Dos w b u m
  ap : ∀ k, v.ownBlock = some k → u.ownBlock ≠ some k
theorem Mix.symm (h : Mix w b v n u m) : Mix w b u m v n := ⟨h.r, h.l, fun k h1 h2 => h.ap k h2 h1⟩
theorem Mix.below (h : Mix w b v n u m) (hb : Below w.heap.size w w') : Mix w' b v n u m := ⟨h.l.below hb, h.r.below hb, h.ap⟩
theorem Mix.more (h : Mix w b v n u m) {n' : Nat} (hg : (w.alloc o).grownBy w5 v.ownBlock) (h5 : Dos w5 b v5 n') (hw : v5.ownBlock = v.ownBlock ∨ v5.ownBlock = some (w.heap.size + 1)) : Mix w5 b v5 n' u m := by
  obtain ⟨l, h1, h2⟩ := h.r
  have hlt := own_lt h2
  refine ⟨h5, ⟨l, h1, (h2.alloc o).kept hg ?_⟩, fun k h3 h4 => ?_⟩
  · cases hv : v.ownBlock with
    | none =>
      cases hu : u.ownBlock with
      | none => exact .inl rfl
      | some j => exact .inr (by simp)
    | some j =>
      right
      exact h.ap j hv
  · rcases hw with e | e
    · exact h.ap k (by rw [← e]; exact h3) h4
    · rw [e] at h3
      cases h3
      have := hlt _ h4
      omega
end
def moreL : List Wt := [⟨1, 4⟩, ⟨1, 4⟩, ⟨1, 8⟩, ⟨1, 7⟩, ⟨0, 7⟩, ⟨0, 4⟩, ⟨0, 5⟩, ⟨1, 0⟩, ⟨1, 1⟩, ⟨1, 17⟩, ⟨1, -1⟩]
set_option maxHeartbeats 8000000 in
set_option maxRecDepth 100000 in
theorem walkKnown (W : World) : Calls Try.prog 7 #[] W fun e W' => e = .returned (.bool true) ∧ Below W.heap.size W W' := by
  obtain ⟨i0, hi, hz0, hz1, hz2⟩ := info_parts infoW
  go_enter Try.func7, Try.ntmps7
  go_wp2
  go_loopw [1, 2] (fun p i wr => ∃ (k : Nat) (q : Option Addr), k ≤ 2 ∧ i = .int .i64 k ∧ p = .pointer q ∧ Hid (ZN wr q) ∧ Hid (Below W.heap.size W wr)) (fun _ i _ => 2 - (intOf i).toNat)
  case atStart => exact ⟨0, none, by omega, rfl, rfl, Lib.hid (.inl rfl), Lib.hid (Below.refl _ _)⟩
  case round =>
    obtain ⟨k, q, hk, rfl, rfl, HN, HB⟩ := hrel
    by_cases hlt : k < 2
    · go_wp2_with fail
      refine (zAdd HN.out 1).mono ?_
      rintro e w1 ⟨rfl, rfl⟩
      go_wp2_with fail
      refine (zOffline HN.out 1).mono ?_
      rintro e w1 ⟨rfl, rfl⟩
      go_wp2_with fail
      refine (zParent HN.out).mono ?_
      rintro e w1 ⟨rfl, rfl⟩
      go_wp2_with fail
      refine (zDepth HN.out).mono ?_
      rintro e w2 ⟨rfl, hb⟩
      have HN2 := Lib.hid (HN.out.below hb)
      have HB2 := Lib.hid (below_then HB.out hb)
      clear hb
      go_wp2_with fail
      refine (zHeir HN2.out).mono ?_
      rintro e w3 ⟨rfl, hb⟩
      have HN3 := Lib.hid (HN2.out.below hb)
      have HB3 := Lib.hid (below_then HB2.out hb)
      clear hb
      go_wp2_with fail
      refine (zMany HN3.out).mono ?_
      rintro e w4 ⟨rfl, rfl⟩
      go_wp2_with fail
      refine (zPath HN3.out).mono ?_
      rintro e w5 ⟨ao, cap, rfl, hb⟩
      have HN5 := Lib.hid (HN3.out.below hb)
      have HB5 := Lib.hid (below_then HB3.out hb)
      clear hb
      go_wp2_with fail
      refine (zOnline HN5.out).mono ?_
      rintro e w6 ⟨rfl, rfl⟩
      go_wp2_with fail
      refine (zBelow HN5.out).mono ?_
      rintro e w7 ⟨rfl, hb⟩
      have HB7 := Lib.hid (below_then HB5.out hb)
      clear hb
      go_wp2
      go_roundw
      case rel => exact ⟨k + 1, _, by omega, by go_num, rfl, Lib.hid (.inr ⟨_, rfl, heap_new _ _⟩), Lib.hid (below_one HB7.out _)⟩
      case measure => simp [intOf]; omega
    · obtain rfl : k = 2 := by omega
      rw [show ((2 : Nat) : Int) = 2 from rfl]
      obtain ⟨w4, hw4⟩ : ∃ w4, wr = w4 := ⟨_, rfl⟩
      rw [hw4] at HB ⊢
      clear HN hw4
      go_wp2
      go_loopw [5, 6, 7] (fun v u i wx => ∃ j : Nat, j ≤ 20 ∧ i = .int .i64 j ∧ Hid (Mix wx w4.heap.size v j u j) ∧ Hid (Below w4.heap.size w4 wx)) (fun _ _ i _ => 20 - (intOf i).toNat)
      case atStart => exact ⟨0, by omega, rfl, Lib.hid ⟨⟨[], rfl, World.ownsRow_nil _ _ _ _⟩, ⟨[], rfl, World.ownsRow_nil _ _ _ _⟩, fun k h => by cases h⟩, Lib.hid (Below.refl _ _)⟩
      case round =>
        obtain ⟨j, hj, rfl, HD, HX⟩ := hrel
        by_cases hlt : j < 20
        · obtain ⟨l, hl, hown⟩ := HD.out.l
          obtain ⟨xs, hxs⟩ : ∃ xs, wts l = xs := ⟨_, rfl⟩
          rw [hxs] at hown
          have HL := Lib.hid (And.intro hl hxs)
          have hz := HX.out.size
          have HO := Lib.hid hown
          clear hl hxs hown
          go_wp2_with (at_builtin; refine wpList_append_own_at _ (by rfl) _ _ 22 (by rfl) w4.heap.size 29 i0 _ 2 16 Try.underlying22 hi hz0 hz1 hz2 (by rfl) (by decide) _ j xs (by rfl) (HO.out.alloc _) ⟨_, 0, none⟩ 1 1 [.int .i64 0, .int .i64 (j : Int)] (by rfl) (by rfl) (new2 _ _ _ _) (by intro u hu; simp at hu; rcases hu with rfl | rfl <;> rfl) (by unfold maxLen; omega) (by omega) (by rw [size_alloc]; omega) ?_)
          intro v5 w5 hown5 hg5 _ hwh5
          have HM5 : Hid (Mix w5 w4.heap.size v5 (j + 1) u6 j) := Lib.hid (HD.out.more hg5 (Dos.many (k := [⟨0, j⟩]) HL.out.1 rfl (by rw [HL.out.2]; exact hown5)) hwh5)
          have HB5 : Hid (Below w4.heap.size w4 w5) := Lib.hid ((below_one HX.out _).grown hg5 (by rw [size_alloc]; omega) (own_ge HO.out))
          clear hown5 hg5 hwh5 HO HL HX hz HD
          obtain ⟨l, hl, hown⟩ := HM5.out.r
          obtain ⟨xs, hxs⟩ : ∃ xs, wts l = xs := ⟨_, rfl⟩
          rw [hxs] at hown
          have HL := Lib.hid (And.intro hl hxs)
          have hz := HB5.out.size
          have HO := Lib.hid hown
          clear hl hxs hown
          go_wp2_with (at_builtin; refine wpList_append_own_at _ (by rfl) _ _ 22 (by rfl) w4.heap.size 29 i0 _ 2 16 Try.underlying22 hi hz0 hz1 hz2 (by rfl) (by decide) _ j xs (by rfl) (HO.out.alloc _) ⟨_, 0, none⟩ 1 1 [.int .i64 0, .int .i64 1] (by rfl) (by rfl) (new2 _ _ _ _) (by intro u hu; simp at hu; rcases hu with rfl | rfl <;> rfl) (by unfold maxLen; omega) (by omega) (by rw [size_alloc]; omega) ?_)
          intro v6 w6 hown6 hg6 _ hwh6
          have HM6 : Hid (Mix w6 w4.heap.size v5 (j + 1) v6 (j + 1)) := Lib.hid ((HM5.out.symm.more hg6 (Dos.many (k := [⟨0, 1⟩]) HL.out.1 rfl (by rw [HL.out.2]; exact hown6)) hwh6).symm)
          have HB6 : Hid (Below w4.heap.size w4 w6) := Lib.hid ((below_one HB5.out _).grown hg6 (by rw [size_alloc]; omega) (own_ge HO.out))
          clear hown6 hg6 hwh6 HO HL HB5 hz HM5
          go_wp2
          go_roundw
          case rel => exact ⟨j + 1, by omega, by go_num, HM6, HB6⟩
          case measure => simp [intOf]; omega
        · obtain rfl : j = 20 := by omega
          rw [show ((20 : Nat) : Int) = 20 from rfl]
          obtain ⟨ld, hld, hsd⟩ := HD.out.l.shows
          have HSD := Lib.hid hsd
          have HE : Hid (OwnW wr.heap.size (wr.alloc (.cells #[] 29)) (.slice (some ⟨wr.heap.size, 0, none⟩) 0 0) []) := Lib.hid (World.ownsRow_lit (base := wr.heap.size) (e := 29) (size := 2) wr #[] 0 (Nat.le_refl _) (by decide) rfl)
          have HLD := Lib.hid hld
          clear hsd hld
          go_wp2_with (at_builtin; refine wpList_appendW (by rfl) _ _ (by rfl) wr.heap.size _ _ [] ld (by rfl) (by rfl) HE.out (HSD.out.below (below_one (Below.refl _ _) _)) (by rw [HLD.out]; decide) (by rw [size_alloc]; omega) ?_)
          intro ao cap w5 hown5 hb5
          have HB5 := Lib.hid hb5
          have hz5 := hb5.size
          obtain ⟨xs, hxs⟩ : ∃ xs, wts ld = xs := ⟨_, rfl⟩
          have HXS := Lib.hid hxs
          have HO5 : Hid (w5.ownsRow wr.heap.size 29 2 (.slice ao 20 cap) 20 xs) := Lib.hid (by
            have h1 : w5.ownsRow wr.heap.size 29 2 (.slice ao ([] ++ ld).length cap) ([] ++ ld).length (wts ([] ++ ld)) := hown5
            rw [List.nil_append, HLD.out, hxs] at h1
            exact h1)
          rw [HLD.out]
          clear hown5 hb5 hxs
          go_wp2_with (at_builtin; refine wpList_append_own_at _ (by rfl) _ _ 22 (by rfl) wr.heap.size 29 i0 _ 2 16 Try.underlying22 hi hz0 hz1 hz2 (by rfl) (by decide) _ 20 xs (by rfl) (HO5.out.alloc _) ⟨_, 0, none⟩ 11 11 (wts moreL) (by rfl) (by rfl) (World.news_of_block (cs := (wts moreL).toArray) (t := 29) (fr := (0, 0)) (heap_new _ _)) (wts_one moreL) (by unfold maxLen; omega) (by omega) (by rw [size_alloc]; rw [size_alloc] at hz5; omega) ?_)
          intro v7 w7 hown7 hg7 _ _
          have HD7 : Hid (Dos w7 wr.heap.size v7 (20 + 11)) := Lib.hid (Dos.many (k := moreL) HLD.out rfl (by rw [HXS.out]; exact hown7))
          have HB7 : Hid (Below wr.heap.size wr w7) := Lib.hid ((((below_one (Below.refl _ _) _).trans HB5.out).alloc (by rw [size_alloc] at hz5; omega) _).grown hg7 (by rw [size_alloc]; rw [size_alloc] at hz5; omega) (own_ge HO5.out))
          have HM7 : Hid (Mix w7 w4.heap.size u5 20 u6 20) := Lib.hid (HD.out.below HB7.out)
          have HW7 : Hid (Below W.heap.size W w7) := Lib.hid (below_then HB.out (below_then HX.out HB7.out))
          clear hown7 hg7 HO5 HB5 HXS hz5 HSD HE HLD HB7 HX HB HD
          go_wp2_with fail
          refine (works _).mono ?_
          rintro e w8 ⟨rfl, hb⟩
          have H8 := Lib.hid (And.intro (HM7.out.below hb) (And.intro (HD7.out.below hb) (below_then HW7.out hb)))
          clear hb HM7 HD7 HW7
          go_wp2_with fail
          refine (walkPlays _ [] _ (ShowW.nil _)).mono ?_
          rintro e w9 ⟨rfl, hb⟩
          have H9 := Lib.hid (And.intro (H8.out.1.below hb) (And.intro (H8.out.2.1.below hb) (below_then H8.out.2.2 hb)))
          clear hb H8
          go_wp2_with fail
          obtain ⟨l9, _, hs9⟩ := H9.out.1.l.shows
          refine (walkPlays _ l9 _ hs9).mono ?_
          clear hs9
          rintro e w10 ⟨rfl, hb⟩
          have H10 := Lib.hid (And.intro (H9.out.1.below hb) (And.intro (H9.out.2.1.below hb) (below_then H9.out.2.2 hb)))
          clear hb H9
          go_wp2_with fail
          obtain ⟨l10, _, hs10⟩ := H10.out.1.r.shows
          refine (walkPlays _ l10 _ hs10).mono ?_
          clear hs10
          rintro e w11 ⟨rfl, hb⟩
          have H11 := Lib.hid (And.intro (H10.out.1.below hb) (And.intro (H10.out.2.1.below hb) (below_then H10.out.2.2 hb)))
          clear hb H10
          go_wp2_with fail
          obtain ⟨l11, _, hs11⟩ := H11.out.2.1.shows
          refine (walkPlays _ l11 _ hs11).mono ?_
          clear hs11
          rintro e w12 ⟨rfl, hb⟩
          have H12 := Lib.hid (And.intro (H11.out.1.below hb) (And.intro (H11.out.2.1.below hb) (below_then H11.out.2.2 hb)))
          clear hb H11
          go_wp2_with fail
          obtain ⟨l12, _, hs12⟩ := H12.out.1.l.shows
          refine (walkPaths _ l12 _ hs12).mono ?_
          clear hs12
          rintro e w13 ⟨rfl, hb⟩
          have H13 := Lib.hid (And.intro (H12.out.1.below hb) (And.intro (H12.out.2.1.below hb) (below_then H12.out.2.2 hb)))
          clear hb H12
          go_wp2_with fail
          obtain ⟨l13, _, hs13⟩ := H13.out.2.1.shows
          refine (walkHeirs _ l13 _ hs13).mono ?_
          clear hs13
          rintro e w14 ⟨rfl, hb⟩
          have H14 := Lib.hid (below_then H13.out.2.2 hb)
          clear hb H13
          go_wp2
          go_ret
          exact ⟨rfl, H14.out⟩
end Go.Proofs.Ytbdlkglngjjpjaa
