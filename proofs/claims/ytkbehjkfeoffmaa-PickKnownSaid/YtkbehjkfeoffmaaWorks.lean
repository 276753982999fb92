/-
  The statements' 'works' (the chapter's examples) answers true.
-/
import Derived.Test.YtkbehjkfeoffmaaRPick
import Derived.Test.YtkbehjkfeoffmaaGap
set_option linter.unusedVariables false
set_option linter.unusedSimpArgs false
namespace Go.Proofs.Ytkbehjkfeoffmaa
open Go Go.RowKit

theorem vPick (u : Value) (l : List Bool) (x : Int) (V : Value) (hV : pairOf (pickF l x) = V) (hlen : l.length ≤ 1048576) (w : World) (hs : ShowB w u l) :
    Calls Try.prog 9 #[u, .int .i64 x] w fun e W' => e = .returned V ∧ Below w.heap.size w W' := by
  subst hV
  exact cPick u l x hlen w hs
theorem vNext (u : Value) (l : List Bool) (x : Int) (V : Value) (hV : pairOf (nextF l x) = V) (w : World) (hs : ShowB w u l) :
    Calls Try.prog 11 #[u, .int .i64 x] w fun e W' => e = .returned V ∧ Below w.heap.size w W' := by
  subst hV
  exact cNext u l x w hs
theorem vTells (c : Int) (i : Bool) (x : Int) (b : Bool) (hb : (decide (c = x) && i) = b) (w : World) :
    Calls Try.prog 20 #[.int .i64 c, .bool i, .int .i64 x] w fun e w' => e = .returned (.bool b) ∧ w' = w := by
  subst hb
  exact cTells c i x w
theorem vGap (u : Value) (l : List Int) (c x : Int) (hx : (gapF l c : Int) = x) (w : World) (hs : ShowI w u l) :
    Calls Try.prog 14 #[u, .int .i64 c] w fun e w' => e = .returned (.int .i64 x) ∧ Below w.heap.size w w' := by
  subst hx
  exact cGap u l c w hs
theorem vFair (u : Value) (l : List Int) (n m : Int) (b : Bool) (hb : fairF l n m = b) (w : World) (hs : ShowI w u l) :
    Calls Try.prog 16 #[u, .int .i64 n, .int .i64 m] w fun e w' => e = .returned (.bool b) ∧ Below w.heap.size w w' := by
  subst hb
  exact cFair u l n m w hs
set_option maxHeartbeats 4000000 in
set_option maxRecDepth 100000 in
theorem works (w : World) : Calls Try.prog 13 #[] w fun e w' => e = .returned (.bool true) ∧ Below w.heap.size w w' := by
  go_enter Try.func13, Try.ntmps13
  have hr := lit_b w 4 [false, true, true] 3 rfl (by decide)
  have b0 := below_one (Below.refl _ w) (.cells (bls [false, true, true]).toArray 4)
  go_wp2_with fail
  refine (vPick _ [false, true, true] 0 (.tuple #[.int .i64 1, .bool true]) (by kernel_rfl) (by decide) _ hr).mono ?_
  rintro e w1 ⟨rfl, hb⟩
  have hr1 := hr.below hb
  have b1 := below_then b0 hb
  clear hb hr b0
  go_wp2_with fail
  refine (vPick _ [false, true, true] 3 (.tuple #[.int .i64 2, .bool true]) (by kernel_rfl) (by decide) _ hr1).mono ?_
  rintro e w2 ⟨rfl, hb⟩
  have hr2 := hr1.below hb
  have b2 := below_then b1 hb
  clear hb hr1 b1
  go_wp2_with fail
  refine (vPick _ [false, true, true] (-1) (.tuple #[.int .i64 2, .bool true]) (by kernel_rfl) (by decide) _ hr2).mono ?_
  rintro e w3 ⟨rfl, hb⟩
  have b3 := below_one (below_then b2 hb) (.cells (bls [false]).toArray 4)
  clear hb hr2 b2
  have hr := lit_b w3 4 [false] 1 rfl (by decide)
  go_wp2_with fail
  refine (vPick _ [false] 5 (.tuple #[.int .i64 0, .bool false]) (by kernel_rfl) (by decide) _ hr).mono ?_
  rintro e w4 ⟨rfl, hb⟩
  have b4 := below_one (below_then b3 hb) (.cells (bls [true, true, false]).toArray 4)
  clear hb hr b3
  have hr := lit_b w4 4 [true, true, false] 3 rfl (by decide)
  go_wp2_with fail
  refine (vNext _ [true, true, false] 1 (.tuple #[.int .i64 0, .bool true]) (by kernel_rfl) _ hr).mono ?_
  rintro e w5 ⟨rfl, hb⟩
  have b5 := below_one (below_then b4 hb) (.cells (bls [true, true, false]).toArray 4)
  clear hb hr b4
  have hr := lit_b w5 4 [true, true, false] 3 rfl (by decide)
  go_wp2_with fail
  refine (vNext _ [true, true, false] 0 (.tuple #[.int .i64 1, .bool true]) (by kernel_rfl) _ hr).mono ?_
  rintro e w6 ⟨rfl, hb⟩
  have b6 := below_one (below_then b5 hb) (.cells (bls [false, true]).toArray 4)
  clear hb hr b5
  have hr := lit_b w6 4 [false, true] 2 rfl (by decide)
  go_wp2_with fail
  refine (vNext _ [false, true] 1 (.tuple #[.int .i64 1, .bool true]) (by kernel_rfl) _ hr).mono ?_
  rintro e w7 ⟨rfl, hb⟩
  have b7 := below_one (below_then b6 hb) (.cells (bls [true]).toArray 4)
  clear hb hr b6
  have hr := lit_b w7 4 [true] 1 rfl (by decide)
  go_wp2_with fail
  refine (vNext _ [true] 9 (.tuple #[.int .i64 0, .bool true]) (by kernel_rfl) _ hr).mono ?_
  rintro e w8 ⟨rfl, hb⟩
  have b8 := below_one (below_then b7 hb) (.cells (nms [0, 1, 1, 0, 1]).toArray 3)
  clear hb hr b7
  have hl := lit_i w8 3 [0, 1, 1, 0, 1] 5 rfl (by decide)
  go_wp2_with fail
  refine (vTells 1 true 1 true rfl _).mono ?_
  rintro e _ ⟨rfl, rfl⟩
  go_wp2_with fail
  refine (vTells 2 true 2 true rfl _).mono ?_
  rintro e _ ⟨rfl, rfl⟩
  go_wp2_with fail
  refine (vTells 2 true 2 true rfl _).mono ?_
  rintro e _ ⟨rfl, rfl⟩
  go_wp2_with fail
  refine (vTells 0 true 0 true rfl _).mono ?_
  rintro e _ ⟨rfl, rfl⟩
  go_wp2_with fail
  refine (vTells 1 true 1 true rfl _).mono ?_
  rintro e _ ⟨rfl, rfl⟩
  go_wp2_with fail
  refine (vTells 1 true 1 true rfl _).mono ?_
  rintro e _ ⟨rfl, rfl⟩
  go_wp2_with fail
  refine (vTells 0 true 0 true rfl _).mono ?_
  rintro e _ ⟨rfl, rfl⟩
  go_wp2_with fail
  refine (vGap _ [0, 1, 1, 0, 1] 0 2 (by kernel_rfl) _ hl).mono ?_
  rintro e w9 ⟨rfl, hb⟩
  have hl9 := hl.below hb
  have b9 := below_then b8 hb
  clear hb hl b8
  go_wp2_with fail
  refine (vFair _ [0, 1, 1, 0, 1] 2 2 false (by kernel_rfl) _ hl9).mono ?_
  rintro e w10 ⟨rfl, hb⟩
  have hl10 := hl9.below hb
  have b10 := below_then b9 hb
  clear hb hl9 b9
  go_wp2_with fail
  refine (vFair _ [0, 1, 1, 0, 1] 2 3 true (by kernel_rfl) _ hl10).mono ?_
  rintro e w11 ⟨rfl, hb⟩
  have b11 := below_then b10 hb
  go_wp2
  go_ret
  exact ⟨rfl, b11⟩
end Go.Proofs.Ytkbehjkfeoffmaa
