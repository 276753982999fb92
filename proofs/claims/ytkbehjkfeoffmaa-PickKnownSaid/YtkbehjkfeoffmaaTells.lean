/-
  PickTells: Pick and Next answer as the document's.
-/
import Derived.Test.YtkbehjkfeoffmaaWorks
set_option linter.unusedVariables false
set_option linter.unusedSimpArgs false
namespace Go.Proofs.Ytkbehjkfeoffmaa
open Go Go.RowKit

theorem vrPick (u : Value) (l : List Bool) (x : Int) (V : Value) (hV : pairOf (pickF l x) = V) (hlen : l.length ≤ 1048576) (w : World) (hs : ShowB w u l) :
    Calls Try.prog 10 #[u, .int .i64 x] w fun e W' => e = .returned V ∧ Below w.heap.size w W' := by
  subst hV
  exact rPick u l x hlen w hs
theorem vrNext (u : Value) (l : List Bool) (x : Int) (V : Value) (hV : pairOf (nextF l x) = V) (hlen : l.length ≤ 1099511627776) (w : World) (hs : ShowB w u l) :
    Calls Try.prog 12 #[u, .int .i64 x] w fun e W' => e = .returned V ∧ Below w.heap.size w W' := by
  subst hV
  exact rNext u l x hlen w hs
set_option maxHeartbeats 4000000 in
set_option maxRecDepth 100000 in
theorem tells0 (u : Value) (l : List Bool) (n : Int) (c d : Int) (p q : Bool) (hp : pairOf (pickF l n) = .tuple #[.int .i64 c, .bool p]) (hq : pairOf (nextF l n) = .tuple #[.int .i64 d, .bool q]) (hlen : l.length ≤ 1048576) (W : World) (hs : ShowB W u l) :
    Calls Try.prog 3 #[u, .int .i64 n] W fun e W' => e = .returned (.bool true) ∧ Below W.heap.size W W' := by
  have HP := Lib.hid hp
  have HQ := Lib.hid hq
  have HL : Hid (l.length ≤ 1099511627776) := Lib.hid (by omega)
  have HLEN := Lib.hid hlen
  clear hp hq hlen
  go_enter Try.func3, Try.ntmps3
  go_wp2_with fail
  refine (vPick u l n _ HP.out HLEN.out _ hs).mono ?_
  rintro e w1 ⟨rfl, b1⟩
  have h1 := hs.below b1
  go_wp2_with fail
  refine (vrPick u l n _ HP.out HLEN.out _ h1).mono ?_
  rintro e w2 ⟨rfl, hb⟩
  have h2 := h1.below hb
  have b2 := below_then b1 hb
  clear hb
  go_wp2_with fail
  refine (vNext u l n _ HQ.out _ h2).mono ?_
  rintro e w3 ⟨rfl, hb⟩
  have h3 := h2.below hb
  have b3 := below_then b2 hb
  clear hb
  go_wp2_with fail
  refine (vrNext u l n _ HQ.out HL.out _ h3).mono ?_
  rintro e w4 ⟨rfl, hb⟩
  have b4 := below_then b3 hb
  clear hb
  go_wp2_with fail
  refine (works _).mono ?_
  rintro e w5 ⟨rfl, hb⟩
  have b5 := below_then b4 hb
  go_wp2
  go_ret
  exact ⟨rfl, b5⟩
theorem pair_form (o : Option Nat) : ∃ (c : Int) (p : Bool), pairOf o = .tuple #[.int .i64 c, .bool p] := by
  cases o with
  | none => exact ⟨0, false, rfl⟩
  | some c => exact ⟨c, true, rfl⟩
theorem walkTells (u : Value) (l : List Bool) (n : Int) (hlen : l.length ≤ 1048576) (W : World) (hs : ShowB W u l) :
    Calls Try.prog 3 #[u, .int .i64 n] W fun e W' => e = .returned (.bool true) ∧ Below W.heap.size W W' := by
  obtain ⟨c, p, hp⟩ := pair_form (pickF l n)
  obtain ⟨d, q, hq⟩ := pair_form (nextF l n)
  exact tells0 u l n c d p q hp hq hlen W hs
end Go.Proofs.Ytkbehjkfeoffmaa
