/-
  Pick, of the program: the processors that run, gone through by a range function; the one that a number tells.
-/
import Derived.Test.YtkbehjkfeoffmaaRNext
import Derived.RangeFuncBox
import Derived.RangeFuncLeaves
import Derived.RangeFuncNested
import Derived.RangeFuncBound
import Derived.RangeFuncCalls
import Derived.Shelf.Abstract
import Derived.Shelf.RegionOpen
import Derived.OwnWalkIn
import Derived.TacticsInMore
import Derived.LoopNIn
import Derived.LoopIn
set_option linter.unusedVariables false
set_option linter.unusedSimpArgs false
namespace Go.Proofs.Ytkbehjkfeoffmaa
open Go Go.RowKit Go.Shelf

attribute [local go_sem] Oper.semAt_some

/-- those below k that run, in increasing order -/
def idx (l : List Bool) (k : Nat) : List Nat := (List.range k).filter (run l)
theorem idx_yes {l : List Bool} {k : Nat} (h : run l k = true) : idx l (k + 1) = idx l k ++ [k] := by simp [idx, List.range_succ, List.filter_append, h]
theorem idx_no {l : List Bool} {k : Nat} (h : run l k = false) : idx l (k + 1) = idx l k := by simp [idx, List.range_succ, List.filter_append, h]
theorem idx_le (l : List Bool) (k : Nat) : (idx l k).length ≤ k := by
  have := List.length_filter_le (run l) (List.range k)
  simpa [idx] using this
/-- what Pick answers -/
def pickF (l : List Bool) (n : Int) : Option Nat := if idx l l.length = [] then none else some ((idx l l.length).getD (bring n (idx l l.length).length) 0)
abbrev nats (l : List Nat) : List Value := l.map fun i : Nat => Value.int .i64 (i : Int)

set_option maxHeartbeats 2000000 in
set_option maxRecDepth 100000 in
theorem those1_in (F : Fence) (n : Nat) (hf : F.fn 21) (hro : F.round = none) (hn : 1 ≤ n) (r Bs n₀ : Nat) (ao : Option Addr) (cap : Nat) (l : List Bool) (hcap : l.length ≤ cap ∧ cap ≤ 9223372036854775807) (J Jx : List Nat → World → Prop)
    (hY : ∀ pre (x : Nat) W, J pre W → pre.length < l.length → YieldAt F (n - 1) Try.prog r #[.int .i64 (x : Int)] W fun e W' =>
      (e = .returned (.bool true) ∧ J (pre ++ [x]) W' ∧ Below n₀ W W') ∨ (e = .returned (.bool false) ∧ Jx (pre ++ [x]) W'))
    (W : World) (hBs : W.cell? ⟨Bs, 0, none⟩ = some (.slice ao l.length cap)) (hat : ∀ i, i < l.length → ∃ b o, ao = some ⟨b, o, none⟩ ∧ b < n₀ ∧ W.cell? ⟨b, o + i, none⟩ = some (.bool (run l i))) (h0 : J [] W) :
    CallsIn F n Try.prog 21 #[.func (.yield r) #[] #[], .pointer (some ⟨Bs, 0, none⟩)] W fun e W' => (∃ v, e = .returned v) ∧
      ((∃ ys, ys = idx l l.length ∧ J ys W') ∨ (∃ pre : List Nat, True ∧ Jx pre W')) := by
  refine callsIn_of_wp Try.func21 rfl hf ?_ hro
  simp only [Try.ntmps21, List.size_toArray, List.length_cons, List.length_nil, Nat.reduceAdd, Nat.reduceSub, Array.replicate_succ, Array.replicate_zero, List.push_toArray, List.append_toArray, List.nil_append, List.cons_append]
  gi_wp2
  gi_loopw [7] (fun i wr => ∃ k : Nat, k ≤ l.length ∧ i = .int .i64 k ∧ J (idx l k) wr ∧ Below n₀ W wr)
    (fun i _ => l.length - (intOf i).toNat)
  case atStart => exact ⟨0, Nat.zero_le _, rfl, h0, Below.refl _ _⟩
  case round =>
    obtain ⟨k, hk, rfl, hJs, hnx⟩ := hrel
    by_cases hlt : k < l.length
    · obtain ⟨b, o, rfl, hb, hc⟩ := hat k hlt
      have hcx : wr.cell? ⟨b, o + k, none⟩ = some (.bool (run l k)) := (hnx.cell (p := ⟨b, o + k, none⟩) hb).trans hc
      have HY := Lib.hid (idx_yes (l := l) (k := k))
      have HN := Lib.hid (idx_no (l := l) (k := k))
      generalize run l k = q at hcx HY HN
      clear hc
      cases q
      · have HN1 := Lib.hid (HN.out rfl)
        clear HY HN
        gi_wp2
        refine ⟨fun _ h => (by cases h), ?_⟩
        gi_wp2
        go_roundw
        case rel => exact ⟨k + 1, by omega, by simp, by rw [HN1.out]; exact hJs, hnx⟩
        case measure => simp [intOf]; omega
      · obtain ⟨fn, tmps, assign, body, hy, hR⟩ := hY _ k wr hJs (by have := idx_le l k; omega)
        have HY1 := Lib.hid (HY.out rfl)
        clear HY HN
        gi_wp2
        refine hR.mono ?_
        rintro e W3 (⟨rfl, hJ3, hk3⟩ | ⟨rfl, hJx3⟩)
        · gi_wp2
          go_roundw
          case rel => exact ⟨k + 1, by omega, by simp, by rw [HY1.out]; exact hJ3, hnx.trans hk3⟩
          case measure => simp [intOf]; omega
        · gi_wp2
          refine bodyPost_ret (results_none rfl _ _ _) rfl ?_
          exact ⟨⟨_, rfl⟩, .inr ⟨_, trivial, hJx3⟩⟩
    · obtain rfl : k = l.length := by omega
      gi_wp2
      go_end0
      exact ⟨⟨_, rfl⟩, .inl ⟨_, rfl, hJs⟩⟩

set_option maxHeartbeats 1000000 in
theorem those_in (F : Fence) (n : Nat) (hf : F.fn 19) (hro : F.round = none) (a : Option Addr) (len cap : Nat) (w : World) :
    CallsIn F n Try.prog 19 #[.slice a len cap] w fun e w' => e = .returned (.func (.func 21) #[] #[.pointer (some ⟨w.heap.size, 0, none⟩)]) ∧ w' = w.alloc (.cells #[.slice a len cap] 22) := by
  refine callsIn_of_wp Try.func19 rfl hf ?_ hro
  simp only [Try.ntmps19, List.size_toArray, List.length_cons, List.length_nil, Nat.reduceAdd, Nat.reduceSub, Array.replicate_succ, Array.replicate_zero, List.push_toArray, List.append_toArray, List.nil_append, List.cons_append]
  gi_wp2
  go_ret
  exact ⟨rfl, rfl⟩
theorem those_stops (F : Fence) (n : Nat) (hf : F.fn 21) (hro : F.round = none) (hn : 1 ≤ n) (Bs n₀ : Nat) (ao : Option Addr) (cap : Nat) (l : List Bool) (hcap : l.length ≤ cap ∧ cap ≤ 9223372036854775807) (w : World) (hBs : Bs < w.heap.size) (hn₀ : n₀ ≤ w.heap.size)
    (hc : w.cell? ⟨Bs, 0, none⟩ = some (.slice ao l.length cap)) (hat : ∀ i, i < l.length → ∃ b o, ao = some ⟨b, o, none⟩ ∧ b < n₀ ∧ w.cell? ⟨b, o + i, none⟩ = some (.bool (run l i))) :
    SeqStopsK F n Try.prog 21 #[.pointer (some ⟨Bs, 0, none⟩)] (fun x : Nat => #[Value.int .i64 (x : Int)]) (Below n₀) (fun ys => ys = idx l l.length) (fun _ => True) l.length w := fun r J Jx W hW _ _ hY h0 =>
  those1_in F n hf hro hn r Bs n₀ ao cap l hcap J Jx hY W ((hW.cell (p := ⟨Bs, 0, none⟩) hBs).trans hc)
    (fun i hi => by
      obtain ⟨b, o, e, hb, h⟩ := hat i hi
      exact ⟨b, o, e, hb, (hW.cell (p := ⟨b, o + i, none⟩) (by show b < _; omega)).trans h⟩) h0
end Go.Proofs.Ytkbehjkfeoffmaa
