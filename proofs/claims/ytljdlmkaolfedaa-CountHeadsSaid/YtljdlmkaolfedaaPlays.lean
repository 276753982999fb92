/-
  The laws CountPacks and CountHeads, walked.
-/
import Derived.Test.YtljdlmkaolfedaaWorks
import Derived.Test.YtljdlmkaolfedaaRc
set_option linter.unusedVariables false
set_option linter.unusedSimpArgs false
namespace Go.Proofs.Ytljdlmkaolfedaa
open Go Go.RowKit

def pkW (l : List Int) (i : Nat) : Int := l.getD i 0
theorem pkW_range {l : List Int} (h : ∀ x ∈ l, okW x) (i : Nat) : okW (pkW l i) := by
  unfold pkW
  by_cases hi : i < l.length
  · have e : l.getD i 0 = l[i] := by simp [List.getD, hi]
    rw [e]
    exact h _ (List.getElem_mem hi)
  · have e : l.getD i 0 = 0 := by simp [List.getD, hi]
    rw [e]
    decide
theorem packV_range (c : Ct) : okW (packV c) := by
  unfold packV
  split
  · have := wd_range (by assumption : mayC c)
    exact ⟨this.1, by omega⟩
  · decide
theorem headV_range (s o : Int) : okW (headV s o) := by
  unfold headV
  split
  · have := mayH_range (by assumption : mayH s o)
    unfold wdH
    exact ⟨by omega, by omega⟩
  · decide
set_option maxHeartbeats 4000000 in
theorem walkPacks (c : Ct) (x : Int) (hx : okW x) (W : World) : Calls Try.prog 3 #[c.agg, .int .u64 x] W fun e W' => e = .returned (.bool true) ∧ Below W.heap.size W W' := by
  have hC := cPack c
  have hD := rPack c
  have hv0 := packV_range c
  generalize packV c = V at hC hD hv0
  generalize packE c = E at hC hD
  have HC := Lib.hid hC
  have HD := Lib.hid hD
  have HL : Hid (CtAt (W.alloc (.cells c.arr 23)) W.heap.size c) := Lib.hid (heap_new _ _)
  have HS : Hid (∀ y, okW y → ∃ X b, (∀ w, Calls Try.prog 10 #[.int .u64 y] w fun e w' => e = .returned (.tuple #[Ct.agg X, .bool b]) ∧ Below w.heap.size w w') ∧ ∀ w, Calls Try.prog 11 #[.int .u64 y] w fun e w' => e = .returned (.tuple #[Ct.agg X, .bool b]) ∧ Below w.heap.size w w') := Lib.hid (fun y hy => ⟨_, _, cCounts y hy, rCounts y hy⟩)
  have hxr := hx
  obtain ⟨x1, x2⟩ := hxr
  obtain ⟨M, hM⟩ : ∃ M, x % 262144 = M := ⟨_, rfl⟩
  have hall : ∀ y ∈ [x, M, V], okW y := by
    intro y hy
    simp only [List.mem_cons, List.not_mem_nil, or_false] at hy
    rcases hy with rfl | rfl | rfl
    · exact hx
    · exact ⟨by omega, by omega⟩
    · exact hv0
  have HALL := Lib.hid (pkW_range hall)
  have hgd := guardK
  have hvv : (V != V) = false := by simp
  have hee : (E != E) = false := by simp
  clear hC hD hx hv0 hall
  go_enter Try.func3, Try.ntmps3
  go_wp2_with (refine wpList_loadC (by rfl) _ (by rfl) W.heap.size c (by rfl) HL.out ?_)
  refine (HC.out _).mono ?_
  rintro e w1 ⟨rfl, hb1⟩
  have HL1 := Lib.hid (HL.out.below hb1)
  have HW1 := Lib.hid (below_then (below_one (Below.refl W.heap.size W) _) hb1)
  clear hb1 HL HC
  go_wp2_with (refine wpList_loadC (by rfl) _ (by rfl) W.heap.size c (by rfl) HL1.out ?_)
  refine (HD.out _).mono ?_
  rintro e w2 ⟨rfl, hb2⟩
  have HW2 := Lib.hid (below_then HW1.out hb2)
  clear hb2 HL1 HD HW1
  go_wp2
  go_loopw [9] (fun i wr => ∃ j : Nat, j ≤ 3 ∧ i = .int .i64 j ∧ Hid (Below W.heap.size W wr)) (fun i _ => 3 - (intOf i).toNat)
  case atStart => exact ⟨0, by omega, rfl, HW2⟩
  case round =>
    clear HW2
    obtain ⟨j, hj, rfl, HW⟩ := hrel
    by_cases hlt : j < 3
    · have hc : (wr.alloc (.cells #[.int .u64 x, .int .u64 M, .int .u64 V] 24)).cell? ⟨wr.heap.size, j, none⟩ = some (.int .u64 (pkW [x, M, V] j)) := by
        rcases (by omega : j = 0 ∨ j = 1 ∨ j = 2) with rfl | rfl | rfl <;> exact self_cell (heap_new _ _) _ _ rfl
      obtain ⟨X, b, h1, h2⟩ := HS.out _ (HALL.out j)
      generalize pkW [x, M, V] j = y at *
      have H1 := Lib.hid h1
      have H2 := Lib.hid h2
      have heq := fun w' => eqIs (c := X) (d := X) (decide_eq_true rfl) w'
      have hbb : (b != b) = false := by simp
      clear h1 h2
      go_wp2_with fail
      refine (H1.out _).mono ?_
      rintro e w3 ⟨rfl, hb3⟩
      have HW3 := Lib.hid (below_then (below_one HW.out _) hb3)
      have HZ3 : Hid (CtAt (w3.alloc ct0) w3.heap.size zC) := Lib.hid (heap_new _ _)
      clear hb3 HW hc
      go_wp2_with (refine wpList_storeC (by rfl) _ _ (by rfl) w3.heap.size X (by rfl) (by rfl) _ HZ3.out rfl ?_; intro w4 h4 hk4; have HA4 := Lib.hid h4; have HW4 := Lib.hid (below_then HW3.out (below_one_kept (below_one (Below.refl w3.heap.size w3) _) hk4 (Nat.le_refl _))); clear HZ3 HW3 h4 hk4; refine Stop.mk ?_)
      unfold Stop
      go_wp2_with fail
      refine (H2.out _).mono ?_
      rintro e w5 ⟨rfl, hb5⟩
      have HA5 := Lib.hid (HA4.out.below hb5)
      have HW5 := Lib.hid (below_then HW4.out hb5)
      have HZ5 : Hid (CtAt (w5.alloc ct0) w5.heap.size zC) := Lib.hid (heap_new _ _)
      clear hb5 HA4 HW4
      go_wp2_with (refine wpList_storeC (by rfl) _ _ (by rfl) w5.heap.size X (by rfl) (by rfl) _ HZ5.out rfl ?_; intro w6 h6 hk6; have hb6 := below_one_kept (below_one (Below.refl w5.heap.size w5) _) hk6 (Nat.le_refl _); have HW6 := Lib.hid (below_then HW5.out hb6); obtain ⟨c0, c1, c2, c3⟩ := (HA5.out.below hb6).cells; obtain ⟨d0, d1, d2, d3⟩ := h6.cells; clear HZ5 HA5 HW5 h6 hk6 hb6; refine Stop.mk ?_)
      unfold Stop
      go_wp2
      go_roundw
      case rel => exact ⟨j + 1, by omega, by go_num, HW6⟩
      case measure => simp [intOf]; omega
    · obtain rfl : j = 3 := by omega
      go_wp2_with fail
      refine (works _).mono ?_
      rintro e w5 ⟨rfl, hb5⟩
      have HW5 := Lib.hid (below_then HW.out hb5)
      clear hb5 HW
      go_wp2
      go_ret
      exact ⟨rfl, HW5.out⟩
set_option maxHeartbeats 4000000 in
set_option maxRecDepth 100000 in
theorem walkHeads (s n x : Int) (hx : okW x) (W : World) : Calls Try.prog 4 #[.int .i64 s, .int .i64 n, .int .u64 x] W fun e W' => e = .returned (.bool true) ∧ Below W.heap.size W W' := by
  have hC := cEncH s n
  have hD := rHead s n
  have hF := cEncP s n
  have hG := rPart s n
  have hv0 := headV_range s n
  generalize headV s n = V at hC hD hv0
  generalize headE s n = E at hC hD
  generalize partV s n = U at hF hG
  generalize partE s n = F at hF hG
  have HC := Lib.hid hC
  have HD := Lib.hid hD
  have HF := Lib.hid hF
  have HG := Lib.hid hG
  have HS : Hid (∀ y, okW y → ∃ a b q, (∀ w, Calls Try.prog 17 #[.int .u64 y] w fun e w' => e = .returned (.tuple #[.int .i64 a, .int .i64 b, .bool q]) ∧ Below w.heap.size w w') ∧ ∀ w, Calls Try.prog 18 #[.int .u64 y] w fun e w' => e = .returned (.tuple #[.int .i64 a, .int .i64 b, .bool q]) ∧ w' = w) := Lib.hid (fun y hy => ⟨_, _, _, cOfH y hy, rHeadOf y hy⟩)
  have HT : Hid (∀ y, okW y → ∃ a b q, (∀ w, Calls Try.prog 19 #[.int .u64 y] w fun e w' => e = .returned (.tuple #[.int .i64 a, .int .i64 b, .bool q]) ∧ Below w.heap.size w w') ∧ ∀ w, Calls Try.prog 20 #[.int .u64 y] w fun e w' => e = .returned (.tuple #[.int .i64 a, .int .i64 b, .bool q]) ∧ w' = w) := Lib.hid (fun y hy => ⟨_, _, _, cOfP y hy, rPartOf y hy⟩)
  have hxr := hx
  obtain ⟨x1, x2⟩ := hxr
  obtain ⟨M, hM⟩ : ∃ M, x % 4200 = M := ⟨_, rfl⟩
  have hall : ∀ y ∈ [x, M, V], okW y := by
    intro y hy
    simp only [List.mem_cons, List.not_mem_nil, or_false] at hy
    rcases hy with rfl | rfl | rfl
    · exact hx
    · exact ⟨by omega, by omega⟩
    · exact hv0
  have HALL := Lib.hid (pkW_range hall)
  have hvv : (V != V) = false := by simp
  have hee : (E != E) = false := by simp
  have huu : (U != U) = false := by simp
  have hff : (F != F) = false := by simp
  clear hC hD hF hG hx hv0 hall
  go_enter Try.func4, Try.ntmps4
  go_wp2_with fail
  refine (HC.out _).mono ?_
  rintro e w1 ⟨rfl, hb1⟩
  have HW1 := Lib.hid hb1
  clear hb1 HC
  go_wp2_with fail
  refine (HD.out _).mono ?_
  rintro e w2 ⟨rfl, rfl⟩
  go_wp2_with fail
  refine (HF.out _).mono ?_
  rintro e w3 ⟨rfl, hb3⟩
  have HW3 := Lib.hid (below_then HW1.out hb3)
  clear hb3 HF HW1
  go_wp2_with fail
  refine (HG.out _).mono ?_
  rintro e w4 ⟨rfl, rfl⟩
  clear HD HG
  go_wp2
  go_loopw [15] (fun i wr => ∃ j : Nat, j ≤ 3 ∧ i = .int .i64 j ∧ Hid (Below W.heap.size W wr)) (fun i _ => 3 - (intOf i).toNat)
  case atStart => exact ⟨0, by omega, rfl, HW3⟩
  case round =>
    clear HW3
    obtain ⟨j, hj, rfl, HW⟩ := hrel
    by_cases hlt : j < 3
    · have hc : (wr.alloc (.cells #[.int .u64 x, .int .u64 M, .int .u64 V] 24)).cell? ⟨wr.heap.size, j, none⟩ = some (.int .u64 (pkW [x, M, V] j)) := by
        rcases (by omega : j = 0 ∨ j = 1 ∨ j = 2) with rfl | rfl | rfl <;> exact self_cell (heap_new _ _) _ _ rfl
      obtain ⟨a, b, q, h1, h2⟩ := HS.out _ (HALL.out j)
      obtain ⟨a', b', q', h3, h4⟩ := HT.out _ (HALL.out j)
      generalize pkW [x, M, V] j = y at *
      have H1 := Lib.hid h1
      have H2 := Lib.hid h2
      have H3 := Lib.hid h3
      have H4 := Lib.hid h4
      have e1 : (a != a) = false := by simp
      have e2 : (b != b) = false := by simp
      have e3 : (q != q) = false := by simp
      have e4 : (a' != a') = false := by simp
      have e5 : (b' != b') = false := by simp
      have e6 : (q' != q') = false := by simp
      clear h1 h2 h3 h4
      go_wp2_with fail
      refine (H1.out _).mono ?_
      rintro e w5 ⟨rfl, hb5⟩
      have HW5 := Lib.hid (below_then (below_one HW.out _) hb5)
      clear hb5 HW hc H1
      go_wp2_with fail
      refine (H2.out _).mono ?_
      rintro e w6 ⟨rfl, rfl⟩
      go_wp2_with fail
      refine (H3.out _).mono ?_
      rintro e w7 ⟨rfl, hb7⟩
      have HW7 := Lib.hid (below_then HW5.out hb7)
      clear hb7 HW5 H2 H3
      go_wp2_with fail
      refine (H4.out _).mono ?_
      rintro e w8 ⟨rfl, rfl⟩
      go_wp2
      go_roundw
      case rel => exact ⟨j + 1, by omega, by go_num, HW7⟩
      case measure => simp [intOf]; omega
    · obtain rfl : j = 3 := by omega
      go_wp2_with fail
      refine (works _).mono ?_
      rintro e w5 ⟨rfl, hb5⟩
      have HW5 := Lib.hid (below_then HW.out hb5)
      clear hb5 HW
      go_wp2
      go_ret
      exact ⟨rfl, HW5.out⟩
end Go.Proofs.Ytljdlmkaolfedaa
