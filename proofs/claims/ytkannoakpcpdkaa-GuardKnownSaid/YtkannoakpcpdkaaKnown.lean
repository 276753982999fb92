/-
  GuardKnown: both ends of all.
-/
import Derived.Test.YtkannoakpcpdkaaLays
import Derived.Test.YtkannoakpcpdkaaTurns
import Derived.Test.YtkannoakpcpdkaaRound
import Derived.Test.YtkannoakpcpdkaaTold
import Derived.Lib.SlBytesConst
set_option linter.unusedVariables false
set_option linter.unusedSimpArgs false
namespace Go.Proofs.Ytkannoakpcpdkaa
open Go Go.RowKit

abbrev szL : List Int := [-1, 0, 1, 2, 8, 1023, 1024, 1025, 9223372036854775807]
abbrev mnL : List Int := [0, 1, 16, 17, 18, 1040, 1041]
theorem mn_nat : ∀ i : Fin 7, ∃ n : Fin 2000, pk mnL i.val = (n.val : Int) := by decide +kernel
theorem mn_at {i : Nat} (h : i < 7) : ∃ n : Nat, pk mnL i = n ∧ n ≤ 10000 := by
  obtain ⟨n, hn⟩ := mn_nat ⟨i, h⟩
  exact ⟨n.val, hn, by omega⟩
theorem bytey_same {n : Nat} {x : Int} (h : 0 ≤ x ∧ x ≤ 255) : Bytey (lst n (fun _ => x)) := bytey_lst fun _ _ => h
/-- the first k bytes are 204 -/
def ccF (k i : Nat) : Int := if i < k then 204 else 0
theorem bytey_cc (n k : Nat) : Bytey (lst n (ccF k)) := bytey_lst fun i _ => by unfold ccF; split <;> decide
theorem lit_cell {w w' : World} {K n j : Nat} {l : List Int} (h : ShowI w (.slice (some ⟨K, 0, none⟩) n n) l) (hb : Below w.heap.size w w') (hj : j < l.length) : w'.cell? ⟨K, j, none⟩ = some (.int .i64 (pk l j)) := by
  obtain ⟨ao, cap, e, _, hat⟩ := h.form
  obtain ⟨e1, _, _⟩ := Value.slice.inj e
  obtain ⟨b, o, e2, hc⟩ := hat j hj
  rw [← e1] at e2
  obtain ⟨rfl, rfl⟩ : K = b ∧ 0 = o := by simpa using e2
  rw [Nat.zero_add] at hc
  exact cell_keep hb hc
/-- bytes of a constant: a row with the mark behind it -/
theorem lit_bm (w : World) (t : TypeId) (fr : Nat × Nat) (l : List Int) (n : Nat) (hn : l.length = n) (hm : n ≤ 10000) : ShowB (w.alloc (.cells (bys l).toArray t fr)) (.slice (some ⟨w.heap.size, 0, none⟩) n n) l := by
  refine ⟨by simp, some ⟨w.heap.size, 0, none⟩, n, by rw [hn], by rw [hn]; unfold maxLen; omega, fun _ => ⟨w.heap.size, 0, rfl, fun j hj => ?_⟩⟩
  have hb : (w.alloc (.cells (bys l).toArray t fr)).heap[w.heap.size]? = some (.cells (bys l).toArray t fr) := heap_new _ _
  unfold World.cell?
  dsimp only
  rw [hb]
  simp
set_option maxHeartbeats 16000000 in
theorem walkKnown (W : World) : Calls Try.prog 8 #[] W fun e w' => e = .returned (.bool true) ∧ Below W.heap.size W w' := by
  go_enter Try.func8, Try.ntmps8
  go_wp2
  have HS1 := Lib.hid (lit_i W 3 szL 9 rfl (by decide))
  have HB1 := Lib.hid (below_one (Below.refl _ W) (.cells (nms szL).toArray 3))
  have hK1 : W.heap.size < (W.alloc (.cells (nms szL).toArray 3)).heap.size := by rw [size_alloc]; omega
  change Code.wp _ _ _ _ (W.alloc (.cells (nms szL).toArray 3))
  generalize W.alloc (.cells (nms szL).toArray 3) = W1 at HS1 HB1 hK1 ⊢
  go_loopw [2] (fun i wr => ∃ k : Nat, k ≤ 9 ∧ i = .int .i64 k ∧ Hid (Below W1.heap.size W1 wr)) (fun i _ => 9 - (intOf i).toNat)
  case atStart => exact ⟨0, by omega, by first | rfl | go_num, Lib.hid (Below.refl _ _)⟩
  case round =>
    obtain ⟨k, hk, rfl, HB⟩ := hrel
    by_cases hlt : k < 9
    · have c1 := lit_cell (j := k) HS1.out HB.out hlt
      generalize pk szL k = x at c1
      go_wp2_with fail
      refine (walkLays x wr).mono ?_
      rintro e w2 ⟨rfl, hb⟩
      have HB2 := Lib.hid (below_then HB.out hb)
      clear hb c1
      go_wp2
      go_roundw
      case rel => exact ⟨k + 1, by omega, by go_num, HB2⟩
      case measure => simp [intOf]; omega
    · obtain rfl : k = 9 := by omega
      have BW : Hid (Below W.heap.size W wr) := Lib.hid (below_then HB1.out HB.out)
      clear HB HS1 HB1 hK1
      rw [show ((9 : Nat) : Int) = 9 from rfl]
      go_wp2
      have HS2 := Lib.hid (lit_i wr 3 mnL 7 rfl (by decide))
      have HB2 : Hid (Below W.heap.size W (wr.alloc (.cells (nms mnL).toArray 3))) := Lib.hid (below_one BW.out _)
      change Code.wp _ _ _ _ (wr.alloc (.cells (nms mnL).toArray 3))
      obtain ⟨K2, hK2⟩ : ∃ K2, wr.heap.size = K2 := ⟨_, rfl⟩
      rw [hK2] at HS2 ⊢
      generalize wr.alloc (.cells (nms mnL).toArray 3) = W2 at HS2 HB2 ⊢
      clear BW hK2
      go_loopw [4] (fun i wr => ∃ k : Nat, k ≤ 7 ∧ i = .int .i64 k ∧ Hid (Below W2.heap.size W2 wr)) (fun i _ => 7 - (intOf i).toNat)
      case atStart => exact ⟨0, by omega, by first | rfl | go_num, Lib.hid (Below.refl _ _)⟩
      case round =>
        obtain ⟨k, hk, rfl, HB⟩ := hrel
        by_cases hlt : k < 7
        · have c1 := lit_cell (j := k) HS2.out HB.out hlt
          obtain ⟨n, hn, hn1⟩ := mn_at hlt
          rw [hn] at c1
          clear hn
          obtain ⟨O, hO, hR⟩ := makeY n hn1
          have HR := Lib.hid (hR wr)
          have HBO := Lib.hid (below_one HB.out O)
          have hO1 := hO wr
          clear hR hO
          go_wp2_with fail
          generalize hg : wr.heap.size = g at HR hO1 ⊢
          have HGW : Hid (W2.heap.size ≤ g) := Lib.hid (by have := HB.out.size; omega)
          generalize wr.alloc O = wA at HR HBO ⊢
          clear hO1 c1 hg HB
          have HSA := Lib.hid (HR.out.lies hn1)
          refine (walkTurns _ (lst n (fun _ => 0)) false wA HSA.out (bytey_same (by decide)) (by rw [len_lst]; omega)).mono ?_
          rintro e w3 ⟨rfl, hb3⟩
          have B3 := Lib.hid hb3
          clear hb3
          go_wp2_with fail
          refine (walkTurns _ (lst n (fun _ => 0)) true w3 (HSA.out.below B3.out) (bytey_same (by decide)) (by rw [len_lst]; omega)).mono ?_
          rintro e w4 ⟨rfl, hb4⟩
          have B4 := Lib.hid (below_then B3.out hb4)
          clear hb4
          go_wp2_with fail
          refine (walkApart _ (lst n (fun _ => 0)) w4 (HSA.out.below B4.out)).mono ?_
          rintro e w5 ⟨rfl, hb5⟩
          have B5 := Lib.hid (below_then B4.out hb5)
          have HR5 := Lib.hid (HR.out.below B5.out)
          have HB5 := Lib.hid (below_then HBO.out B5.out)
          clear hb5 HSA HR HBO B3 B4 B5
          go_wp2
          go_loopw [6] (fun i wr => ∃ j : Nat, j ≤ n ∧ i = .int .i64 j ∧ Hid (RowY wr g n (ccF j)) ∧ Hid (Below W2.heap.size W2 wr)) (fun i _ => n - (intOf i).toNat)
          case atStart => exact ⟨0, by omega, by first | rfl | go_num, Lib.hid (HR5.out.congr (fun i _ => by simp [ccF])), HB5⟩
          case round =>
            obtain ⟨j, hj, rfl, HRJ, HBJ⟩ := hrel
            by_cases hjl : j < n
            · have d1 := HRJ.out.cell hjl
              have f1 := HRJ.out.free j
              have HRJ2 : Hid (RowY (wr.setCell ⟨g, j, none⟩ (.int .u8 204)) g n (ccF (j + 1))) := Lib.hid ((HRJ.out.set hjl 204).congr (fun i _ => by
                unfold turnF ccF
                by_cases e : i = j
                · rw [if_pos e, if_pos (by omega)]
                · rw [if_neg e]
                  by_cases e2 : i < j
                  · rw [if_pos e2, if_pos (by omega)]
                  · rw [if_neg e2, if_neg (by omega)]))
              have HBJ2 := Lib.hid (HBJ.out.setCell (p := ⟨g, j, none⟩) HGW.out (.int .u8 204))
              go_wp2
              go_roundw
              case rel => exact ⟨j + 1, by omega, by go_num, HRJ2, HBJ2⟩
              case measure => simp [intOf]; omega
            · obtain rfl : j = n := by omega
              have HSA := Lib.hid (HRJ.out.lies hn1)
              go_wp2_with fail
              refine (walkTurns _ (lst j (ccF j)) false wr HSA.out (bytey_cc _ _) (by rw [len_lst]; omega)).mono ?_
              rintro e w6 ⟨rfl, hb6⟩
              have B6 := Lib.hid hb6
              clear hb6
              go_wp2_with fail
              refine (walkTurns _ (lst j (ccF j)) true w6 (HSA.out.below B6.out) (bytey_cc _ _) (by rw [len_lst]; omega)).mono ?_
              rintro e w7 ⟨rfl, hb7⟩
              have B7 := Lib.hid (below_then B6.out hb7)
              clear hb7
              go_wp2_with fail
              refine (walkApart _ (lst j (ccF j)) w7 (HSA.out.below B7.out)).mono ?_
              rintro e w8 ⟨rfl, hb8⟩
              have B8 := Lib.hid (below_then HBJ.out (below_then B7.out hb8))
              clear hb8 HSA
              go_wp2
              go_roundw
              case rel => exact ⟨k + 1, by omega, by go_num, B8⟩
              case measure => simp [intOf]; omega
        · obtain rfl : k = 7 := by omega
          have BW : Hid (Below W.heap.size W wr) := Lib.hid (below_then HB2.out HB.out)
          clear HB HS2 HB2
          rw [show ((7 : Nat) : Int) = 7 from rfl]
          go_wp2
          go_loopw [7] (fun i wr => ∃ k : Nat, k ≤ 20 ∧ i = .int .i64 k ∧ Hid (Below W.heap.size W wr)) (fun i _ => 20 - (intOf i).toNat)
          case atStart => exact ⟨0, by omega, by first | rfl | go_num, BW⟩
          case round =>
            obtain ⟨k, hk, rfl, HB⟩ := hrel
            by_cases hlt : k < 20
            · go_wp2_with fail
              refine (walkTold 3 k 1 (by decide) wr).mono ?_
              rintro e w2 ⟨rfl, hb2⟩
              have B2 := Lib.hid (below_then HB.out hb2)
              clear hb2
              go_wp2_with fail
              refine (walkTold 3 k 255 (by decide) w2).mono ?_
              rintro e w3 ⟨rfl, hb3⟩
              have B3 := Lib.hid (below_then B2.out hb3)
              clear hb3
              go_wp2_with fail
              refine (walkTold 0 k 7 (by decide) w3).mono ?_
              rintro e w4 ⟨rfl, hb4⟩
              have B4 := Lib.hid (below_then B3.out hb4)
              clear hb4
              go_wp2
              go_roundw
              case rel => exact ⟨k + 1, by omega, by go_num, B4⟩
              case measure => simp [intOf]; omega
            · obtain rfl : k = 20 := by omega
              rw [show ((20 : Nat) : Int) = 20 from rfl]
              go_wp2_with fail
              refine (cWorks _).mono ?_
              rintro e w2 ⟨rfl, hb2⟩
              have B2 := Lib.hid (below_then HB.out hb2)
              clear hb2
              have kc := fun (w : World) (C : Array Value) (n c : Nat) => Lib.run_convert_bytes_const (P := Try.prog) w 22 5 C n c Try.underlying22 Try.underlying5
              go_wp2_with fail
              refine (walkRound 4 _ [97, 98, 99, 100, 101, 102, 103] 2 _ (lit_bm w2 5 (7, 8) [97, 98, 99, 100, 101, 102, 103] 7 rfl (by decide))).mono ?_
              rintro e w3 ⟨rfl, hb3⟩
              have B3 := Lib.hid (below_then (below_one B2.out _) hb3)
              clear hb3
              go_wp2
              go_ret
              exact ⟨rfl, B3.out⟩
end Go.Proofs.Ytkannoakpcpdkaa
