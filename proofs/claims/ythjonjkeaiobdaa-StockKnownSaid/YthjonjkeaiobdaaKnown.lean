/-
  The law StockKnown, walked.
-/
import Derived.Test.YthjonjkeaiobdaaPlays
import Derived.Test.YthjonjkeaiobdaaNone
set_option linter.unusedVariables false
set_option linter.unusedSimpArgs false
namespace Go.Proofs.Ythjonjkeaiobdaa
open Go Go.RowKit

def endsL : List Int := [-9223372036854775808, -1, 0, 1, 511, 512, 513, 1023, 1024, 1025, 9007199254740991, 9007199254740992, 9223372036854775807]
def dosL (a b : Int) : List Qd := [⟨1, 0, 1, a⟩, ⟨1, 0, 1, b⟩, ⟨0, 0, 1, a⟩, ⟨1, 0, 2, b⟩, ⟨0, 0, 2, b⟩, ⟨1, 0, 16, 5⟩, ⟨1, 0, 17, 5⟩, ⟨1, 9, 0, 0⟩, ⟨0, -1, 1, 1⟩, ⟨2, 8, 0, 0⟩, ⟨2, 0, 0, 0⟩]
theorem lit_d (w : World) (t : TypeId) (l : List Qd) (n : Nat) (hn : l.length = n) (hm : n ≤ 10000) : ShowD (w.alloc (.cells (qds l).toArray t)) (.slice (some ⟨w.heap.size, 0, none⟩) n n) l := by
  subst hn
  refine ⟨qds_length l, _, _, rfl, by unfold maxLen; omega, fun _ => ⟨_, 0, rfl, fun j hj => ?_⟩⟩
  have hb := heap_new w (.cells (qds l).toArray t)
  unfold World.cell?
  dsimp only
  rw [hb]
  simp
theorem lit_ends (w : World) (t : TypeId) {j : Nat} (hj : j < 13) : (w.alloc (.cells (nms endsL).toArray t)).cell? ⟨w.heap.size, j, none⟩ = some (.int .i64 (pk endsL j)) :=
  self_cell (heap_new w _) j _ (by rw [List.getElem?_toArray]; exact nms_at (show j < endsL.length from hj))
set_option maxHeartbeats 16000000 in
set_option maxRecDepth 100000 in
theorem walkKnown (W : World) : Calls Try.prog 6 #[] W fun e W' => e = .returned (.bool true) ∧ Below W.heap.size W W' := by
  go_enter Try.func6, Try.ntmps6
  go_wp2
  go_loopw [1, 2] (fun p i wr => ∃ (k : Nat) (a : Option Addr), k ≤ 2 ∧ i = .int .i64 k ∧ p = .pointer a ∧ Hid (SZ wr a) ∧ Hid (Below W.heap.size W wr)) (fun _ i _ => 2 - (intOf i).toNat)
  case atStart => exact ⟨0, none, by omega, rfl, rfl, Lib.hid (.inl rfl), Lib.hid (Below.refl _ _)⟩
  case round =>
    obtain ⟨k, a, hk, rfl, rfl, HZ, HB⟩ := hrel
    by_cases hlt : k < 2
    · go_wp2_with (first
        | (go_at_call 17; refine (zPut HZ.out _ _ _).mono ?_; rintro e wa ⟨rfl, rfl⟩)
        | (go_at_call 18; refine (zDrain HZ.out _).mono ?_; rintro e wa ⟨rfl, rfl⟩)
        | (go_at_call 10; refine (zHas HZ.out _).mono ?_; rintro e wa ⟨rfl, rfl⟩)
        | (go_at_call 12; refine (zHeld HZ.out _).mono ?_; rintro e wa ⟨rfl, rfl⟩)
        | (go_at_call 16; refine (zTake HZ.out _ _ _).mono ?_; rintro e wa ⟨rfl, rfl⟩))
      go_roundw
      case rel => exact ⟨k + 1, _, by omega, by go_num, rfl, Lib.hid (.inr ⟨_, rfl, heap_new _ _⟩), Lib.hid (below_one HB.out _)⟩
      case measure => simp [intOf]; omega
    · obtain rfl : k = 2 := by omega
      rw [show ((2 : Nat) : Int) = 2 from rfl]
      clear HZ hlt hk
      have HL : Hid (∀ j, j < 13 → (wr.alloc (.cells (nms endsL).toArray 3)).cell? ⟨wr.heap.size, j, none⟩ = some (.int .i64 (pk endsL j))) := Lib.hid (fun j hj => lit_ends wr _ hj)
      have HBT := Lib.hid (below_one HB.out (.cells (nms endsL).toArray 3))
      clear HB
      go_wp2
      change Code.wp _ _ _ _ (wr.alloc (.cells (nms endsL).toArray 3))
      generalize wr.alloc (.cells (nms endsL).toArray 3) = wt at HL HBT ⊢
      generalize wr.heap.size = K at HL ⊢
      go_loopw [11] (fun i wr => ∃ j : Nat, j ≤ 13 ∧ i = .int .i64 j ∧ Hid (Below wt.heap.size wt wr)) (fun i _ => 13 - (intOf i).toNat)
      case atStart => exact ⟨0, by omega, rfl, Lib.hid (Below.refl _ _)⟩
      case round =>
        obtain ⟨j, hj, rfl, HE⟩ := hrel
        by_cases hj13 : j < 13
        · have hji : (j : Int) < 13 := by omega
          have hj0 : (0 : Int) ≤ (j : Int) := by omega
          obtain ⟨A, hA⟩ : ∃ A, pk endsL j = A := ⟨_, rfl⟩
          have HA : Hid (wt.cell? ⟨K, j, none⟩ = some (.int .i64 A)) := Lib.hid (by rw [← hA]; exact HL.out j hj13)
          clear hA
          go_wp2
          go_loopw [12] (fun i wr => ∃ m : Nat, m ≤ 13 ∧ i = .int .i64 m ∧ Hid (Below wt.heap.size wt wr)) (fun i _ => 13 - (intOf i).toNat)
          case atStart => exact ⟨0, by omega, rfl, HE⟩
          case round =>
            clear HE
            obtain ⟨m, hm, rfl, HE⟩ := hrel
            by_cases hm13 : m < 13
            · have hmi : (m : Int) < 13 := by omega
              have hm0 : (0 : Int) ≤ (m : Int) := by omega
              have c5 := cell_keep HE.out HA.out
              have c6 := cell_keep HE.out (HL.out m hm13)
              obtain ⟨N, hN⟩ : ∃ N, pk endsL m = N := ⟨_, rfl⟩
              rw [hN] at c6
              clear hN
              go_wp2
              have HD : Hid (ShowD (World.drew (wr.alloc (.cells (qds (dosL A N)).toArray 32))) (.slice (some ⟨wr.heap.size, 0, none⟩) 11 11) (dosL A N)) := Lib.hid ((lit_d wr 32 (dosL A N) 11 rfl (by decide)).below (Below.refl _ _).drew)
              have HB2 : Hid (Below wt.heap.size wt (World.drew (wr.alloc (.cells (qds (dosL A N)).toArray 32)))) := Lib.hid (below_one HE.out _).drew
              clear HE
              go_region
              clear c5 c6
              change Exit.then _ _ _ _ (World.drew (wr.alloc (.cells (qds (dosL A N)).toArray 32)))
              generalize World.drew (wr.alloc (.cells (qds (dosL A N)).toArray 32)) = wd at HD HB2 ⊢
              generalize wr.heap.size = K2 at HD ⊢
              go_wp2_with fail
              refine (walkPlays 1 _ _ _ HD.out).mono ?_
              rintro e w1 ⟨rfl, hb1⟩
              have HD1 := Lib.hid (HD.out.below hb1)
              have HB3 := Lib.hid (below_then HB2.out hb1)
              clear hb1 HD HB2
              go_wp2_with fail
              refine (walkPlays 8 _ _ _ HD1.out).mono ?_
              rintro e w2 ⟨rfl, hb2⟩
              have HB4 := Lib.hid (below_then HB3.out hb2)
              clear hb2 HD1 HB3
              go_wp2
              go_roundw
              case rel => exact ⟨m + 1, by omega, by go_num, HB4⟩
              case measure => simp [intOf]; omega
            · obtain rfl : m = 13 := by omega
              rw [show ((13 : Nat) : Int) = 13 from rfl]
              go_wp2
              go_roundw
              case rel => exact ⟨j + 1, by omega, by go_num, HE⟩
              case measure => simp [intOf]; omega
        · obtain rfl : j = 13 := by omega
          rw [show ((13 : Nat) : Int) = 13 from rfl]
          have HBW := Lib.hid (below_then HBT.out HE.out)
          clear HE HBT HL
          go_wp2_with fail
          refine (works _).mono ?_
          rintro e w1 ⟨rfl, hb⟩
          have HB1 := Lib.hid (below_then HBW.out hb)
          clear hb HBW
          go_wp2_with fail
          refine (walkPlays 0 _ [] _ (ShowD.nil _)).mono ?_
          rintro e w2 ⟨rfl, hb⟩
          have HB2 := Lib.hid (below_then HB1.out hb)
          clear hb HB1
          go_wp2_with fail
          refine (walkPlays 9 _ [] _ (ShowD.nil _)).mono ?_
          rintro e w3 ⟨rfl, hb⟩
          have HB3 := Lib.hid (below_then HB2.out hb)
          clear hb HB2
          go_wp2
          go_ret
          exact ⟨rfl, HB3.out⟩
end Go.Proofs.Ythjonjkeaiobdaa
