/-
  The document's pages that are whole; New, Whole.
-/
import Derived.Test.YtlljomnpdgmifaaRBud

set_option linter.unusedVariables false
set_option linter.unusedSimpArgs false
namespace Go.Proofs.Ytlljomnpdgmifaa
open Go Go.RowKit

theorem pgs_nil {l : List Pg} (h : pgs l = []) : l.length = 0 := by
  have := congrArg List.length h
  rw [pgs_length] at this
  simp at this
  omega
theorem new3 (w : World) (a b c : Value) (t : TypeId) : ∀ j u, [a, b, c][j]? = some u → (w.alloc (.cells #[a, b, c] t)).cell? ((⟨w.heap.size, 0, none⟩ : Addr).add j) = some u := by
  intro j u hj
  rw [plain_add, Nat.zero_add]
  exact self_cell (heap_new w _) j u (by
    have : (#[a, b, c] : Array Value)[j]? = [a, b, c][j]? := by simp
    rw [this]; exact hj)
theorem pgs_snoc (l : List Pg) (x : Pg) : pgs (l ++ [x]) = pgs l ++ x.cells := by simp [pgs]
/-- a page more of a row of one's own -/
theorem own_more {w : World} {B : Nat} {t : TypeId} {v : Value} {l : List Pg} {x : Pg} {N : Nat} {xs : List Value} (hN : l.length = N) (hxs : pgs l = xs) (h : w.ownsRow B t 3 v (N + 1) (xs ++ x.cells)) : w.ownsRow B t 3 v (l ++ [x]).length (pgs (l ++ [x])) := by
  subst hN hxs
  rw [pgs_snoc, List.length_append]
  exact h
/-- the pages of a block so far -/
def part (o m : Nat) : List Pg := fh o :: List.replicate (m - 1) pin
theorem part_one (o : Nat) : part o 1 = [fh o] := rfl
theorem part_more (o m : Nat) (h : 1 ≤ m) : part o (m + 1) = part o m ++ [pin] := by
  unfold part
  rw [show m + 1 - 1 = (m - 1) + 1 by omega, List.replicate_succ', List.cons_append]
theorem part_all (o : Nat) : part o (2 ^ o) = blk o := rfl
theorem part_length (o m : Nat) (h : 1 ≤ m) : (part o m).length = m := by simp [part]; omega
set_option maxHeartbeats 8000000 in
set_option maxRecDepth 100000 in
theorem rFresh (n : Nat) (hn : n ≤ 1024) (w : World) :
    Calls Try.prog 48 #[.int .i64 n] w fun e w' => ∃ v, e = .returned v ∧ w'.ownsRow w.heap.size 99 3 v (ini n).length (pgs (ini n)) ∧ Below w.heap.size w w' := by
  obtain ⟨i0, hi, hz0, hz1, hz2⟩ := info_parts infoP
  go_enter Try.func48, Try.ntmps48
  go_wp2
  go_loopw [3] (fun v wr => ∃ L : List Pg, L.length ≤ n ∧ wr.ownsRow w.heap.size 99 3 v L.length (pgs L) ∧ Hid (Pre n L) ∧ Hid (Below w.heap.size w wr)) (fun v _ => n - (match v with | .slice _ k _ => k | _ => 0))
  case atStart => exact ⟨[], by simp, World.ownsRow_nil _ _ _ _, Lib.hid (Pre.nil n), Lib.hid (Below.refl _ _)⟩
  case round =>
    obtain ⟨L, hL, hown, HP, HB⟩ := hrel
    obtain ⟨va, vc, rfl, hvc1, hvc2⟩ := own_shape hown
    by_cases hlt : L.length < n
    · obtain ⟨A, hA⟩ : ∃ A, L.length = A := ⟨_, rfl⟩
      have HAA := Lib.hid hA
      have HOWN := Lib.hid hown
      rw [hA] at hL hvc1 hlt ⊢
      clear hown hA
      go_wp2
      go_loop [5] (fun x => ∃ o : Nat, o ≤ 10 ∧ x = .int .i64 o ∧ Hid (A % 2 ^ o = 0) ∧ Hid (A + 2 ^ o ≤ n)) (fun x => 10 - (intOf x).toNat)
      case atStart => exact ⟨0, by omega, by first | rfl | go_num, Lib.hid (Nat.mod_one _), Lib.hid (by simp; omega)⟩
      case round =>
        obtain ⟨o, ho, rfl, HM, HFT⟩ := hrel
        obtain ⟨S, hS⟩ : ∃ S, 2 ^ o = S := ⟨_, rfl⟩
        have HSS := Lib.hid hS
        have hS1 : 1 ≤ S ∧ S ≤ 1024 := by rw [← hS]; exact pow_le o ho
        have hSi : (2 : Int) ^ o = (S : Int) := pow_int o S hS
        have hup : 2 ^ (o + 1) = 2 * S := by rw [pow_up, hS]
        have HUP := Lib.hid hup
        have hfit : A + S ≤ n := by rw [← hS]; exact HFT.out
        clear hS hup
        by_cases hgo : o < 10 ∧ A % (2 * S) = 0 ∧ A + 2 * S ≤ n
        · obtain ⟨g1, g2, g3⟩ := hgo
          have g1i : (o : Int) < 10 := by omega
          have g2i : (A : Int) % (2 * (S : Int)) = 0 := by rw [emod_two, g2]; rfl
          have g3i : (A : Int) + 2 * (S : Int) ≤ (n : Int) := by omega
          have HM2 : Hid (A % 2 ^ (o + 1) = 0) := Lib.hid (by rw [HUP.out]; exact g2)
          have HF2 : Hid (A + 2 ^ (o + 1) ≤ n) := Lib.hid (by rw [HUP.out]; exact g3)
          clear g2 g3
          go_wp2
          go_round
          case rel => exact ⟨o + 1, by omega, by go_num, HM2, HF2⟩
          case measure => simp [intOf]; omega
        · have HG : Hid (o = 10 ∨ A % 2 ^ (o + 1) ≠ 0 ∨ n < A + 2 ^ (o + 1)) := Lib.hid (by rw [HUP.out]; omega)
          have hor : ¬ o < 10 ∨ (o < 10 ∧ ¬ A % (2 * S) = 0) ∨ (o < 10 ∧ A % (2 * S) = 0 ∧ ¬ A + 2 * S ≤ n) := by omega
          clear hgo
          rcases hor with e1 | ⟨e1, e2⟩ | ⟨e1, e2, e3⟩
          · have e1i : ¬ (o : Int) < 10 := by omega
            have hown := HOWN.out
            obtain ⟨xs, hxs⟩ : ∃ xs, pgs L = xs := ⟨_, rfl⟩
            rw [HAA.out, hxs] at hown
            have HXS := Lib.hid hxs
            have hbz := HB.out.size
            clear hxs
            go_wp2_with (at_builtin; refine wpList_append_own _ (by rfl) _ _ 75 (by rfl) w.heap.size 99 i0 _ 3 24 Try.underlying75 hi hz0 hz1 hz2 (by rfl) (by decide) _ A xs (by rfl) (hown.alloc _) ⟨wr.heap.size, 0, none⟩ 1 1 [.int .i64 0, .int .i64 (o : Int), .int .i64 0] (by rfl) (by rfl) (new3 _ _ _ _ _) (by intro u hu; simp at hu; rcases hu with rfl | rfl | rfl <;> rfl) (by unfold maxLen; omega) (by omega) (by rw [size_alloc]; omega) ?_)
            intro v1 w1 hown1 hg1 _
            have HB1 : Hid (Below w.heap.size w w1) := Lib.hid ((below_one HB.out _).grown hg1 (by rw [size_alloc]; omega) (own_ge hown))
            have HO1 : Hid (w1.ownsRow w.heap.size 99 3 v1 (L ++ part o 1).length (pgs (L ++ part o 1))) := Lib.hid (own_more (x := fh o) HAA.out HXS.out hown1)
            clear hown hown1 hg1
            go_wp2
            go_loopw [3, 6] (fun v y wx => ∃ m : Nat, 1 ≤ m ∧ m ≤ S ∧ y = .int .i64 m ∧ Hid (wx.ownsRow w.heap.size 99 3 v (L ++ part o m).length (pgs (L ++ part o m))) ∧ Hid (Below w.heap.size w wx)) (fun _ y _ => S - (intOf y).toNat)
            case atStart => exact ⟨1, Nat.le_refl _, hS1.1, by first | rfl | go_num, HO1, HB1⟩
            case round =>
              obtain ⟨m, hm1, hm2, rfl, HO2, HB2⟩ := hrel
              have hlen : (L ++ part o m).length = A + m := by rw [List.length_append, part_length o m hm1, HAA.out]
              have HLEN := Lib.hid hlen
              clear hlen
              by_cases hms : m < S
              · have hown := HO2.out
                obtain ⟨ys, hys⟩ : ∃ ys, pgs (L ++ part o m) = ys := ⟨_, rfl⟩
                obtain ⟨N, hN⟩ : ∃ N, A + m = N := ⟨_, rfl⟩
                rw [HLEN.out, hys, hN] at hown
                have HYS := Lib.hid hys
                have HNN : Hid ((L ++ part o m).length = N) := Lib.hid (by rw [HLEN.out, hN])
                have hNn : N < n := by omega
                have hbz2 := HB2.out.size
                clear hys hN
                go_wp2_with (at_builtin; refine wpList_append_own _ (by rfl) _ _ 75 (by rfl) w.heap.size 99 i0 _ 3 24 Try.underlying75 hi hz0 hz1 hz2 (by rfl) (by decide) _ N ys (by rfl) (hown.alloc _) ⟨_, 0, none⟩ 1 1 [.int .i64 1, .int .i64 0, .int .i64 0] (by rfl) (by rfl) (new3 _ _ _ _ _) (by intro u hu; simp at hu; rcases hu with rfl | rfl <;> rfl) (by unfold maxLen; omega) (by omega) (by rw [size_alloc]; omega) ?_)
                intro v2 w2 hown2 hg2 _
                have HB3 : Hid (Below w.heap.size w w2) := Lib.hid ((below_one HB2.out _).grown hg2 (by rw [size_alloc]; omega) (own_ge hown))
                have HO3 : Hid (w2.ownsRow w.heap.size 99 3 v2 (L ++ part o (m + 1)).length (pgs (L ++ part o (m + 1)))) := Lib.hid (by
                  rw [part_more o m hm1, ← List.append_assoc]
                  exact own_more (x := pin) HNN.out HYS.out hown2)
                clear hown hown2 hg2
                go_wp2
                go_roundw
                case rel => exact ⟨m + 1, by omega, by omega, by go_num, HO3, HB3⟩
                case measure => simp [intOf]; omega
              · obtain rfl : m = S := by omega
                have HO4 : Hid (_ ∧ (L ++ blk o).length = A + m) := Lib.hid ⟨by have := HO2.out; rw [← HSS.out, part_all] at this; exact this, by have := HLEN.out; rw [← HSS.out, part_all] at this; rw [this, HSS.out]⟩
                have HP2 : Hid (Pre n (L ++ blk o)) := Lib.hid (HP.out.more ho (by rw [HAA.out]; exact HM.out) (by rw [HAA.out]; exact HFT.out) (by rw [HAA.out]; exact HG.out))
                obtain ⟨a', c', rfl, _, _⟩ := own_shape HO2.out
                go_wp2
                go_roundw
                case rel => exact ⟨L ++ blk o, by rw [HO4.out.2]; exact hfit, HO4.out.1, HP2, HB2⟩
                case measure => dsimp only; rw [HLEN.out]; omega
          · have e1i : (o : Int) < 10 := by omega
            have e2i : ((A : Int) % (2 * (S : Int)) == 0) = false := by rw [beq_eq_false_iff_ne, emod_two]; omega
            have e2j : ¬ (A : Int) % (2 * (S : Int)) = 0 := by rw [emod_two]; omega
            clear e2
            have hown := HOWN.out
            obtain ⟨xs, hxs⟩ : ∃ xs, pgs L = xs := ⟨_, rfl⟩
            rw [HAA.out, hxs] at hown
            have HXS := Lib.hid hxs
            have hbz := HB.out.size
            clear hxs
            go_wp2_with (at_builtin; refine wpList_append_own _ (by rfl) _ _ 75 (by rfl) w.heap.size 99 i0 _ 3 24 Try.underlying75 hi hz0 hz1 hz2 (by rfl) (by decide) _ A xs (by rfl) (hown.alloc _) ⟨wr.heap.size, 0, none⟩ 1 1 [.int .i64 0, .int .i64 (o : Int), .int .i64 0] (by rfl) (by rfl) (new3 _ _ _ _ _) (by intro u hu; simp at hu; rcases hu with rfl | rfl | rfl <;> rfl) (by unfold maxLen; omega) (by omega) (by rw [size_alloc]; omega) ?_)
            intro v1 w1 hown1 hg1 _
            have HB1 : Hid (Below w.heap.size w w1) := Lib.hid ((below_one HB.out _).grown hg1 (by rw [size_alloc]; omega) (own_ge hown))
            have HO1 : Hid (w1.ownsRow w.heap.size 99 3 v1 (L ++ part o 1).length (pgs (L ++ part o 1))) := Lib.hid (own_more (x := fh o) HAA.out HXS.out hown1)
            clear hown hown1 hg1
            go_wp2
            go_loopw [3, 6] (fun v y wx => ∃ m : Nat, 1 ≤ m ∧ m ≤ S ∧ y = .int .i64 m ∧ Hid (wx.ownsRow w.heap.size 99 3 v (L ++ part o m).length (pgs (L ++ part o m))) ∧ Hid (Below w.heap.size w wx)) (fun _ y _ => S - (intOf y).toNat)
            case atStart => exact ⟨1, Nat.le_refl _, hS1.1, by first | rfl | go_num, HO1, HB1⟩
            case round =>
              obtain ⟨m, hm1, hm2, rfl, HO2, HB2⟩ := hrel
              have hlen : (L ++ part o m).length = A + m := by rw [List.length_append, part_length o m hm1, HAA.out]
              have HLEN := Lib.hid hlen
              clear hlen
              by_cases hms : m < S
              · have hown := HO2.out
                obtain ⟨ys, hys⟩ : ∃ ys, pgs (L ++ part o m) = ys := ⟨_, rfl⟩
                obtain ⟨N, hN⟩ : ∃ N, A + m = N := ⟨_, rfl⟩
                rw [HLEN.out, hys, hN] at hown
                have HYS := Lib.hid hys
                have HNN : Hid ((L ++ part o m).length = N) := Lib.hid (by rw [HLEN.out, hN])
                have hNn : N < n := by omega
                have hbz2 := HB2.out.size
                clear hys hN
                go_wp2_with (at_builtin; refine wpList_append_own _ (by rfl) _ _ 75 (by rfl) w.heap.size 99 i0 _ 3 24 Try.underlying75 hi hz0 hz1 hz2 (by rfl) (by decide) _ N ys (by rfl) (hown.alloc _) ⟨_, 0, none⟩ 1 1 [.int .i64 1, .int .i64 0, .int .i64 0] (by rfl) (by rfl) (new3 _ _ _ _ _) (by intro u hu; simp at hu; rcases hu with rfl | rfl <;> rfl) (by unfold maxLen; omega) (by omega) (by rw [size_alloc]; omega) ?_)
                intro v2 w2 hown2 hg2 _
                have HB3 : Hid (Below w.heap.size w w2) := Lib.hid ((below_one HB2.out _).grown hg2 (by rw [size_alloc]; omega) (own_ge hown))
                have HO3 : Hid (w2.ownsRow w.heap.size 99 3 v2 (L ++ part o (m + 1)).length (pgs (L ++ part o (m + 1)))) := Lib.hid (by
                  rw [part_more o m hm1, ← List.append_assoc]
                  exact own_more (x := pin) HNN.out HYS.out hown2)
                clear hown hown2 hg2
                go_wp2
                go_roundw
                case rel => exact ⟨m + 1, by omega, by omega, by go_num, HO3, HB3⟩
                case measure => simp [intOf]; omega
              · obtain rfl : m = S := by omega
                have HO4 : Hid (_ ∧ (L ++ blk o).length = A + m) := Lib.hid ⟨by have := HO2.out; rw [← HSS.out, part_all] at this; exact this, by have := HLEN.out; rw [← HSS.out, part_all] at this; rw [this, HSS.out]⟩
                have HP2 : Hid (Pre n (L ++ blk o)) := Lib.hid (HP.out.more ho (by rw [HAA.out]; exact HM.out) (by rw [HAA.out]; exact HFT.out) (by rw [HAA.out]; exact HG.out))
                obtain ⟨a', c', rfl, _, _⟩ := own_shape HO2.out
                go_wp2
                go_roundw
                case rel => exact ⟨L ++ blk o, by rw [HO4.out.2]; exact hfit, HO4.out.1, HP2, HB2⟩
                case measure => dsimp only; rw [HLEN.out]; omega
          · have e1i : (o : Int) < 10 := by omega
            have e2i : (A : Int) % (2 * (S : Int)) = 0 := by rw [emod_two, e2]; rfl
            have e3i : ¬ (A : Int) + 2 * (S : Int) ≤ (n : Int) := by omega
            clear e2
            have hown := HOWN.out
            obtain ⟨xs, hxs⟩ : ∃ xs, pgs L = xs := ⟨_, rfl⟩
            rw [HAA.out, hxs] at hown
            have HXS := Lib.hid hxs
            have hbz := HB.out.size
            clear hxs
            go_wp2_with (at_builtin; refine wpList_append_own _ (by rfl) _ _ 75 (by rfl) w.heap.size 99 i0 _ 3 24 Try.underlying75 hi hz0 hz1 hz2 (by rfl) (by decide) _ A xs (by rfl) (hown.alloc _) ⟨wr.heap.size, 0, none⟩ 1 1 [.int .i64 0, .int .i64 (o : Int), .int .i64 0] (by rfl) (by rfl) (new3 _ _ _ _ _) (by intro u hu; simp at hu; rcases hu with rfl | rfl | rfl <;> rfl) (by unfold maxLen; omega) (by omega) (by rw [size_alloc]; omega) ?_)
            intro v1 w1 hown1 hg1 _
            have HB1 : Hid (Below w.heap.size w w1) := Lib.hid ((below_one HB.out _).grown hg1 (by rw [size_alloc]; omega) (own_ge hown))
            have HO1 : Hid (w1.ownsRow w.heap.size 99 3 v1 (L ++ part o 1).length (pgs (L ++ part o 1))) := Lib.hid (own_more (x := fh o) HAA.out HXS.out hown1)
            clear hown hown1 hg1
            go_wp2
            go_loopw [3, 6] (fun v y wx => ∃ m : Nat, 1 ≤ m ∧ m ≤ S ∧ y = .int .i64 m ∧ Hid (wx.ownsRow w.heap.size 99 3 v (L ++ part o m).length (pgs (L ++ part o m))) ∧ Hid (Below w.heap.size w wx)) (fun _ y _ => S - (intOf y).toNat)
            case atStart => exact ⟨1, Nat.le_refl _, hS1.1, by first | rfl | go_num, HO1, HB1⟩
            case round =>
              obtain ⟨m, hm1, hm2, rfl, HO2, HB2⟩ := hrel
              have hlen : (L ++ part o m).length = A + m := by rw [List.length_append, part_length o m hm1, HAA.out]
              have HLEN := Lib.hid hlen
              clear hlen
              by_cases hms : m < S
              · have hown := HO2.out
                obtain ⟨ys, hys⟩ : ∃ ys, pgs (L ++ part o m) = ys := ⟨_, rfl⟩
                obtain ⟨N, hN⟩ : ∃ N, A + m = N := ⟨_, rfl⟩
                rw [HLEN.out, hys, hN] at hown
                have HYS := Lib.hid hys
                have HNN : Hid ((L ++ part o m).length = N) := Lib.hid (by rw [HLEN.out, hN])
                have hNn : N < n := by omega
                have hbz2 := HB2.out.size
                clear hys hN
                go_wp2_with (at_builtin; refine wpList_append_own _ (by rfl) _ _ 75 (by rfl) w.heap.size 99 i0 _ 3 24 Try.underlying75 hi hz0 hz1 hz2 (by rfl) (by decide) _ N ys (by rfl) (hown.alloc _) ⟨_, 0, none⟩ 1 1 [.int .i64 1, .int .i64 0, .int .i64 0] (by rfl) (by rfl) (new3 _ _ _ _ _) (by intro u hu; simp at hu; rcases hu with rfl | rfl <;> rfl) (by unfold maxLen; omega) (by omega) (by rw [size_alloc]; omega) ?_)
                intro v2 w2 hown2 hg2 _
                have HB3 : Hid (Below w.heap.size w w2) := Lib.hid ((below_one HB2.out _).grown hg2 (by rw [size_alloc]; omega) (own_ge hown))
                have HO3 : Hid (w2.ownsRow w.heap.size 99 3 v2 (L ++ part o (m + 1)).length (pgs (L ++ part o (m + 1)))) := Lib.hid (by
                  rw [part_more o m hm1, ← List.append_assoc]
                  exact own_more (x := pin) HNN.out HYS.out hown2)
                clear hown hown2 hg2
                go_wp2
                go_roundw
                case rel => exact ⟨m + 1, by omega, by omega, by go_num, HO3, HB3⟩
                case measure => simp [intOf]; omega
              · obtain rfl : m = S := by omega
                have HO4 : Hid (_ ∧ (L ++ blk o).length = A + m) := Lib.hid ⟨by have := HO2.out; rw [← HSS.out, part_all] at this; exact this, by have := HLEN.out; rw [← HSS.out, part_all] at this; rw [this, HSS.out]⟩
                have HP2 : Hid (Pre n (L ++ blk o)) := Lib.hid (HP.out.more ho (by rw [HAA.out]; exact HM.out) (by rw [HAA.out]; exact HFT.out) (by rw [HAA.out]; exact HG.out))
                obtain ⟨a', c', rfl, _, _⟩ := own_shape HO2.out
                go_wp2
                go_roundw
                case rel => exact ⟨L ++ blk o, by rw [HO4.out.2]; exact hfit, HO4.out.1, HP2, HB2⟩
                case measure => dsimp only; rw [HLEN.out]; omega
    · have hAn : L.length = n := by omega
      have HE : Hid (L = ini n) := Lib.hid (HP.out.ini hAn).eq
      have HOWN : Hid (wr.ownsRow w.heap.size 99 3 (.slice va L.length vc) (ini n).length (pgs (ini n))) := Lib.hid (by rw [← HE.out]; exact hown)
      clear hown
      go_wp2
      go_ret
      exact ⟨_, rfl, HOWN.out, HB.out⟩
/-- the table that fresh makes -/
theorem fresh_tab {w : World} {B n : Nat} {v : Value} (h : w.ownsRow B 99 3 v (ini n).length (pgs (ini n))) (h1 : 1 ≤ n) : ∃ g cap, v = .slice (some ⟨g, 0, none⟩) n cap ∧ B ≤ g ∧ (n ≤ cap ∧ cap ≤ maxLen) ∧ TabIs w g n (pg (ini n)) := by
  have := tab_of_own h (by rw [ini_length]; exact h1)
  rwa [ini_length] at this
set_option maxHeartbeats 1000000 in
theorem rNewBad (n : Int) (hn : n < 1 ∨ 1024 < n) (w : World) : Calls Try.prog 25 #[.int .i64 n] w fun e w' => e = .returned (.tuple #[.pointer none, .int .i64 2]) ∧ w' = w := by
  rcases hn with h | h
  · go_enter Try.func25, Try.ntmps25
    go_wp2
    go_ret2
    exact ⟨rfl, rfl⟩
  · go_enter Try.func25, Try.ntmps25
    go_wp2
    go_ret2
    exact ⟨rfl, rfl⟩
theorem bud_new' {w : World} {T : TypeId} {g cap n : Nat} (ht : TabIs w g n (pg (ini n))) (hc : n ≤ cap ∧ cap ≤ maxLen) (h1 : 1 ≤ n) (h2 : n ≤ 1024) : BudAt (w.alloc (.cells #[.slice (some ⟨g, 0, none⟩) n cap] T)) T w.heap.size g cap (ini n) := by
  have hl := ini_length n
  refine ⟨by rw [hl]; exact heap_new _ _, by rw [hl]; exact ht.below (below_one (Below.refl _ _) _), by rw [hl]; exact hc, fun e => ?_, by rw [hl]; exact h1, by rw [hl]; exact h2⟩
  have := ht.lt
  omega
set_option maxHeartbeats 1000000 in
theorem rNew (n : Nat) (h1 : 1 ≤ n) (h2 : n ≤ 1024) (w : World) : Calls Try.prog 25 #[.int .i64 n] w fun e w' => ∃ B g cap, e = .returned (.tuple #[.pointer (some ⟨B, 0, none⟩), .int .i64 0]) ∧ BudAt w' 77 B g cap (ini n) ∧ (w.heap.size ≤ B ∧ w.heap.size ≤ g) ∧ Below w.heap.size w w' := by
  go_enter Try.func25, Try.ntmps25
  go_wp2_with fail
  refine (rFresh n h2 _).mono ?_
  rintro e w1 ⟨v, rfl, hown, hb⟩
  obtain ⟨g, cap, rfl, hg, hc, ht⟩ := fresh_tab hown h1
  have HB := Lib.hid (bud_new' (T := 77) ht hc h1 h2)
  have HBe := Lib.hid (below_one hb (.cells #[.slice (some ⟨g, 0, none⟩) n cap] 77))
  have hsz := hb.size
  clear ht hb hown hc
  go_wp2
  go_ret2
  exact ⟨_, g, cap, rfl, HB.out, ⟨hsz, hg⟩, HBe.out⟩
theorem fresh_shows {w : World} {B n : Nat} {v : Value} (h : w.ownsRow B 99 3 v (ini n).length (pgs (ini n))) : ShowP w v (ini n) := Shows.ofOwns h
section
variable {w : World} {B g cap : Nat} {l : List Pg}
set_option maxHeartbeats 4000000 in
set_option maxRecDepth 100000 in
theorem rWhole (h : BudAt w 77 B g cap l) (q : Bool) (hq : decide (l = ini l.length) = q) :
    Calls Try.prog 59 #[.pointer (some ⟨B, 0, none⟩)] w fun e w' => e = .returned (.bool q) ∧ Below w.heap.size w w' := by
  have HA := Lib.hid h
  have HQ := Lib.hid hq
  have hn1 := h.n1
  have hn2 := h.n2
  have HS := Lib.hid h.self
  clear h hq
  go_enter Try.func59, Try.ntmps59
  go_wp2
  go_region_held3 (fun W => W.cell? ⟨B, 0, none⟩ = some (.slice (some ⟨g, 0, none⟩) l.length cap) ∧ Below w.heap.size w W)
    (first | exact key1 HS.out (by assumption) | exact key1 HS.out (Below.drew (Below.refl _ _)))
    (first
      | (go_at_call 48; refine (rFresh l.length hn2 _).mono ?_; rintro e w4 ⟨v, rfl, hown, h4⟩; have hb4 : Below w.heap.size w w4 := below_then (show _ ∧ Below w.heap.size w _ from by assumption).2 h4; have hs4 : ShowP w4 v (ini l.length) := fresh_shows hown)
      | (go_at_call 81; refine (cSameR _ _ l (ini l.length) _ (HA.out.below (show _ ∧ Below w.heap.size w _ from by assumption).2).shows (by assumption)).mono ?_; rintro e w5 ⟨rfl, h5⟩; have hb5 : Below w.heap.size w w5 := below_then (show _ ∧ Below w.heap.size w _ from by assumption).2 h5))
  all_goals go_wp2
  all_goals go_ret
  all_goals exact ⟨ret_bool HQ.out, (show _ ∧ Below w.heap.size w _ from by assumption).2⟩
end
end Go.Proofs.Ytlljomnpdgmifaa
