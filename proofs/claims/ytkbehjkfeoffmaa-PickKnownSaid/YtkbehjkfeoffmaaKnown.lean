/-
  PickKnown: both ends of all.
-/
import Derived.Test.YtkbehjkfeoffmaaTells
import Derived.Test.YtkbehjkfeoffmaaAll
import Derived.Test.YtkbehjkfeoffmaaGaps
import Derived.Test.YtkbehjkfeoffmaaKTab
set_option linter.unusedVariables false
set_option linter.unusedSimpArgs false
namespace Go.Proofs.Ytkbehjkfeoffmaa
open Go Go.RowKit

theorem key2 {w w' : World} {p q : Addr} {u v : Value} (h : w.cell? p = some u ∧ w.cell? q = some v) (hb : Below w.heap.size w w') : (w'.cell? p = some u ∧ w'.cell? q = some v) ∧ Below w.heap.size w w' :=
  ⟨⟨cell_keep hb h.1, cell_keep hb h.2⟩, hb⟩
theorem key3 {w w' : World} {p q r : Addr} {u v x : Value} (h : w.cell? p = some u ∧ w.cell? q = some v ∧ w.cell? r = some x) (hb : Below w.heap.size w w') : (w'.cell? p = some u ∧ w'.cell? q = some v ∧ w'.cell? r = some x) ∧ Below w.heap.size w w' :=
  ⟨⟨cell_keep hb h.1, cell_keep hb h.2.1, cell_keep hb h.2.2⟩, hb⟩
set_option maxHeartbeats 8000000 in
set_option maxRecDepth 100000 in
theorem walkKnown (W : World) :
    Calls Try.prog 8 #[] W fun e W' => e = .returned (.bool true) ∧ Below W.heap.size W W' := by
  obtain ⟨O, hO, hr⟩ := makeB 50 (by decide)
  have hO0 : ∀ w : World, (Instr.makeSlice 22 (.int .i64 50) (.int .i64 50)).run Try.prog w = .ok (.slice (some ⟨w.heap.size, 0, none⟩) 50 50) (w.alloc O) := hO
  have HK := Lib.hid (know1 W O hr)
  clear hO hr
  go_enter Try.func8, Try.ntmps8
  go_wp2
  obtain ⟨B1, hB1⟩ : ∃ B1, W.heap.size + 1 + 1 + 1 + 1 + 1 + 1 = B1 := ⟨_, rfl⟩
  have HK' := HK.out
  rw [hB1] at HK' ⊢
  obtain ⟨B2, hB2⟩ : ∃ B2, B1 + 1 = B2 := ⟨_, rfl⟩
  rw [hB2] at HK' ⊢
  obtain ⟨ht, he, hb0⟩ := HK'
  clear HK hB1 hB2 hO0
  go_loopw [3] (fun a wr => ∃ i : Nat, i ≤ 7 ∧ a = .int .i64 i ∧ TabB wr B1 ∧ Ends wr B2 ∧ Below W.heap.size W wr) (fun a _ => 7 - (intOf a).toNat)
  case atStart => exact ⟨0, by decide, rfl, ht, he, hb0⟩
  case round =>
    clear ht he hb0
    obtain ⟨i, hi, rfl, ht, he, hb⟩ := hrel
    have HT := Lib.hid ht
    have HE := Lib.hid he
    clear ht he
    by_cases hi7 : i < 7
    · have hi7' : (i : Int) < 7 := by omega
      go_wp2
      go_loopw [4] (fun a wr => ∃ k : Nat, k ≤ 9 ∧ a = .int .i64 k ∧ TabB wr B1 ∧ Ends wr B2 ∧ Below W.heap.size W wr) (fun a _ => 9 - (intOf a).toNat)
      case atStart => exact ⟨0, by decide, rfl, HT.out, HE.out, hb⟩
      case round =>
        clear HT HE hb
        obtain ⟨k, hk, rfl, ht, he, hb⟩ := hrel
        by_cases hk9 : k < 9
        · obtain ⟨v, l, hc1, hs, hl⟩ := ht i hi7
          obtain ⟨x, hc2⟩ := he k hk9
          have HC := Lib.hid (And.intro hc1 hc2)
          have HS := Lib.hid hs
          have HL := Lib.hid hl
          have HT := Lib.hid ht
          have HE := Lib.hid he
          have HB := Lib.hid hb
          clear hs hl ht he hb hc1 hc2
          go_wp2
          go_region_held3 (fun w' => (w'.cell? ⟨B1, i, none⟩ = some v ∧ w'.cell? ⟨B2, k, none⟩ = some (.int .i64 x)) ∧ Below wr.heap.size wr w')
            (first | exact key2 HC.out (by assumption) | exact key2 HC.out (Below.drew (Below.refl _ _)))
            (first
              | (go_at_call 3; refine (walkTells v l x HL.out _ (HS.out.below (show _ ∧ Below wr.heap.size wr _ from by assumption).2)).mono ?_; rintro e w5 ⟨rfl, h5⟩; have hb5 : Below wr.heap.size wr w5 := below_then (show _ ∧ Below wr.heap.size wr _ from by assumption).2 h5)
              | (go_at_call 5; refine (walkAll v l x _ (HS.out.below (show _ ∧ Below wr.heap.size wr _ from by assumption).2)).mono ?_; rintro e w6 ⟨rfl, h6⟩; have hb6 : Below wr.heap.size wr w6 := below_then (show _ ∧ Below wr.heap.size wr _ from by assumption).2 h6))
          go_wp2
          go_roundw
          case rel => exact ⟨k + 1, by omega, by go_num, HT.out.below hb6, HE.out.below hb6, below_then HB.out hb6⟩
          case measure => simp [intOf]; omega
        · obtain rfl : k = 9 := by omega
          have HT := Lib.hid ht
          have HE := Lib.hid he
          clear ht he
          go_wp2
          go_roundw
          case rel => exact ⟨i + 1, by omega, by go_num, HT.out, HE.out, hb⟩
          case measure => simp [intOf]; omega
    · obtain rfl : i = 7 := by omega
      rw [show ((7 : Nat) : Int) = 7 from rfl]
      have HK := Lib.hid (know2 wr)
      go_wp2
      obtain ⟨B3, hB3⟩ : ∃ B3, wr.heap.size + 1 + 1 + 1 + 1 + 1 + 1 = B3 := ⟨_, rfl⟩
      have HK' := HK.out
      rw [hB3] at HK' ⊢
      obtain ⟨ht3, hb3⟩ := HK'
      have he3 := HE.out.below hb3
      have hbw3 := below_then hb hb3
      clear HK hB3 HT HE hb hb3
      go_loopw [6] (fun a wr => ∃ i : Nat, i ≤ 7 ∧ a = .int .i64 i ∧ TabI wr B3 ∧ Ends wr B2 ∧ Below W.heap.size W wr) (fun a _ => 7 - (intOf a).toNat)
      case atStart => exact ⟨0, by decide, rfl, ht3, he3, hbw3⟩
      case round =>
        clear ht3 he3 hbw3
        obtain ⟨i, hi, rfl, ht, he, hb⟩ := hrel
        have HT := Lib.hid ht
        have HE := Lib.hid he
        clear ht he
        by_cases hi7 : i < 7
        · have hi7' : (i : Int) < 7 := by omega
          go_wp2
          go_loopw [7] (fun a wr => ∃ k : Nat, k ≤ 9 ∧ a = .int .i64 k ∧ TabI wr B3 ∧ Ends wr B2 ∧ Below W.heap.size W wr) (fun a _ => 9 - (intOf a).toNat)
          case atStart => exact ⟨0, by decide, rfl, HT.out, HE.out, hb⟩
          case round =>
            clear HT HE hb
            obtain ⟨k, hk, rfl, ht, he, hb⟩ := hrel
            have HT := Lib.hid ht
            have HE := Lib.hid he
            clear ht he
            by_cases hk9 : k < 9
            · have hk9' : (k : Int) < 9 := by omega
              go_wp2
              go_loopw [8] (fun a wr => ∃ j : Nat, j ≤ 9 ∧ a = .int .i64 j ∧ TabI wr B3 ∧ Ends wr B2 ∧ Below W.heap.size W wr) (fun a _ => 9 - (intOf a).toNat)
              case atStart => exact ⟨0, by decide, rfl, HT.out, HE.out, hb⟩
              case round =>
                clear HT HE hb
                obtain ⟨j, hj, rfl, ht, he, hb⟩ := hrel
                by_cases hj9 : j < 9
                · obtain ⟨v, l, hc1, hs⟩ := ht i hi7
                  obtain ⟨x, hc2⟩ := he k hk9
                  obtain ⟨y, hc3⟩ := he j hj9
                  have HC := Lib.hid (And.intro hc1 (And.intro hc2 hc3))
                  have HS := Lib.hid hs
                  have HT := Lib.hid ht
                  have HE := Lib.hid he
                  have HB := Lib.hid hb
                  clear hs ht he hb hc1 hc2 hc3
                  go_wp2
                  go_region_held3 (fun w' => (w'.cell? ⟨B3, i, none⟩ = some v ∧ w'.cell? ⟨B2, k, none⟩ = some (.int .i64 x) ∧ w'.cell? ⟨B2, j, none⟩ = some (.int .i64 y)) ∧ Below wr.heap.size wr w')
                    (first | exact key3 HC.out (by assumption) | exact key3 HC.out (Below.drew (Below.refl _ _)))
                    (first
                      | (go_at_call 4; refine (walkGaps v l x y _ (HS.out.below (show _ ∧ Below wr.heap.size wr _ from by assumption).2)).mono ?_; rintro e w5 ⟨rfl, h5⟩; have hb5 : Below wr.heap.size wr w5 := below_then (show _ ∧ Below wr.heap.size wr _ from by assumption).2 h5))
                  go_wp2
                  go_roundw
                  case rel => exact ⟨j + 1, by omega, by go_num, HT.out.below hb5, HE.out.below hb5, below_then HB.out hb5⟩
                  case measure => simp [intOf]; omega
                · obtain rfl : j = 9 := by omega
                  have HT := Lib.hid ht
                  have HE := Lib.hid he
                  clear ht he
                  go_wp2
                  go_roundw
                  case rel => exact ⟨k + 1, by omega, by go_num, HT.out, HE.out, hb⟩
                  case measure => simp [intOf]; omega
            · obtain rfl : k = 9 := by omega
              go_wp2
              go_roundw
              case rel => exact ⟨i + 1, by omega, by go_num, HT.out, HE.out, hb⟩
              case measure => simp [intOf]; omega
        · obtain rfl : i = 7 := by omega
          obtain ⟨v, l, hc, hs⟩ := HT.out 3 (by decide)
          have HS := Lib.hid hs
          have HC := Lib.hid hc
          clear HT HE hs hc
          go_wp2_with fail
          refine (works _).mono ?_
          rintro e w5 ⟨rfl, h5⟩
          have hc5 := cell_keep h5 HC.out
          have hs5 := HS.out.below h5
          have hb5 := below_then hb h5
          go_wp2_with fail
          refine (walkGaps v l 8 1 _ hs5).mono ?_
          rintro e w6 ⟨rfl, h6⟩
          have hc6 := cell_keep h6 hc5
          have hs6 := hs5.below h6
          have hb6 := below_then hb5 h6
          clear hc5 h5 h6 hs5 hb5
          go_wp2_with fail
          refine (walkGaps v l 9 9 _ hs6).mono ?_
          rintro e w7 ⟨rfl, h7⟩
          have hc7 := cell_keep h7 hc6
          have hs7 := hs6.below h7
          have hb7 := below_then hb6 h7
          clear hc6 h7 hs6 hb6
          go_wp2_with fail
          refine (walkGaps v l 3 3 _ hs7).mono ?_
          rintro e w8 ⟨rfl, h8⟩
          have hb8 := below_then hb7 h8
          go_wp2
          go_ret
          exact ⟨rfl, hb8⟩
end Go.Proofs.Ytkbehjkfeoffmaa
