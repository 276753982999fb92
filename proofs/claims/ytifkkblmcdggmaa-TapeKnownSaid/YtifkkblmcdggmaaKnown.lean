/-
  The walk of TapeKnown.
-/
import Derived.Test.YtifkkblmcdggmaaFull
import Derived.Deep.Cut
import Derived.Deep.CutRange
set_option linter.unusedVariables false
set_option linter.unusedSimpArgs false
namespace Go.Proofs.Ytifkkblmcdggmaa
open Go Go.RowKit

set_option maxHeartbeats 1000000 in
set_option maxRecDepth 100000 in
theorem walkKnown (w : World) :
    Calls Try.prog 8 #[] w fun e w' => e = .returned (.bool true) ∧ Below w.heap.size w w' := by
  obtain ⟨O8, hm1, hr1⟩ := make8
  obtain ⟨OI, hm2, hr2⟩ : ∃ O : Obj, (∀ w : World, (Instr.makeSlice 23 (.int .i64 4096) (.int .i64 4096)).run Try.prog w = .ok (.slice (some ⟨w.heap.size, 0, none⟩) 4096 4096) (w.alloc O)) ∧ ∀ w : World, (w.alloc O).rowIs w.heap.size 3 4096 (fun _ => .int .i64 0) := makeInts 4096 (by decide)
  obtain ⟨OC, hm3, hr3⟩ := make64
  obtain ⟨O1, hm4, hr4⟩ := make1
  obtain ⟨OB, hm5, hr5⟩ : ∃ O : Obj, (∀ w : World, (Instr.makeSlice 27 (.int .i64 9000) (.int .i64 9000)).run Try.prog w = .ok (.slice (some ⟨w.heap.size, 0, none⟩) 9000 9000) (w.alloc O)) ∧ ∀ w : World, (w.alloc O).rowIs w.heap.size 5 9000 (fun _ => .int .u8 0) := makeBytes 9000 (by decide)
  have HR5 := Lib.hid hr5
  have HR4 := Lib.hid hr4
  have HR1 := Lib.hid hr1
  have HR2 := Lib.hid hr2
  have HR3 := Lib.hid hr3
  clear hr1 hr2 hr3 hr4 hr5
  go_enter Try.func8, Try.ntmps8
  go_upto_region 1 with fail
  go_cut [1] from 8 to 10 (fun s1 wx => ∃ g gc gp : Nat, s1 = .pointer (some ⟨g, 0, none⟩) ∧ Full w wx g gc gp 0)
  case first =>
    go_region
    all_goals (go_wp2; go_meet)
    · exact ⟨_, _, _, rfl, full_start (row_3 (self_new _ _ _)) (row_1 (HR1.out _)) (row_2 (HR2.out _)) (by omega) (by omega) (below_3 _ _ _ _)⟩
    · exact ⟨_, _, _, rfl, full_start (row_2 (self_new _ _ _)) (row_1 (HR1.out _)) (row_3 (HR2.out _)) (by omega) (by omega) (below_3 _ _ _ _)⟩
    · exact ⟨_, _, _, rfl, full_start (row_3 (self_new _ _ _)) (row_2 (HR1.out _)) (row_1 (HR2.out _)) (by omega) (by omega) (below_3 _ _ _ _)⟩
    · exact ⟨_, _, _, rfl, full_start (row_2 (self_new _ _ _)) (row_3 (HR1.out _)) (row_1 (HR2.out _)) (by omega) (by omega) (below_3 _ _ _ _)⟩
    · exact ⟨_, _, _, rfl, full_start (row_1 (self_new _ _ _)) (row_2 (HR1.out _)) (row_3 (HR2.out _)) (by omega) (by omega) (below_3 _ _ _ _)⟩
    · exact ⟨_, _, _, rfl, full_start (row_1 (self_new _ _ _)) (row_3 (HR1.out _)) (row_2 (HR2.out _)) (by omega) (by omega) (below_3 _ _ _ _)⟩
  case rest =>
    obtain ⟨g, gc, gp, rfl, hF⟩ := hcut
    go_wp2
    go_loopw [2] (fun i wr => ∃ j : Nat, j ≤ 8 ∧ i = .int .i64 j ∧ Full w wr g gc gp j) (fun i _ => 8 - (intOf i).toNat)
    case atStart => exact ⟨0, by omega, rfl, hF⟩
    case round =>
      obtain ⟨j, hj, rfl, hFr⟩ := hrel
      by_cases hlt : j < 8
      · obtain ⟨_, _, hc2, _⟩ := hFr.cells
        obtain ⟨_, _, hc2', _⟩ := (hFr.alloc OC).cells
        obtain ⟨u, ho1, ho2⟩ := (hFr.alloc OC).open.1 j hlt
        go_wp2
        go_region
        all_goals go_wp2
        all_goals (go_roundw)
        case measure => simp [intOf]; omega
        all_goals exact ⟨j + 1, by omega, by go_num, (hFr.new (HR3.out wr)).drew⟩
      · have hje : j = 8 := by omega
        subst hje
        clear hj hlt
        obtain ⟨_, _, hc2, hc3⟩ := hFr.cells
        obtain ⟨b, hb7, hrow, hbp, hbg, hop⟩ := hFr.last
        obtain ⟨u0, p0, q0⟩ := hop 252 (by decide)
        obtain ⟨u1, p1, q1⟩ := hop 253 (by decide)
        obtain ⟨u2, p2, q2⟩ := hop 254 (by decide)
        obtain ⟨u3, p3, q3⟩ := hop 255 (by decide)
        clear hop
        go_upto_region 7 with fail
        have hF2 := hFr.call hrow 252 253 254 255 13 255 65535 255
        clear hFr hc2 hc3 hb7 hrow p0 q0 p1 q1 p2 q2 p3 q3
        generalize ((((wr.setCell ⟨b, 252, none⟩ (.int .i64 13)).setCell ⟨b, 253, none⟩ (.int .i64 255)).setCell ⟨b, 254, none⟩ (.int .i64 65535)).setCell ⟨b, 255, none⟩ (.int .i64 255)) = W2 at hF2 ⊢
        obtain ⟨_, _, _, hc3⟩ := hF2.cells
        obtain ⟨uq, p0, q0⟩ := hF2.open.2 4095 (by decide)
        go_upto_region 8 with fail
        have hF3 := hF2.pick 4095 255
        clear hF2 hc3 p0 q0
        generalize W2.setCell ⟨gp, 4095, none⟩ (.int .i64 255) = W3 at hF3 ⊢
        obtain ⟨S, hS, hs1, hs2, hs3⟩ := hF3.shows
        have HS1 := Lib.hid hs1
        have HS2 := Lib.hid hs2
        have HS3 := Lib.hid hs3
        clear hs1 hs2 hs3
        have hkc := hF3.cells
        have hbw := hF3.below
        clear hF3
        obtain ⟨c0, c1, c2, c3⟩ := (show _ ∧ _ ∧ _ ∧ _ from hkc)
        go_wp2_with fail
        refine (walkWhole _ S _ hS).mono ?_
        rintro e w1 ⟨rfl, hb1⟩
        replace hkc := keep4 hkc hb1
        replace hS := hS.below hb1
        replace hbw := below_then hbw hb1
        clear c0 c1 c2 c3
        obtain ⟨c0, c1, c2, c3⟩ := (show _ ∧ _ ∧ _ ∧ _ from hkc)
        go_wp2_with fail
        refine (walkBytes _ S _ hS (by rw [HS1.out]; decide) (by rw [HS2.out]; decide) (fun l hl => by rw [HS3.out l hl]; decide)).mono ?_
        rintro e w2 ⟨rfl, hb2⟩
        replace hkc := keep4 hkc hb2
        replace hS := hS.below hb2
        replace hbw := below_then hbw hb2
        clear c0 c1 c2 c3
        obtain ⟨c0, c1, c2, c3⟩ := (show _ ∧ _ ∧ _ ∧ _ from hkc)
        go_wp2_with fail
        refine (walkApart _ _ S S 3 _ hS hS (by decide) (by decide)).mono ?_
        rintro e w3 ⟨rfl, hb3⟩
        replace hbw := below_then hbw hb3
        clear c0 c1 c2 c3 hkc hS
        go_upto_region 11 with fail
        clear hm1 hm2 hm3
        have hL := one_lists (HR4.out w3)
        have hL1 := hL.below (below_one (Below.refl _ _) (.cells #[.int .i64 1, .int .i64 1, .slice (some ⟨w3.heap.size, 0, none⟩) 1 1, .slice none 0 0] 25))
        have hk1 := self4 (heap_new (w3.alloc O1) (.cells #[.int .i64 1, .int .i64 1, .slice (some ⟨w3.heap.size, 0, none⟩) 1 1, .slice none 0 0] 25))
        rw [size_alloc] at hk1
        have hbw1 : Below w.heap.size w ((w3.alloc O1).alloc (.cells #[.int .i64 1, .int .i64 1, .slice (some ⟨w3.heap.size, 0, none⟩) 1 1, .slice none 0 0] 25)) := below_one (below_one hbw _) _
        clear hL hbw hm4
        obtain ⟨k3, hk3⟩ : ∃ k3, w3.heap.size + 1 = k3 := ⟨_, rfl⟩
        rw [hk3] at hk1 ⊢
        generalize w3.heap.size = gl at *
        generalize ((w3.alloc O1).alloc (.cells #[.int .i64 1, .int .i64 1, .slice (some ⟨gl, 0, none⟩) 1 1, .slice none 0 0] 25)) = W5 at *
        clear hk3
        go_cut [4] from 45 to 90 (fun s4 wx => PBads s4 wx ∧ Below W5.heap.size W5 wx)
        case first =>
          refine Eq.mp (congrArg (fun o => (Code.region 11 o true).wp Try.prog _ _ _) (?hops : ops11 = _)) ?hreg
          case hops => kernel_rfl
          case hreg =>
            refine region11 (by rfl) (by rfl) hk1.2.2.1 hL1 ?_
            intro a wx hb hd hs ho hP
            obtain ⟨ρ, e4, rfl⟩ := act_puts hd hs (by rfl) ho
            rw [← e4] at hP
            clear e4 hd hs ho
            go_wp2
            refine Met.intro ?_
            rename_i hJ
            exact hJ _ _ ⟨ρ 4, ρ 45, ρ 46, ρ 47, ρ 48, ρ 49, ρ 50, ρ 51, ρ 52, ρ 53, ρ 54, ρ 55, ρ 56, ρ 57, ρ 58, ρ 59, ρ 60, ρ 61, ρ 62, ρ 63, ρ 64, ρ 65, ρ 66, ρ 67, ρ 68, ρ 69, ρ 70, ρ 71, ρ 72, ρ 73, ρ 74, ρ 75, ρ 76, ρ 77, ρ 78, ρ 79, ρ 80, ρ 81, ρ 82, ρ 83, ρ 84, ρ 85, ρ 86, ρ 87, ρ 88, ρ 89, ρ 90, ⟨hP, hb⟩, by kernel_rfl⟩
        case rest =>
          obtain ⟨hP, hb5⟩ := hcut
          have hk1 := keep4 hk1 hb5
          have hOne : ShowScr wc (.agg #[.int .i64 1, .int .i64 1, .slice (some ⟨gl, 0, none⟩) 1 1, .slice none 0 0]) ⟨1, 1, [[]], []⟩ := ⟨_, _, rfl, hL1.below hb5, Shows.nil _ _⟩
          have hbw := below_then hbw1 hb5
          obtain ⟨gb, rfl, hbad⟩ := bad_at hP (Below.refl _ _)
          have HBAD := Lib.hid hbad
          clear hbad hP hL1 hbw1 hb5
          go_wp2
          go_loopw [5] (fun i wr => ∃ j : Nat, j ≤ 14 ∧ i = .int .i64 j ∧ Below wc.heap.size wc wr) (fun i _ => 14 - (intOf i).toNat)
          case atStart => exact ⟨0, by omega, rfl, Below.refl _ _⟩
          case round =>
            obtain ⟨j, hj, rfl, hbr⟩ := hrel
            by_cases hlt : j < 14
            · obtain ⟨S, x, y, a1, n1, c1, a2, n2, c2, HNO, HSM, hd, hS⟩ := HBAD.out wr hbr j hlt
              obtain ⟨d0, d1, d2, d3⟩ := (show _ ∧ _ ∧ _ ∧ _ from hd)
              go_wp2_with fail
              refine (wCheck (n := 2) (by rw [HNO.out]; rfl) _ hS).mono ?_
              rintro e w1 ⟨rfl, hb1⟩
              replace hd := keepc hd hb1
              replace hS := hS.below hb1
              have hbr1 := below_then hbr hb1
              clear d0 d1 d2 d3
              obtain ⟨d0, d1, d2, d3⟩ := (show _ ∧ _ ∧ _ ∧ _ from hd)
              go_wp2_with fail
              refine (walkWhole _ S _ hS).mono ?_
              rintro e w2 ⟨rfl, hb2⟩
              replace hd := keepc hd hb2
              replace hS := hS.below hb2
              have hbr2 := below_then hbr1 hb2
              clear d0 d1 d2 d3
              obtain ⟨d0, d1, d2, d3⟩ := (show _ ∧ _ ∧ _ ∧ _ from hd)
              go_wp2_with fail
              refine (walkBytes _ S _ hS (by have := HSM.out.1; omega) (by have := HSM.out.2.1; omega) (fun l hl => by have := HSM.out.2.2 l hl; omega)).mono ?_
              rintro e w3 ⟨rfl, hb3⟩
              have hbr3 := below_then hbr2 hb3
              go_wp2
              go_roundw
              case rel => exact ⟨j + 1, by omega, by go_num, hbr3⟩
              case measure => simp [intOf]; omega
            · have hje : j = 14 := by omega
              subst hje
              clear hj hlt
              rw [show ((14 : Nat) : Int) = 14 from rfl]
              replace hk1 := keep4 hk1 hbr
              replace hOne := hOne.below hbr
              replace hbw := below_then hbw hbr
              clear hbr
              go_wp2
              go_loopw [6] (fun i wx => ∃ j : Nat, j ≤ 256 ∧ i = .int .i64 j ∧ Below wr.heap.size wr wx) (fun i _ => 256 - (intOf i).toNat)
              case atStart => exact ⟨0, by omega, rfl, Below.refl _ _⟩
              case round =>
                obtain ⟨j, hj, rfl, hbx⟩ := hrel
                by_cases hlt : j < 256
                · go_wp2_with fail
                  have hsh := lit10 wr (j : Int) ((j : Int) * 3 % 256) j j j 1 2 3 4 j
                  have hy : Bytey [(j : Int), (j : Int) * 3 % 256, j, j, j, 1, 2, 3, 4, j] := by
                    intro x hx
                    simp only [List.mem_cons, List.not_mem_nil, or_false] at hx
                    omega
                  have hlen : [(j : Int), (j : Int) * 3 % 256, j, j, j, 1, 2, 3, 4, j].length = 10 := rfl
                  have hbx1 := below_one hbx (.cells #[.int .u8 (j : Int), .int .u8 ((j : Int) * 3 % 256), .int .u8 j, .int .u8 j, .int .u8 j, .int .u8 1, .int .u8 2, .int .u8 3, .int .u8 4, .int .u8 j] 5)
                  generalize (wr.alloc (.cells #[.int .u8 (j : Int), .int .u8 ((j : Int) * 3 % 256), .int .u8 j, .int .u8 j, .int .u8 j, .int .u8 1, .int .u8 2, .int .u8 3, .int .u8 4, .int .u8 j] 5)) = W7 at hsh hbx1 ⊢
                  generalize [(j : Int), (j : Int) * 3 % 256, j, j, j, 1, 2, 3, 4, j] = L at hsh hy hlen
                  generalize wr.heap.size = kb at hsh ⊢
                  have HLEN := Lib.hid hlen
                  have HY := Lib.hid hy
                  clear hlen hy
                  refine (walkScripts _ L _ hsh HY.out (by rw [HLEN.out]; decide)).mono ?_
                  rintro e w1 ⟨rfl, hb1⟩
                  replace hsh := hsh.below hb1
                  have hbx2 := below_then hbx1 hb1
                  go_wp2_with fail
                  refine (walkBack _ L _ hsh HY.out).mono ?_
                  rintro e w2 ⟨rfl, hb2⟩
                  replace hsh := hsh.below hb2
                  have hbx3 := below_then hbx2 hb2
                  go_wp2_with fail
                  have hm10 : j % 10 ≤ L.length := by
                    rw [HLEN.out]
                    omega
                  refine (walkScripts _ (L.take (j % 10)) _ (hsh.take (j % 10) hm10) (fun x hx => HY.out x (List.mem_of_mem_take hx)) (by
                    have := List.length_take_le (j % 10) L
                    rw [HLEN.out] at hm10
                    omega)).mono ?_
                  rintro e w3 ⟨rfl, hb3⟩
                  have hbx4 := below_then hbx3 hb3
                  go_wp2
                  go_roundw
                  case rel => exact ⟨j + 1, by omega, by go_num, hbx4⟩
                  case measure => simp [intOf]; omega
                · have hje : j = 256 := by omega
                  subst hje
                  clear hj hlt
                  replace hk1 := keep4 hk1 hbx
                  replace hOne := hOne.below hbx
                  replace hbw := below_then hbw hbx
                  clear hbx
                  obtain ⟨d0, d1, d2, d3⟩ := (show _ ∧ _ ∧ _ ∧ _ from hk1)
                  go_wp2_with fail
                  refine (works _).mono ?_
                  rintro e w1 ⟨rfl, hb1⟩
                  replace hk1 := keep4 hk1 hb1
                  replace hOne := hOne.below hb1
                  replace hbw := below_then hbw hb1
                  clear d0 d1 d2 d3
                  obtain ⟨d0, d1, d2, d3⟩ := (show _ ∧ _ ∧ _ ∧ _ from hk1)
                  go_wp2_with fail
                  refine (walkWhole _ _ _ hOne).mono ?_
                  rintro e w2 ⟨rfl, hb2⟩
                  replace hbw := below_then hbw hb2
                  clear d0 d1 d2 d3
                  go_wp2_with fail
                  refine (walkBack _ _ _ (zeros_show (by decide) (HR5.out w2)) ?_).mono ?_
                  · intro x hx
                    rw [List.eq_of_mem_replicate hx]
                    decide
                  · rintro e w3 ⟨rfl, hb3⟩
                    replace hbw := below_then (below_one hbw _) hb3
                    go_wp2
                    go_ret
                    exact ⟨rfl, hbw⟩
end Go.Proofs.Ytifkkblmcdggmaa
