/-
  FrameKnown: tables that may not be; both ends.
-/
import Derived.Test.YtdhjpoplgbcgjaaBig
import Derived.Test.YtdhjpoplgbcgjaaSum
import Derived.Test.YtdhjpoplgbcgjaaStays
import Derived.Test.YtdhjpoplgbcgjaaSets
set_option linter.unusedVariables false
set_option linter.unusedSimpArgs false
namespace Go.Proofs.Ytdhjpoplgbcgjaa
open Go Go.RowKit

theorem walkSetsE (u : Value) (page k o ch : Int) (W : World) (hs : ∃ l, ShowP W u l) :
    Calls Try.prog 4 #[u, .int .i64 page, .agg #[.int .i64 k, .int .i64 o, .int .i64 ch]] W fun e W' => e = .returned (.bool true) ∧ Below W.heap.size W W' := by
  obtain ⟨l, hs⟩ := hs
  exact walkSets u l page _ ⟨k, o, ch⟩ W hs rfl
theorem walkStaysE (u : Value) (page k o ch : Int) (W : World) (hs : ∃ l, ShowP W u l) :
    Calls Try.prog 5 #[u, .int .i64 page, .agg #[.int .i64 k, .int .i64 o, .int .i64 ch]] W fun e W' => e = .returned (.bool true) ∧ Below W.heap.size W W' := by
  obtain ⟨l, hs⟩ := hs
  exact walkStays u l page _ ⟨k, o, ch⟩ W hs rfl
theorem zshow {w : World} {g : Nat} {f : Nat → Pg} (t : TabIs w g 8 f) : ∃ l, ShowP w (.slice (some ⟨g, 0, none⟩) 8 8) l := ⟨_, t.showsF ⟨Nat.le_refl _, by unfold maxLen; decide⟩⟩
theorem bad_cells {w : World} {B i : Nat} (h : ShowP w (.slice (some ⟨B, 0, none⟩) 11 11) badL) (hi : i < 11) : w.cell? ⟨B, i * 3, none⟩ = some (.int .i64 (pg badL i).kind) ∧ w.cell? ⟨B, i * 3 + 1, none⟩ = some (.int .i64 (pg badL i).order) ∧ w.cell? ⟨B, i * 3 + 2, none⟩ = some (.int .i64 (pg badL i).cache) := by
  obtain ⟨ao, cap, e, _, hat⟩ := h.form
  cases e
  obtain ⟨b, o, e, c0, c1, c2⟩ := hat i hi
  cases e
  rw [Nat.zero_add] at c0 c1 c2
  exact ⟨c0, c1, c2⟩
theorem key3 {w w' : World} {p q r : Addr} {u v x : Value} (h : w.cell? p = some u ∧ w.cell? q = some v ∧ w.cell? r = some x) (hb : Below w.heap.size w w') : (w'.cell? p = some u ∧ w'.cell? q = some v ∧ w'.cell? r = some x) ∧ Below w.heap.size w w' :=
  ⟨⟨cell_keep hb h.1, cell_keep hb h.2.1, cell_keep hb h.2.2⟩, hb⟩
set_option maxHeartbeats 8000000 in
set_option maxRecDepth 100000 in
theorem walkKnown (W : World) :
    Calls Try.prog 7 #[] W fun e W' => e = .returned (.bool true) ∧ Below W.heap.size W W' := by
  obtain ⟨O1, hO1, hr1⟩ := makeP 1024 (by decide)
  obtain ⟨O2, hO2, hr2⟩ := makeP 1025 (by decide)
  have hm1 : ∀ w : World, (Instr.makeSlice 22 (.int .i64 1024) (.int .i64 1024)).run Try.prog w = .ok (.slice (some ⟨w.heap.size, 0, none⟩) 1024 1024) (w.alloc O1) := hO1
  have hm2 : ∀ w : World, (Instr.makeSlice 22 (.int .i64 1025) (.int .i64 1025)).run Try.prog w = .ok (.slice (some ⟨w.heap.size, 0, none⟩) 1025 1025) (w.alloc O2) := hO2
  obtain ⟨O8, hO8, hr8⟩ := makeP 8 (by decide)
  obtain ⟨O7, hO7, hr7⟩ := makeP 7 (by decide)
  obtain ⟨O3, hO3, hr3⟩ := makeP 3 (by decide)
  have hm8 : ∀ w : World, (Instr.makeSlice 22 (.int .i64 8) (.int .i64 8)).run Try.prog w = .ok (.slice (some ⟨w.heap.size, 0, none⟩) 8 8) (w.alloc O8) := hO8
  have hm7 : ∀ w : World, (Instr.makeSlice 22 (.int .i64 7) (.int .i64 7)).run Try.prog w = .ok (.slice (some ⟨w.heap.size, 0, none⟩) 7 7) (w.alloc O7) := hO7
  have hm3 : ∀ w : World, (Instr.makeSlice 22 (.int .i64 3) (.int .i64 3)).run Try.prog w = .ok (.slice (some ⟨w.heap.size, 0, none⟩) 3 3) (w.alloc O3) := hO3
  have HR1 := Lib.hid hr1
  have HR2 := Lib.hid hr2
  have HR8 := Lib.hid hr8
  have HR7 := Lib.hid hr7
  have HR3 := Lib.hid hr3
  clear hO1 hO2 hr1 hr2 hO8 hO7 hO3 hr8 hr7 hr3
  have HT0 : Hid (TabIs (W.alloc O1) W.heap.size 1024 (bigF 1)) := Lib.hid ((HR1.out W).congr (fun i _ => bigF_start i))
  have HB0 : Hid (Below W.heap.size W (W.alloc O1)) := Lib.hid (below_one (Below.refl _ _) _)
  go_enter Try.func7, Try.ntmps7
  go_wp2
  go_loopw [2] (fun x wr => ∃ k : Nat, 1 ≤ k ∧ k ≤ 1024 ∧ x = .int .i64 k ∧ Hid (TabIs wr W.heap.size 1024 (bigF k)) ∧ Hid (Below W.heap.size W wr)) (fun x _ => 1024 - (intOf x).toNat)
  case atStart => exact ⟨1, Nat.le_refl _, by decide, rfl, HT0, HB0⟩
  case round =>
    clear HT0 HB0
    obtain ⟨k, hk1, hk, rfl, HT, HB⟩ := hrel
    by_cases hlt : k < 1024
    · have hki : (k : Int) < 1024 := by omega
      have c0 := (HT.out.cells hlt).1
      have f0 := HT.out.frozen (k * 3)
      have HTN := Lib.hid ((HT.out.setKind k 1).congr (fun i _ => bigF_step k i hk1))
      have HBN := Lib.hid (HB.out.setCell (p := ⟨W.heap.size, k * 3, none⟩) (Nat.le_refl _) (.int .i64 1))
      go_wp2
      go_roundw
      case rel => exact ⟨k + 1, by omega, by omega, by go_num, HTN, HBN⟩
      case measure => simp [intOf]; omega
    · have hke : k = 1024 := by omega
      subst hke
      obtain ⟨c0, c1, c2⟩ := HT.out.cells (show 0 < 1024 by decide)
      have f0 := HT.out.frozen 1
      have HTG := Lib.hid ((HT.out.setOrder 10).congr (fun i _ => bigG_is i))
      have HBG := Lib.hid (HB.out.setCell (p := ⟨W.heap.size, 1, none⟩) (Nat.le_refl _) (.int .i64 10))
      have HSG : Hid (ShowP (wr.setCell ⟨W.heap.size, 1, none⟩ (.int .i64 10)) (.slice (some ⟨W.heap.size, 0, none⟩) 1024 1024) bigL) := Lib.hid (HTG.out.showsF ⟨Nat.le_refl _, by unfold maxLen; decide⟩)
      go_wp2_with fail
      refine (cHead _ bigL 1023 0 0 bigL_head _ HSG.out).mono ?_
      rintro e w1 ⟨rfl, hb⟩
      have hb1 := below_then HBG.out hb
      have HS1 := Lib.hid (HSG.out.below hb)
      clear hb c0 c1 c2 f0 HTG HBG HSG HT HB
      go_wp2_with fail
      refine (cCheck _ bigL 0 bigL_check _ HS1.out).mono ?_
      rintro e w2 ⟨rfl, hb⟩
      have hb2 := below_then hb1 hb
      have HS2 := Lib.hid (HS1.out.below hb)
      clear hb HS1 hb1
      go_wp2_with fail
      refine (cFree _ bigL 1024 bigL_free _ HS2.out).mono ?_
      rintro e w3 ⟨rfl, hb⟩
      have hb3 := below_then hb2 hb
      have HS3 := Lib.hid (HS2.out.below hb)
      clear hb HS2 hb2
      go_wp2_with fail
      refine (cCheck _ (zeros 1025) 50 (zeros_no 1025 (by decide)) _ (zeros_show (HR2.out _) (by decide))).mono ?_
      rintro e w4 ⟨rfl, hb⟩
      have hb4 := below_then (below_one hb3 O2) hb
      have HS4 := Lib.hid ((HS3.out.below (below_one (Below.refl _ _) O2)).below hb)
      clear hb HS3 hb3
      go_wp2_with fail
      refine (cCheck _ (zeros 1024) 0 (zeros_check 1024 (by decide) (by decide)) _ (zeros_show (HR1.out _) (by decide))).mono ?_
      rintro e w5 ⟨rfl, hb⟩
      have hb5 := below_then (below_one hb4 O1) hb
      have HS5 := Lib.hid ((HS4.out.below (below_one (Below.refl _ _) O1)).below hb)
      clear hb HS4 hb4
      go_wp2
      have HSB : Hid (ShowP (w5.alloc (.cells (pgs badL).toArray 31)) (.slice (some ⟨w5.heap.size, 0, none⟩) 11 11) badL) := Lib.hid (show_lit w5 badL 11 rfl (by decide))
      have HSG := Lib.hid (HS5.out.below (below_one (Below.refl _ _) (.cells (pgs badL).toArray 31)))
      have HBG := Lib.hid (below_one hb5 (.cells (pgs badL).toArray 31))
      clear HS5 hb5
      go_loopw [6] (fun x wr => ∃ i : Nat, i ≤ 11 ∧ x = .int .i64 i ∧ Hid (ShowP wr (.slice (some ⟨w5.heap.size, 0, none⟩) 11 11) badL) ∧ Hid (ShowP wr (.slice (some ⟨W.heap.size, 0, none⟩) 1024 1024) bigL) ∧ Hid (Below W.heap.size W wr)) (fun x _ => 11 - (intOf x).toNat)
      case atStart => exact ⟨0, by decide, rfl, HSB, HSG, HBG⟩
      case round =>
        clear HSB HSG HBG
        obtain ⟨i, hi, rfl, HSB, HSG, HBG⟩ := hrel
        by_cases hi11 : i < 11
        · have hi11' : (i : Int) < 11 := by omega
          go_wp2
          go_loopw [7] (fun x wr => ∃ j : Nat, j ≤ 8 ∧ x = .int .i64 j ∧ Hid (ShowP wr (.slice (some ⟨w5.heap.size, 0, none⟩) 11 11) badL) ∧ Hid (ShowP wr (.slice (some ⟨W.heap.size, 0, none⟩) 1024 1024) bigL) ∧ Hid (Below W.heap.size W wr)) (fun x _ => 8 - (intOf x).toNat)
          case atStart => exact ⟨0, by decide, rfl, HSB, HSG, HBG⟩
          case round =>
            clear HSB HSG HBG
            obtain ⟨j, hj, rfl, HSB, HSG, HBG⟩ := hrel
            by_cases hj8 : j < 8
            · have hj8' : (j : Int) < 8 := by omega
              have hzW := HBG.out.size
              obtain ⟨c0, c1, c2⟩ := bad_cells HSB.out hi11
              generalize pg badL i = q at c0 c1 c2
              have hbl := World.block_lt_of_cell? wr _ c0
              have HT8 := Lib.hid (HR8.out wr)
              have hbA : Below wr.heap.size wr (wr.alloc O8) := below_one (Below.refl _ _) O8
              have d0 := cell_keep hbA c0
              have d1 := cell_keep hbA c1
              have d2 := cell_keep hbA c2
              obtain ⟨t0, t1, t2⟩ := HT8.out.cells hj8
              have f0 := HT8.out.frozen (j * 3)
              have f1 := HT8.out.frozen (j * 3 + 1)
              have f2 := HT8.out.frozen (j * 3 + 2)
              have hbS : Below wr.heap.size wr ((((wr.alloc O8).setCell ⟨wr.heap.size, j * 3, none⟩ (.int .i64 q.kind)).setCell ⟨wr.heap.size, j * 3 + 1, none⟩ (.int .i64 q.order)).setCell ⟨wr.heap.size, j * 3 + 2, none⟩ (.int .i64 q.cache)) := below_set3 hbA (Nat.le_refl _) _ _ _ _ _ _
              have HSL := Lib.hid (zshow (HT8.out.set j q))
              have HSB2 := Lib.hid (HSB.out.below hbS)
              have HSG2 := Lib.hid (HSG.out.below hbS)
              have HBG2 := Lib.hid (below_then HBG.out hbS)
              have HCE := Lib.hid (And.intro (cell_keep hbS c0) (And.intro (cell_keep hbS c1) (cell_keep hbS c2)))
              clear hbA hbS c0 c1 c2
              go_wp2
              generalize (((wr.alloc O8).setCell ⟨wr.heap.size, j * 3, none⟩ (.int .i64 q.kind)).setCell ⟨wr.heap.size, j * 3 + 1, none⟩ (.int .i64 q.order)).setCell ⟨wr.heap.size, j * 3 + 2, none⟩ (.int .i64 q.cache) = w0 at *
              obtain ⟨LL, hLL⟩ := HSL.out
              have HLL := Lib.hid hLL
              clear d0 d1 d2 t0 t1 t2 f0 f1 f2 HT8 HSL HSB HSG HBG hLL hbl
              go_region_held3 (fun w' => (w'.cell? ⟨w5.heap.size, i * 3, none⟩ = some (.int .i64 q.kind) ∧ w'.cell? ⟨w5.heap.size, i * 3 + 1, none⟩ = some (.int .i64 q.order) ∧ w'.cell? ⟨w5.heap.size, i * 3 + 2, none⟩ = some (.int .i64 q.cache)) ∧ Below w0.heap.size w0 w')
                (first | exact key3 HCE.out (by assumption) | exact key3 HCE.out (Below.drew (Below.refl _ _)) | exact key3 HCE.out (below_one (show _ ∧ Below w0.heap.size w0 _ from by assumption).2 _))
                (first
                  | (go_at_call 3; refine (walkTables _ LL j _ (HLL.out.below (show _ ∧ Below w0.heap.size w0 _ from by assumption).2)).mono ?_; rintro e w7 ⟨rfl, h7⟩; have hb7 : Below w0.heap.size w0 w7 := below_then (show _ ∧ Below w0.heap.size w0 _ from by assumption).2 h7)
                  | (go_at_call 4; refine (walkSetsE _ _ _ _ _ _ ?_).mono ?_; (first | exact ⟨_, zeros_show (HR8.out _) (by decide)⟩ | exact ⟨_, HLL.out.below (show _ ∧ Below w0.heap.size w0 _ from by assumption).2⟩); rintro e w8 ⟨rfl, h8⟩; have hb8 : Below w0.heap.size w0 w8 := below_then (show _ ∧ Below w0.heap.size w0 _ from by assumption).2 h8)
                  | (go_at_call 5; refine (walkStaysE _ _ _ _ _ _ ?_).mono ?_; exact ⟨_, zeros_show (HR7.out _) (by decide)⟩; rintro e w10 ⟨rfl, h10⟩; have hb10 : Below w0.heap.size w0 w10 := below_then (show _ ∧ Below w0.heap.size w0 _ from by assumption).2 h10)
                  | (go_at_call 6; refine (walkSum _ LL _ (HLL.out.below (show _ ∧ Below w0.heap.size w0 _ from by assumption).2)).mono ?_; rintro e w11 ⟨rfl, h11⟩; have hb11 : Below w0.heap.size w0 w11 := below_then (show _ ∧ Below w0.heap.size w0 _ from by assumption).2 h11))
              go_wp2
              go_roundw
              case rel => exact ⟨j + 1, by omega, by go_num, Lib.hid (HSB2.out.below hb11), Lib.hid (HSG2.out.below hb11), Lib.hid (below_then HBG2.out hb11)⟩
              case measure => simp [intOf]; omega
            · obtain rfl : j = 8 := by omega
              rw [show ((8 : Nat) : Int) = 8 from rfl]
              go_wp2
              go_roundw
              case rel => exact ⟨i + 1, by omega, by go_num, HSB, HSG, HBG⟩
              case measure => simp [intOf]; omega
        · obtain rfl : i = 11 := by omega
          rw [show ((11 : Nat) : Int) = 11 from rfl]
          have HIN : Hid (ShowP (wr.alloc (.cells (pgs [pO, ⟨1, 1, 0⟩, pz]).toArray 31)) (.slice (some ⟨wr.heap.size, 0, none⟩) 3 3) [pO, ⟨1, 1, 0⟩, pz]) := Lib.hid (show_lit wr _ 3 rfl (by decide))
          have HSG2 := Lib.hid (HSG.out.below (below_one (Below.refl _ _) (.cells (pgs [pO, ⟨1, 1, 0⟩, pz]).toArray 31)))
          have HB2 := Lib.hid (below_one HBG.out (.cells (pgs [pO, ⟨1, 1, 0⟩, pz]).toArray 31))
          clear HSB HSG HBG
          go_wp2_with fail
          refine (works _).mono ?_
          rintro e w6 ⟨rfl, hb⟩
          have HI3 := Lib.hid (HIN.out.below hb)
          have HSG3 := Lib.hid (HSG2.out.below hb)
          have HB3 := Lib.hid (below_then HB2.out hb)
          clear hb HIN HSG2 HB2
          go_wp2_with fail
          refine (walkTables _ _ 0 _ HI3.out).mono ?_
          rintro e w7 ⟨rfl, hb⟩
          have HSG4 : Hid (ShowP w7 (.slice (some ⟨W.heap.size, 0, none⟩) 200 1024) (bigL.take 200)) := Lib.hid (ShowP.first (m := 200) (l := bigL) (by have := HSG3.out.below hb; rw [bigL_length]; exact this) (by rw [bigL_length]; decide))
          have HB4 := Lib.hid (below_then HB3.out hb)
          clear hb HI3 HSG3 HB3
          go_wp2_with fail
          refine (walkTables _ _ 300 _ HSG4.out).mono ?_
          rintro e w8 ⟨rfl, hb⟩
          have hb8 := below_then HB4.out hb
          clear hb HSG4 HB4
          go_wp2_with fail
          refine (walkTables _ (zeros 3) (-1) _ (zeros_show (HR3.out _) (by decide))).mono ?_
          rintro e w9 ⟨rfl, hb⟩
          have hb9 := below_then (below_one hb8 O3) hb
          clear hb hb8
          go_wp2_with fail
          refine (walkTables _ (zeros 3) 3 _ (zeros_show (HR3.out _) (by decide))).mono ?_
          rintro e w10 ⟨rfl, hb⟩
          have hb10 := below_then (below_one hb9 O3) hb
          clear hb hb9
          go_wp2_with fail
          refine (walkSetsE _ _ 0 0 0 _ ⟨_, zeros_show (HR3.out _) (by decide)⟩).mono ?_
          rintro e w11 ⟨rfl, hb⟩
          have hb11 := below_then (below_one hb10 O3) hb
          clear hb hb10
          go_wp2_with fail
          refine (walkSetsE _ _ 0 1 0 _ ⟨_, zeros_show (HR3.out _) (by decide)⟩).mono ?_
          rintro e w12 ⟨rfl, hb⟩
          have hb12 := below_then (below_one hb11 O3) hb
          clear hb hb11
          go_wp2_with fail
          refine (walkSetsE _ _ 0 0 0 _ ⟨[], ShowP.nil _⟩).mono ?_
          rintro e w13 ⟨rfl, hb⟩
          have hb13 := below_then hb12 hb
          clear hb hb12
          go_wp2
          go_ret
          exact ⟨rfl, hb13⟩
end Go.Proofs.Ytdhjpoplgbcgjaa
