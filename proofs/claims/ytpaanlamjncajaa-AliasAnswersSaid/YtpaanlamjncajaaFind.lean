/-
  Find of the program and of the document.
-/
import Derived.Test.YtpaanlamjncajaaRsrv
set_option linter.unusedVariables false
set_option linter.unusedSimpArgs false
namespace Go.Proofs.Ytpaanlamjncajaa
open Go Go.RowKit

theorem ret_ib {a b : Int} {c d : Bool} (h : a = b) (h2 : c = d) : Ending.returned (.tuple #[.int .i64 a, .bool c]) = .returned (.tuple #[.int .i64 b, .bool d]) := by rw [h, h2]
abbrev fitsV (bx : Nat) : Value := .func (.func 24) #[] #[.pointer (some ⟨bx, 0, none⟩)]
set_option maxHeartbeats 2000000 in
theorem cFits (bx : Nat) (c s : Sp) (w : World) (hc : SpAt w bx c) :
    Calls Try.prog 24 #[s.agg, .pointer (some ⟨bx, 0, none⟩)] w fun e w' => e = .returned (.bool (srv s c)) ∧ Below w.heap.size w w' := by
  obtain ⟨c0, c1, c2⟩ := (SpAt.below hc (below_one (Below.refl _ _) (argO s))).cells
  go_enter Try.func24, Try.ntmps24
  go_wp2_with fail
  refine (cServes s c _).mono ?_
  rintro e w1 ⟨rfl, hb1⟩
  have HW := Lib.hid (below_then (below_one (Below.refl w.heap.size w) _) hb1)
  clear hb1
  go_wp2
  go_ret
  exact ⟨rfl, HW.out⟩
set_option maxHeartbeats 4000000 in
theorem cFirst (u : Value) (l : List Sp) (bx : Nat) (c : Sp) (w : World) (hu : ShowS w u l) (hc : SpAt w bx c) :
    Calls Try.prog 23 #[u, fitsV bx] w fun e w' => e = .returned (.tuple #[.int .i64 (fV l c), .bool (fB l c)]) ∧ Below w.heap.size w w' := by
  obtain ⟨ao, cap, rfl, ⟨hcap1, hcap2⟩, hat⟩ := hu.form
  have HC := Lib.hid hc
  clear hu hc
  go_enter Try.func23, Try.ntmps23
  go_wp2
  go_loopw [10] (fun i wr => ∃ k : Nat, k ≤ l.length ∧ i = .int .i64 k ∧ Hid (k ≤ fst l c) ∧ Hid (Below w.heap.size w wr)) (fun i _ => l.length - (intOf i).toNat)
  case atStart => exact ⟨0, by omega, rfl, Lib.hid (by omega), Lib.hid (Below.refl _ _)⟩
  case round =>
    obtain ⟨k, hk, rfl, HK, HW⟩ := hrel
    by_cases hlt : k < l.length
    · obtain ⟨b1, o1, rfl, e0, e1, e2⟩ := hat k hlt
      have d0 := cell_keep HW.out e0
      have d1 := cell_keep HW.out e1
      have d2 := cell_keep HW.out e2
      clear e0 e1 e2
      have HN : Hid (srv (sp l k) c = false → k + 1 ≤ fst l c) := Lib.hid (fun h => fst_next HK.out hlt h)
      have HY : Hid (srv (sp l k) c = true → fV l c = k ∧ fB l c = true) := Lib.hid (fun h => by
        have := fst_yes HK.out hlt h
        have h2 := f_in (l := l) (c := c) (by omega)
        rw [this] at h2
        exact h2)
      have HF := Lib.hid (fun w hc => cFits bx c (sp l k) w hc)
      clear HK
      generalize sp l k = s at *
      go_wp2_with (refine wpList_storeC (by rfl) _ _ (by rfl) wr.heap.size s (by rfl) (by rfl) _ (zero_new wr) rfl ?_; intro w1 h1 hk1; refine Stop.mk ?_)
      unfold Stop
      have hb1 := below_one_kept (below_one (Below.refl wr.heap.size wr) _) hk1 (Nat.le_refl _)
      have HW1 := Lib.hid (below_then HW.out hb1)
      obtain ⟨g0, g1, g2⟩ := h1.cells
      have HC1 := Lib.hid (HC.out.below HW1.out)
      clear hb1 HW hk1
      go_wp2_with fail
      refine (HF.out _ HC1.out).mono ?_
      rintro e w2 ⟨rfl, hb2⟩
      have HW2 := Lib.hid (below_then HW1.out hb2)
      clear hb2 HW1 HC1 HF
      cases hq : srv s c with
      | true =>
        have HX := Lib.hid (HY.out hq)
        clear HY HN
        go_wp2
        go_ret2
        exact ⟨ret_ib HX.out.1.symm HX.out.2.symm, HW2.out⟩
      | false =>
        have HX := Lib.hid (HN.out hq)
        clear HY HN
        go_wp2
        go_roundw
        case rel => exact ⟨k + 1, by omega, by go_num, HX, HW2⟩
        case measure => simp [intOf]; omega
    · obtain rfl : k = l.length := by omega
      have HX := Lib.hid (f_out (Nat.le_antisymm (fst_le l c) HK.out))
      go_wp2
      go_ret2
      exact ⟨ret_ib HX.out.1.symm HX.out.2.symm, HW.out⟩
set_option maxHeartbeats 2000000 in
theorem cFind (u : Value) (l : List Sp) (c : Sp) (w : World) (hu : ShowS w u l) :
    Calls Try.prog 16 #[u, c.agg] w fun e w' => e = .returned (.tuple #[.int .i64 (fV l c), .bool (fB l c)]) ∧ Below w.heap.size w w' := by
  have HF := Lib.hid (cFirst u l w.heap.size c (w.alloc (argO c)) (hu.below (below_one (Below.refl _ _) _)) (heap_new _ _))
  generalize fV l c = i at *
  generalize fB l c = q at *
  go_enter Try.func16, Try.ntmps16
  go_wp2_with fail
  refine HF.out.mono ?_
  rintro e w1 ⟨rfl, hb1⟩
  have HW := Lib.hid (below_then (below_one (Below.refl w.heap.size w) _) hb1)
  clear hb1 HF
  go_wp2
  go_ret2
  exact ⟨rfl, HW.out⟩
set_option maxHeartbeats 4000000 in
theorem rFind (u : Value) (l : List Sp) (c : Sp) (w : World) (hu : ShowS w u l) :
    Calls Try.prog 17 #[u, c.agg] w fun e w' => e = .returned (.tuple #[.int .i64 (fV l c), .bool (fB l c)]) ∧ Below w.heap.size w w' := by
  obtain ⟨ao, cap, rfl, ⟨hcap1, hcap2⟩, hat⟩ := hu.form
  have HC := Lib.hid (arg_new w c)
  have HB0 := Lib.hid (below_one (Below.refl w.heap.size w) (argO c))
  clear hu
  go_enter Try.func17, Try.ntmps17
  go_wp2
  go_loopw [6] (fun i wr => ∃ k : Nat, k ≤ l.length ∧ i = .int .i64 k ∧ Hid (k ≤ fst l c) ∧ Hid (SpAt wr w.heap.size c ∧ Below w.heap.size w wr)) (fun i _ => l.length - (intOf i).toNat)
  case atStart => exact ⟨0, by omega, rfl, Lib.hid (by omega), Lib.hid ⟨HC.out, HB0.out⟩⟩
  case round =>
    obtain ⟨k, hk, rfl, HK, HW⟩ := hrel
    by_cases hlt : k < l.length
    · obtain ⟨b1, o1, rfl, e0, e1, e2⟩ := hat k hlt
      have d0 := cell_keep HW.out.2 e0
      have d1 := cell_keep HW.out.2 e1
      have d2 := cell_keep HW.out.2 e2
      obtain ⟨g0, g1, g2⟩ := HW.out.1.cells
      clear e0 e1 e2
      have HN : Hid (srv (sp l k) c = false → k + 1 ≤ fst l c) := Lib.hid (fun h => fst_next HK.out hlt h)
      have HY : Hid (srv (sp l k) c = true → fV l c = k ∧ fB l c = true) := Lib.hid (fun h => by
        have := fst_yes HK.out hlt h
        have h2 := f_in (l := l) (c := c) (by omega)
        rw [this] at h2
        exact h2)
      clear HK
      generalize sp l k = s at *
      cases hq : srv s c with
      | true =>
        have HX := Lib.hid (HY.out hq)
        have hS := fun w => rServes s c w
        rw [hq] at hS
        have HS := Lib.hid hS
        clear HY HN hS
        go_wp2
        go_region_with (go_at_call 14; refine (HS.out _).mono ?_; rintro e w1 ⟨rfl, hb1⟩; have HW1 : Hid (SpAt w1 w.heap.size c ∧ Below w.heap.size w w1) := Lib.hid ⟨SpAt.below (w := wr.drew) HW.out.1 hb1, below_then (Below.drew HW.out.2) hb1⟩; clear hb1)
        all_goals
          go_wp2
          go_ret2
          exact ⟨ret_ib HX.out.1.symm HX.out.2.symm, HW1.out.2⟩
      | false =>
        have HX := Lib.hid (HN.out hq)
        have hS := fun w => rServes s c w
        rw [hq] at hS
        have HS := Lib.hid hS
        clear HY HN hS
        go_wp2
        go_region_with (go_at_call 14; refine (HS.out _).mono ?_; rintro e w1 ⟨rfl, hb1⟩; have HW1 : Hid (SpAt w1 w.heap.size c ∧ Below w.heap.size w w1) := Lib.hid ⟨SpAt.below (w := wr.drew) HW.out.1 hb1, below_then (Below.drew HW.out.2) hb1⟩; clear hb1)
        all_goals
          go_wp2
          go_roundw
          case rel => exact ⟨k + 1, by omega, by go_num, HX, HW1⟩
          case measure => simp [intOf]; omega
    · obtain rfl : k = l.length := by omega
      have HX := Lib.hid (f_out (Nat.le_antisymm (fst_le l c) HK.out))
      go_wp2
      go_ret2
      exact ⟨ret_ib HX.out.1.symm HX.out.2.symm, HW.out.2⟩
end Go.Proofs.Ytpaanlamjncajaa
