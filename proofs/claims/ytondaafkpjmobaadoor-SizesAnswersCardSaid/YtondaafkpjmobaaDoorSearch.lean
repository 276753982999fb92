/-
  The binary search, Class, Size and Waste of the program.
-/
import Derived.Test.YtondaafkpjmobaaDoorTab
set_option linter.unusedVariables false
set_option linter.unusedSimpArgs false
namespace Go.Proofs.YtondaafkpjmobaaDoor
open Go Go.RowKit

abbrev roomV (bx : Nat) : Value := .func (.func 18) #[] #[.pointer (some ⟨bx, 0, none⟩)]
set_option maxHeartbeats 3000000 in
theorem cSearch (bx : Nat) (n : Int) (w : World) (ht : Tab w) (hc : w.cell? ⟨bx, 0, none⟩ = some (.int .i64 n)) :
    Calls Tryd.prog 17 #[.int .i64 10, roomV bx] w fun e w' => e = .returned (.int .i64 (clN n)) ∧ Below w.heap.size w w' := by
  have HR : Hid (∀ k, k < 10 → decide (n ≤ sz k) = decide (clN n ≤ k)) := Lib.hid (fun k hk => by
    have := sz_lt (n := n) hk
    rw [decide_eq_decide]
    omega)
  have hle := clN_le n
  have HT : Hid (∀ w', Below w.heap.size w w' → Tab w' ∧ w'.cell? ⟨bx, 0, none⟩ = some (.int .i64 n)) := Lib.hid (fun w' hb => ⟨ht.below hb, cell_keep hb hc⟩)
  generalize clN n = c at *
  clear ht hc
  go_enter Tryd.func17, Tryd.ntmps17
  go_wp2
  go_loopw [5, 6, 7] (fun i j x wr => ∃ a b : Nat, a ≤ c ∧ c ≤ b ∧ b ≤ 10 ∧ i = .int .i64 a ∧ j = .int .i64 b ∧ Hid (Below w.heap.size w wr)) (fun i j _ _ => (intOf j).toNat - (intOf i).toNat)
  case atStart => exact ⟨0, 10, by omega, by omega, by omega, rfl, rfl, Lib.hid (Below.refl _ _)⟩
  case round =>
    obtain ⟨a, b, ha, hb, hb10, rfl, rfl, HW⟩ := hrel
    by_cases hlt : a < b
    · obtain ⟨m, hm⟩ : ∃ m : Nat, (a + b) / 2 = m := ⟨_, rfl⟩
      have hm1 : a ≤ m := by omega
      have hm2 : m < b := by omega
      have hm10 : m < 10 := by omega
      have e1 : IntKind.u64.wrap ((a : Int) + (b : Int)) = (a : Int) + (b : Int) := by rw [IntKind.wrap_u64]; omega
      have e2 : ((a : Int) + (b : Int)) / 2 = (m : Int) := by omega
      have HC := Lib.hid (fun q hq => cRoom bx n m hm10 q hq wr (HT.out _ HW.out).1 (HT.out _ HW.out).2)
      clear hm
      by_cases hq : c ≤ m
      · have HC1 := Lib.hid (HC.out true (by rw [HR.out m hm10]; exact decide_eq_true hq))
        clear HC
        go_wp2_with fail
        refine HC1.out.mono ?_
        rintro e w1 ⟨rfl, hb1⟩
        have HW1 := Lib.hid (below_then HW.out hb1)
        clear hb1 HW HC1
        go_wp2
        go_roundw
        case rel => exact ⟨a, m, by omega, by omega, by omega, rfl, rfl, HW1⟩
        case measure => simp [intOf]; omega
      · have HC1 := Lib.hid (HC.out false (by rw [HR.out m hm10]; exact decide_eq_false hq))
        clear HC
        go_wp2_with fail
        refine HC1.out.mono ?_
        rintro e w1 ⟨rfl, hb1⟩
        have HW1 := Lib.hid (below_then HW.out hb1)
        clear hb1 HW HC1
        go_wp2
        go_roundw
        case rel => exact ⟨m + 1, b, by omega, by omega, by omega, by go_num, rfl, HW1⟩
        case measure => simp [intOf]; omega
    · obtain rfl : c = a := by omega
      go_wp2
      go_ret
      exact ⟨rfl, HW.out⟩
theorem ret_ie {a b c d : Int} (h : a = b) (h2 : c = d) : Ending.returned (.tuple #[.int .i64 a, .int .i64 c]) = .returned (.tuple #[.int .i64 b, .int .i64 d]) := by rw [h, h2]
set_option maxHeartbeats 2000000 in
theorem cClass (n : Int) (w : World) (ht : Tab w) :
    Calls Tryd.prog 7 #[.int .i64 n] w fun e w' => e = .returned (.tuple #[.int .i64 (clV n), .int .i64 (clE n)]) ∧ Below w.heap.size w w' := by
  by_cases h1 : n < 1
  · have HX := Lib.hid (cl_low h1)
    clear ht
    go_enter Tryd.func7, Tryd.ntmps7
    go_wp2
    go_ret2
    exact ⟨ret_ie HX.out.1.symm HX.out.2.symm, below_one (Below.refl _ _) _⟩
  · have HS := Lib.hid (cSearch w.heap.size n (w.alloc (.cells #[.int .i64 n] 3)) (ht.alloc _) (self_cell (heap_new _ _) 0 _ rfl))
    have hle := clN_le n
    clear ht
    by_cases h2 : 512 < n
    · have HX := Lib.hid (cl_high h2)
      have h10 := (clN_ten n).2 h2
      rw [h10] at HS
      clear h10 hle
      go_enter Tryd.func7, Tryd.ntmps7
      go_wp2_with fail
      refine HS.out.mono ?_
      rintro e w1 ⟨rfl, hb1⟩
      have HW1 := Lib.hid (below_then (below_one (Below.refl _ _) _) hb1)
      clear hb1 HS
      go_wp2
      go_ret2
      exact ⟨ret_ie HX.out.1.symm HX.out.2.symm, HW1.out⟩
    · have HX := Lib.hid (cl_in (n := n) (by omega) (by omega))
      have h10 : clN n < 10 := clN_lt (by omega)
      generalize clN n = c at *
      go_enter Tryd.func7, Tryd.ntmps7
      go_wp2_with fail
      refine HS.out.mono ?_
      rintro e w1 ⟨rfl, hb1⟩
      have HW1 := Lib.hid (below_then (below_one (Below.refl _ _) _) hb1)
      clear hb1 HS
      go_wp2
      go_ret2
      exact ⟨ret_ie HX.out.1.symm HX.out.2.symm, HW1.out⟩
set_option maxHeartbeats 2000000 in
theorem cSize (c : Int) (w : World) (ht : Tab w) :
    Calls Tryd.prog 9 #[.int .i64 c] w fun e w' => e = .returned (.tuple #[.int .i64 (siV c), .int .i64 (siE c)]) ∧ Below w.heap.size w w' := by
  rcases cases_in c with h | ⟨k, rfl, hk⟩
  · have HX := Lib.hid (si_out h)
    clear ht
    by_cases h0 : c < 0
    · clear h
      go_enter Tryd.func9, Tryd.ntmps9
      go_wp2
      go_ret2
      exact ⟨ret_ie HX.out.1.symm HX.out.2.symm, Below.refl _ _⟩
    · have h9 : 10 ≤ c := by omega
      clear h
      go_enter Tryd.func9, Tryd.ntmps9
      go_wp2
      go_ret2
      exact ⟨ret_ie HX.out.1.symm HX.out.2.symm, Below.refl _ _⟩
  · have HX := Lib.hid (si_in hk)
    have hcell := ht.cell hk
    generalize sz k = s at *
    have hz := ht.size
    have hk1 : (0 : Int) ≤ (k : Int) := by omega
    have hk2 : (k : Int) < 10 := by omega
    clear ht
    go_enter Tryd.func9, Tryd.ntmps9
    go_wp2
    go_ret2
    exact ⟨ret_ie HX.out.1.symm HX.out.2.symm, Below.refl _ _⟩
set_option maxHeartbeats 2000000 in
theorem cWaste (n : Int) (w : World) (ht : Tab w) :
    Calls Tryd.prog 13 #[.int .i64 n] w fun e w' => e = .returned (.int .i64 (wst n)) ∧ Below w.heap.size w w' := by
  have hC := cClass n w ht
  by_cases h : n < 1 ∨ 512 < n
  · have HX := Lib.hid (wst_out h)
    by_cases h1 : n < 1
    · rw [(cl_low h1).1, (cl_low h1).2] at hC
      have HC := Lib.hid hC
      clear hC h ht
      go_enter Tryd.func13, Tryd.ntmps13
      go_wp2_with fail
      refine HC.out.mono ?_
      rintro e w1 ⟨rfl, hb1⟩
      go_wp2
      go_ret
      exact ⟨ret_int HX.out.symm, hb1⟩
    · have h2 : 512 < n := by omega
      rw [(cl_high h2).1, (cl_high h2).2] at hC
      have HC := Lib.hid hC
      clear hC h ht
      go_enter Tryd.func13, Tryd.ntmps13
      go_wp2_with fail
      refine HC.out.mono ?_
      rintro e w1 ⟨rfl, hb1⟩
      go_wp2
      go_ret
      exact ⟨ret_int HX.out.symm, hb1⟩
  · have hl : 1 ≤ n := by omega
    have hg : n ≤ 512 := by omega
    have HX := Lib.hid (wst_in hl hg)
    rw [(cl_in hl hg).1, (cl_in hl hg).2] at hC
    have hk := clN_lt hg
    have hs := sz_range hk
    have HT : Hid (∀ w', Below w.heap.size w w' → w'.cell? ⟨0, clN n, none⟩ = some (.int .i64 (sz (clN n)))) := Lib.hid (fun w' hb => (ht.below hb).cell hk)
    generalize clN n = k at *
    generalize sz k = s at *
    have HC := Lib.hid hC
    have hk1 : (0 : Int) ≤ (k : Int) := by omega
    have hk2 : (k : Int) < 10 := by omega
    obtain ⟨s1, s2⟩ := hs
    clear hC h ht
    go_enter Tryd.func13, Tryd.ntmps13
    go_wp2_with fail
    refine HC.out.mono ?_
    rintro e w1 ⟨rfl, hb1⟩
    have hcell := HT.out _ hb1
    have HW1 := Lib.hid hb1
    clear hb1 HT HC
    go_wp2
    go_ret
    exact ⟨ret_int HX.out.symm, HW1.out⟩
end Go.Proofs.YtondaafkpjmobaaDoor
