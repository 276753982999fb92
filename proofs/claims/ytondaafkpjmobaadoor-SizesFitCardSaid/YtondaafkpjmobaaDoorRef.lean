/-
  Class, Size, Spec and Waste of the document.
-/
import Derived.Test.YtondaafkpjmobaaDoorSp
set_option linter.unusedVariables false
set_option linter.unusedSimpArgs false
namespace Go.Proofs.YtondaafkpjmobaaDoor
open Go Go.RowKit

/-- the list of sizes, new in w -/
abbrev allO : Obj := .cells szC 3
abbrev allV (w : World) : Value := .slice (some ⟨w.heap.size, 0, none⟩) 10 10
theorem all_cell (w : World) {k : Nat} (hk : k < 10) : (w.alloc allO).cell? ⟨w.heap.size, k, none⟩ = some (.int .i64 (sz k)) := by
  refine self_cell (heap_new _ _) k _ ?_
  rcases ten hk with rfl | rfl | rfl | rfl | rfl | rfl | rfl | rfl | rfl | rfl <;> rfl
theorem rAll (w : World) : Calls Tryd.prog 19 #[] w fun e w' => e = .returned (allV w) ∧ w' = w.alloc allO := by
  go_enter Tryd.func19, Tryd.ntmps19
  go_wp2
  go_ret
  exact ⟨rfl, rfl⟩
/-- the list, in a world that may have changed since -/
structure All (w : World) (g : Nat) : Prop where
  cell : ∀ k, k < 10 → w.cell? ⟨g, k, none⟩ = some (.int .i64 (sz k))
theorem rAllG (w : World) : Calls Tryd.prog 19 #[] w fun e w' => ∃ g, e = .returned (.slice (some ⟨g, 0, none⟩) 10 10) ∧ All w' g ∧ Below w.heap.size w w' := by
  refine (rAll w).mono ?_
  rintro e w' ⟨rfl, rfl⟩
  exact ⟨_, rfl, ⟨fun k hk => all_cell w hk⟩, below_one (Below.refl _ _) _⟩
set_option maxHeartbeats 2000000 in
theorem rClass (n : Int) (w : World) :
    Calls Tryd.prog 8 #[.int .i64 n] w fun e w' => e = .returned (.tuple #[.int .i64 (clV n), .int .i64 (clE n)]) ∧ Below w.heap.size w w' := by
  by_cases h1 : n < 1
  · have HX := Lib.hid (cl_low h1)
    go_enter Tryd.func8, Tryd.ntmps8
    go_wp2
    go_ret2
    exact ⟨ret_ie HX.out.1.symm HX.out.2.symm, Below.refl _ _⟩
  · have HI : Hid (∀ k, k < 10 → (sz k < n ↔ k < clN n)) := Lib.hid (fun k hk => sz_lt hk)
    have HE : Hid (clN n < 10 → clV n = clN n ∧ clE n = 0) := Lib.hid (fun h => cl_in (by omega) (by have := clN_ten n; omega))
    have HH : Hid (clN n = 10 → clV n = 0 ∧ clE n = 9) := Lib.hid (fun h => cl_high ((clN_ten n).1 h))
    have hle := clN_le n
    generalize clN n = c at *
    go_enter Tryd.func8, Tryd.ntmps8
    go_wp2_with fail
    refine (rAllG w).mono ?_
    rintro e w1 ⟨g, rfl, hA, hb⟩
    have HA := Lib.hid hA
    have HW := Lib.hid hb
    clear hA hb
    go_wp2
    go_loopw [5] (fun i wr => ∃ k : Nat, k ≤ 10 ∧ k ≤ c ∧ i = .int .i64 k ∧ wr = w1) (fun i _ => 10 - (intOf i).toNat)
    case atStart => exact ⟨0, by omega, by omega, rfl, rfl⟩
    case round =>
      obtain ⟨k, hk, hkc, rfl, rfl⟩ := hrel
      by_cases hlt : k < 10
      · have hcell := HA.out.cell k hlt
        have hi := HI.out k hlt
        by_cases hn : n ≤ sz k
        · have hck : c = k := by omega
          have HX := Lib.hid (HE.out (by omega))
          have HCK := Lib.hid hck
          generalize sz k = s at *
          clear hi hck HI HE HH
          go_wp2
          try rw [Exit.noGoto_ret]
          go_ret2
          exact ⟨ret_ie (by rw [HX.out.1, HCK.out]) HX.out.2.symm, HW.out⟩
        · have hck : k < c := by omega
          generalize sz k = s at *
          clear hi
          go_wp2
          go_roundw
          case rel => exact ⟨k + 1, by omega, by omega, by go_num, by first | trivial | rfl⟩
          case measure => simp [intOf]; omega
      · obtain rfl : k = 10 := by omega
        have HX := Lib.hid (HH.out (by omega))
        go_wp2
        go_ret2
        exact ⟨ret_ie HX.out.1.symm HX.out.2.symm, HW.out⟩
set_option maxHeartbeats 2000000 in
theorem rSize (c : Int) (w : World) :
    Calls Tryd.prog 10 #[.int .i64 c] w fun e w' => e = .returned (.tuple #[.int .i64 (siV c), .int .i64 (siE c)]) ∧ Below w.heap.size w w' := by
  rcases cases_in c with h | ⟨k, rfl, hk⟩
  · have HX := Lib.hid (si_out h)
    by_cases h0 : c < 0
    · clear h
      go_enter Tryd.func10, Tryd.ntmps10
      go_wp2_with fail
      refine (rAllG w).mono ?_
      rintro e w1 ⟨g, rfl, hA, hb⟩
      clear hA
      go_wp2
      go_ret2
      exact ⟨ret_ie HX.out.1.symm HX.out.2.symm, hb⟩
    · have h9 : 10 ≤ c := by omega
      clear h
      go_enter Tryd.func10, Tryd.ntmps10
      go_wp2_with fail
      refine (rAllG w).mono ?_
      rintro e w1 ⟨g, rfl, hA, hb⟩
      clear hA
      go_wp2
      go_ret2
      exact ⟨ret_ie HX.out.1.symm HX.out.2.symm, hb⟩
  · have HX := Lib.hid (si_in hk)
    have hk1 : (0 : Int) ≤ (k : Int) := by omega
    have hk2 : (k : Int) < 10 := by omega
    go_enter Tryd.func10, Tryd.ntmps10
    go_wp2_with fail
    refine (rAllG w).mono ?_
    rintro e w1 ⟨g, rfl, hA, hb⟩
    have hcell := hA.cell k hk
    have HW := Lib.hid hb
    generalize sz k = s at *
    clear hA hb
    go_wp2
    go_ret2
    exact ⟨ret_ie HX.out.1.symm HX.out.2.symm, HW.out⟩
set_option maxHeartbeats 3000000 in
theorem rSpec (c : Int) (w : World) :
    Calls Tryd.prog 12 #[.int .i64 c] w fun e w' => e = .returned (.tuple #[(spV c).agg, .int .i64 (siE c)]) ∧ Below w.heap.size w w' := by
  have hC := rSize c (w.alloc sp0)
  rcases cases_in c with h | ⟨k, rfl, hk⟩
  · rw [sp_out h, (si_out h).2]
    rw [(si_out h).1, (si_out h).2] at hC
    have HC := Lib.hid hC
    clear hC h
    go_enter Tryd.func12, Tryd.ntmps12
    go_wp2_with fail
    refine HC.out.mono ?_
    rintro e w1 ⟨rfl, hb1⟩
    have HK1 := Lib.hid ((zero_new w).below hb1)
    have HL1 := Lib.hid (below_then (below_one (Below.refl _ _) _) hb1)
    clear hb1 HC
    go_wp2_with (refine wpList_storeC (by rfl) _ _ (by rfl) w.heap.size zS (by rfl) (by rfl) _ HK1.out rfl ?_; intro w5 h5 hk5)
    exact bodyPost_ret (res_rspec rfl rfl h5) rfl ⟨rfl, below_one_kept HL1.out hk5 (Nat.le_refl _)⟩
  · rw [sp_in hk, (si_in hk).2]
    rw [(si_in hk).1, (si_in hk).2] at hC
    have hs := sz_range hk
    generalize sz k = s at *
    obtain ⟨s1, s2⟩ := hs
    obtain ⟨r, hr⟩ : ∃ r, s.tmod 16 = r := ⟨_, rfl⟩
    have HC := Lib.hid hC
    clear hC
    by_cases h0 : r = 0
    · have HA := Lib.hid (al_yes (by omega) hr h0)
      rw [HA.out]
      have hq : (r == 0) = true := by simpa using h0
      clear h0
      go_enter Tryd.func12, Tryd.ntmps12
      go_wp2_with fail
      refine HC.out.mono ?_
      rintro e w1 ⟨rfl, hb1⟩
      have HK1 := Lib.hid ((zero_new w).below hb1)
      have HL1 := Lib.hid (below_then (below_one (Below.refl _ _) _) hb1)
      clear hb1 HC
      go_wp2_with (refine wpList_storeC (by rfl) _ _ (by rfl) w.heap.size ⟨s, 16, 4⟩ (by rfl) (by rfl) _ HK1.out rfl ?_; intro w5 h5 hk5)
      exact bodyPost_ret (res_rspec rfl rfl h5) rfl ⟨rfl, below_one_kept HL1.out hk5 (Nat.le_refl _)⟩
    · have HA := Lib.hid (al_no (by omega) hr h0)
      rw [HA.out]
      have hq : (r == 0) = false := by simpa using h0
      clear h0
      go_enter Tryd.func12, Tryd.ntmps12
      go_wp2_with fail
      refine HC.out.mono ?_
      rintro e w1 ⟨rfl, hb1⟩
      have HK1 := Lib.hid ((zero_new w).below hb1)
      have HL1 := Lib.hid (below_then (below_one (Below.refl _ _) _) hb1)
      clear hb1 HC
      go_wp2_with (refine wpList_storeC (by rfl) _ _ (by rfl) w.heap.size ⟨s, 8, 4⟩ (by rfl) (by rfl) _ HK1.out rfl ?_; intro w5 h5 hk5)
      exact bodyPost_ret (res_rspec rfl rfl h5) rfl ⟨rfl, below_one_kept HL1.out hk5 (Nat.le_refl _)⟩
set_option maxHeartbeats 2000000 in
theorem rWaste (n : Int) (w : World) :
    Calls Tryd.prog 14 #[.int .i64 n] w fun e w' => e = .returned (.int .i64 (wst n)) ∧ Below w.heap.size w w' := by
  have hC := rClass n w
  by_cases h : n < 1 ∨ 512 < n
  · have HX := Lib.hid (wst_out h)
    by_cases h1 : n < 1
    · rw [(cl_low h1).1, (cl_low h1).2] at hC
      have HC := Lib.hid hC
      clear hC h
      go_enter Tryd.func14, Tryd.ntmps14
      go_wp2_with fail
      refine HC.out.mono ?_
      rintro e w1 ⟨rfl, hb1⟩
      go_wp2
      go_ret
      exact ⟨ret_int HX.out.symm, hb1⟩
    · have h2 : 512 < n := by omega
      rw [(cl_high h2).1, (cl_high h2).2] at hC
      have HC := Lib.hid hC
      clear hC h
      go_enter Tryd.func14, Tryd.ntmps14
      go_wp2_with fail
      refine HC.out.mono ?_
      rintro e w1 ⟨rfl, hb1⟩
      go_wp2
      go_ret
      exact ⟨ret_int HX.out.symm, hb1⟩
  · have hl : 1 ≤ n := by omega
    have hg : n ≤ 512 := by omega
    have HX := Lib.hid (wst_in hl hg)
    rw [(cl_in hl hg).1, (cl_in hl hg).2] at hC
    have hk := clN_lt hg
    generalize clN n = k at *
    have hs := sz_range hk
    obtain ⟨s1, s2⟩ := hs
    have HC := Lib.hid hC
    have hk1 : (0 : Int) ≤ (k : Int) := by omega
    have hk2 : (k : Int) < 10 := by omega
    clear hC h
    go_enter Tryd.func14, Tryd.ntmps14
    go_wp2_with fail
    refine HC.out.mono ?_
    rintro e w1 ⟨rfl, hb1⟩
    have HW1 := Lib.hid hb1
    clear hb1 HC
    go_wp2_with fail
    refine (rAllG w1).mono ?_
    rintro e w2 ⟨g, rfl, hA, hb⟩
    have hcell := hA.cell k hk
    generalize sz k = s at *
    have HW2 := Lib.hid (below_then HW1.out hb)
    clear hb hA HW1
    go_wp2
    go_ret
    exact ⟨ret_int HX.out.symm, HW2.out⟩
end Go.Proofs.YtondaafkpjmobaaDoor
