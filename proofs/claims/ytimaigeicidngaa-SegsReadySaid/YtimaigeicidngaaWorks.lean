/-
  The statements' 'works' (the chapter's rows) answers true.
-/
import Derived.Test.YtimaigeicidngaaRReady
set_option linter.unusedVariables false
set_option linter.unusedSimpArgs false
namespace Go.Proofs.Ytimaigeicidngaa
open Go Go.RowKit

theorem val1 : addF [⟨5, 1⟩] ⟨6, 1⟩ = 0 ∧ addL [⟨5, 1⟩] ⟨6, 1⟩ = [⟨5, 1⟩, ⟨6, 1⟩] := by decide
theorem val2 : addF [⟨5, 2⟩] ⟨6, 1⟩ = 2 := by decide
theorem val3 : chkF [⟨5, 1⟩, ⟨6, 1⟩, ⟨7, 2⟩] = 0 ∧ rdyI [⟨5, 1⟩, ⟨6, 1⟩, ⟨7, 2⟩] 1 = [5, 6] ∧ rdyR [⟨5, 1⟩, ⟨6, 1⟩, ⟨7, 2⟩] 1 = [⟨7, 2⟩] := by decide
theorem val4 : nextF [⟨7, 2⟩] = 2 := by decide
theorem below_lit {w0 w w' : World} {n : Nat} {o : Obj} (h : Below n w0 w) (hb : Below (w.alloc o).heap.size (w.alloc o) w') (hn : n ≤ w0.heap.size := by exact Nat.le_refl _) : Below n w0 w' :=
  (h.alloc (Nat.le_trans hn h.size) o).trans (hb.mono (by have := h.size; rw [size_alloc]; omega))
set_option maxHeartbeats 2000000 in
set_option maxRecDepth 100000 in
theorem works (w : World) : Calls Try.prog 17 #[] w fun e w' => e = .returned (.bool true) ∧ Below w.heap.size w w' := by
  go_enter Try.func17, Try.ntmps17
  go_wp2_with fail
  refine (cAdd _ [⟨5, 1⟩] 6 1 _ (lit_one w 5 1)).mono ?_
  rintro e w1 ⟨ao, n, cap, hn, rfl, hown, hb⟩
  rw [val1.2] at hn hown
  obtain rfl : n = 2 := hn
  rw [val1.1]
  have B1 := Lib.hid (below_lit (Below.refl _ w) hb)
  have HA := Lib.hid hown.shows
  clear hb hown
  go_wp2_with fail
  refine (cAdd _ [⟨5, 2⟩] 6 1 _ (lit_one w1 5 2)).mono ?_
  rintro e w2 ⟨ao2, n2, cap2, hn2, rfl, hown2, hb⟩
  rw [val2]
  have B2 := Lib.hid (below_lit B1.out hb)
  have HA2 := Lib.hid ((HA.out.below (below_one (Below.refl _ _) _)).below hb)
  clear hb hn2 hown2 HA
  go_wp2_with fail
  refine (cReady _ [⟨5, 1⟩, ⟨6, 1⟩, ⟨7, 2⟩] 1 _ (lit_w w2 _ [⟨5, 1⟩, ⟨6, 1⟩, ⟨7, 2⟩] 3 rfl (by decide))).mono ?_
  rintro e w3 ⟨ia, ni, ic, ra, nr, rc, hni, hnr, rfl, hoi, hor, hb⟩
  rw [val3.2.1] at hni hoi
  rw [val3.2.2] at hnr hor
  obtain rfl : ni = 2 := hni
  obtain rfl : nr = 1 := hnr
  rw [val3.1]
  have B3 := Lib.hid (below_lit B2.out hb)
  have HA3 := Lib.hid ((HA2.out.below (below_one (Below.refl _ _) _)).below hb)
  have HI := Lib.hid hoi.shows
  have HR := Lib.hid hor.shows
  clear hb hoi hor HA2
  obtain ⟨_, _, e1, hcp, hat⟩ := HA3.out.form
  cases e1
  obtain ⟨b, o, rfl, c1, _⟩ := hat 1 (by decide)
  have c1' : w3.cell? ⟨b, o + 2, none⟩ = some (.int .i64 6) := c1
  obtain ⟨_, _, e1, hcp2, hat2⟩ := HR.out.form
  cases e1
  obtain ⟨b2, o2, rfl, c2, _⟩ := hat2 0 (by decide)
  have c2' : w3.cell? ⟨b2, o2, none⟩ = some (.int .i64 7) := c2
  have C2 := Lib.hid c2'
  have hcp' := hcp.2
  clear hat hat2 c1 c2 c2' hcp
  go_wp2_with fail
  refine (cEqInts _ _ [5, 6] [5, 6] _ (HI.out.below (below_one (Below.refl _ _) _)) (lit_i w3 3 [5, 6] 2 rfl (by omega))).mono ?_
  rintro e w4 ⟨rfl, hb⟩
  rw [decide_eq_true rfl]
  have B4 := Lib.hid (below_lit B3.out hb)
  have c2 := cell_keep hb (cell_keep (below_one (Below.refl _ _) _) C2.out)
  have HR4 := Lib.hid ((HR.out.below (below_one (Below.refl _ _) _)).below hb)
  clear hb C2 HR c1'
  go_wp2_with fail
  refine (cNext _ [⟨7, 2⟩] 2 val4 _ HR4.out).mono ?_
  rintro e w5 ⟨rfl, hb⟩
  have B5 := Lib.hid (below_then B4.out hb)
  clear hb
  go_wp2
  go_ret
  exact ⟨rfl, B5.out⟩
end Go.Proofs.Ytimaigeicidngaa
