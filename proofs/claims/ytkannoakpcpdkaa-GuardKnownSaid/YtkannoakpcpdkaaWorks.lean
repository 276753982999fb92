/-
  The chapter's objects, as every statement asks them.
-/
import Derived.Test.YtkannoakpcpdkaaRchk
set_option linter.unusedVariables false
set_option linter.unusedSimpArgs false
namespace Go.Proofs.Ytkannoakpcpdkaa
open Go Go.RowKit

theorem makeY (n : Nat) (hn : n ≤ 10000) : ∃ O : Obj, (∀ w : World, (Instr.makeSlice 22 (.int .i64 (n : Int)) (.int .i64 (n : Int))).run Try.prog w = .ok (.slice (some ⟨w.heap.size, 0, none⟩) n n) (w.alloc O)) ∧ ∀ w : World, RowY (w.alloc O) w.heap.size n (fun _ => 0) := by
  refine ⟨_, fun w => run_make_row' (P := Try.prog) 22 5 (.int .u8 0) 1 Try.underlying22 (by kernel_rfl) rfl .i64 .i64 n (by omega) (by omega) w, fun w => ?_⟩
  obtain ⟨c, hb, hs, hc⟩ := World.rowIs_made w (.int .u8 0) n 5
  exact ⟨c, hb, by omega, hc⟩
theorem RowY.lies {w : World} {g n : Nat} {f : Nat → Int} (h : RowY w g n f) (hn : n ≤ 10000) : ShowB w (.slice (some ⟨g, 0, none⟩) n n) (lst n f) := h.shows (Nat.le_refl _) (by unfold maxLen; omega)
theorem in_text : strB (freeL 2) = ⟨#[187, 187, 187, 187, 187, 187, 187, 187, 107, 165, 187, 187, 187, 187, 187, 187, 187, 187]⟩ := by kernel_rfl
theorem out_text : strB (outL 2) = ⟨#[204, 204, 204, 204, 204, 204, 204, 204, 90, 90, 204, 204, 204, 204, 204, 204, 204, 204]⟩ := by kernel_rfl
theorem chk2 : chkE (freeL 2) true = 180 ∧ chkA (freeL 2) true = 0 := by decide +kernel
theorem chk1 : chkE (freeL 1) false = 0 := (chk_free (by decide) (by decide)).1
theorem chk2f : chkE (freeL 2) false = 0 := (chk_free (by decide) (by decide)).1
theorem chk16 : chkE (lst 16 (fun _ => 0)) false = 2 := by decide +kernel
set_option maxHeartbeats 4000000 in
theorem cWorks (w : World) : Calls Try.prog 12 #[] w fun e w' => e = .returned (.bool true) ∧ Below w.heap.size w w' := by
  obtain ⟨O, hO, hR⟩ := makeY 16 (by decide)
  have HR := Lib.hid hR
  clear hR
  simp only [show ((16 : Nat) : Int) = 16 from rfl] at hO
  go_enter Try.func12, Try.ntmps12
  go_wp2_with fail
  refine (cLayYes 2 18 (by decide) (by decide) rfl w).mono ?_
  rintro e w1 ⟨g1, k1, rfl, G1⟩
  have H1 := Lib.hid G1
  clear G1
  go_wp2_with fail
  refine (cOutYes _ (freeL 2) 2 18 (by decide) (by decide) (len_lst _ _) rfl chk2f w1 H1.out.shows).mono ?_
  rintro e w2 ⟨g2, k2, rfl, G2⟩
  have H2 := Lib.hid G2
  clear G2
  go_wp2_with fail
  refine (cChk _ (freeL 2) true w2 (H1.out.shows.below H2.out.below)).mono ?_
  rintro e w3 ⟨rfl, hb3⟩
  rw [chk2.1, chk2.2]
  have H3 := Lib.hid hb3
  clear hb3
  go_wp2_with fail
  refine (cLayYes 1 17 (by decide) (by decide) rfl w3).mono ?_
  rintro e w4 ⟨g4, k4, rfl, G4⟩
  have H4 := Lib.hid G4
  clear G4
  go_wp2_with fail
  refine (cChk _ (freeL 1) false w4 H4.out.shows).mono ?_
  rintro e w5 ⟨rfl, hb5⟩
  rw [chk1]
  have H5 := Lib.hid hb5
  clear hb5
  go_wp2_with fail
  refine (cChk _ (lst 16 (fun _ => 0)) false (w5.alloc O) ((HR.out w5).lies (by decide))).mono ?_
  rintro e w6 ⟨rfl, hb6⟩
  rw [chk16]
  have hb16 : Below w1.heap.size w1 w6 := below_then (below_then (below_then (below_then (below_then H2.out.below H3.out) H4.out.below) H5.out) (below_one (Below.refl _ w5) O)) hb6
  have hb26 : Below w2.heap.size w2 w6 := below_then (below_then (below_then (below_then H3.out H4.out.below) H5.out) (below_one (Below.refl _ w5) O)) hb6
  have hc1 := conv_bytes (H1.out.shows.below hb16)
  have hc2 := conv_bytes (H2.out.shows.below hb26)
  have HB := Lib.hid (below_then H1.out.below hb16)
  rw [show lst 18 (freeF 2) = freeL 2 from rfl, in_text] at hc1
  rw [show lst 18 (outF 2) = outL 2 from rfl, out_text] at hc2
  clear hb6 hb16 hb26
  go_wp2
  go_ret
  exact ⟨rfl, HB.out⟩
end Go.Proofs.Ytkannoakpcpdkaa
