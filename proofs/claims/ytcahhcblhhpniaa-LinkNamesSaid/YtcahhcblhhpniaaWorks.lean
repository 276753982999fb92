/-
  The chapter's examples.
-/
import Derived.Test.YtcahhcblhhpniaaList
import Derived.Test.YtcahhcblhhpniaaFresh
set_option linter.unusedVariables false
set_option linter.unusedSimpArgs false
namespace Go.Proofs.Ytcahhcblhhpniaa
open Go Go.RowKit

theorem hid_known : (hidV 3 0 0 = 4 ∧ hidE 3 0 = 0) ∧ (hidV (-1) 0 0 = 0 ∧ hidE (-1) 0 = 0) ∧ (hidV 0 1 1 = 2654435800 ∧ hidE 0 1 = 0) ∧ shwB 17 0 0 = false ∧ (shwV 16 0 0 = 15 ∧ shwB 16 0 0 = true) := by
  decide +kernel
theorem up_known : upF 3 0 = [0, 1, 2] ∧ upF 3 2 = [2] := by decide +kernel
set_option maxHeartbeats 4000000 in
theorem works (W : World) : Calls Try.prog 14 #[] W fun e W' => e = .returned (.bool true) ∧ Below W.heap.size W W' := by
  obtain ⟨⟨a1, a2⟩, ⟨b1, b2⟩, ⟨c1, c2⟩, d1, ⟨e1, e2⟩⟩ := hid_known
  have hw0 : okW 0 := by decide
  have hw1 : okW 1 := by decide
  have hw7 : okW 7 := by decide
  have ha := cHide 3 0 0 hw0
  rw [a1, a2] at ha
  have hb := cHide (-1) 0 0 hw0
  rw [b1, b2] at hb
  have hc := cHide 0 1 1 hw1
  rw [c1, c2] at hc
  have hd := cShow 17 0 0 hw0
  rw [d1] at hd
  generalize shwV 17 0 0 = v17 at hd
  have he := cShow 16 0 0 hw0
  rw [e1, e2] at he
  have hf := cFresh 3 7 (by omega) (by omega) hw7
  have hx : lst (frs 3 7) 7 0 = ([0, 1, 2], 0) := by rw [← up_known.1]; exact lst_fresh (i := 0) (by omega) (by omega)
  have hy : lst (frs 3 7) 7 2 = ([2], 0) := by rw [← up_known.2]; exact lst_fresh (i := 2) (by omega) (by omega)
  have hz : lst (frs 3 7) 7 (-1) = ([], 0) := by
    rw [lst_ok ⟨by rw [frs_len]; omega, by omega, by rw [frs_len]; omega⟩]
    exact lw_end (by simp)
  have HA := Lib.hid ha
  have HB := Lib.hid hb
  have HC := Lib.hid hc
  have HD := Lib.hid hd
  have HE := Lib.hid he
  have HF := Lib.hid hf
  have hl3 := frs_len 3 7
  have HX : Hid (∀ u w, ShowU w u (frs 3 7) → Calls Try.prog 15 #[u, .int .u64 7, .int .i64 0] w fun e w' => ∃ ao cp, e = .returned (.tuple #[.slice ao 3 cp, .int .i64 0]) ∧ OwnI w.heap.size w' (.slice ao 3 cp) [0, 1, 2] ∧ Below w.heap.size w w') := Lib.hid (fun u w hs => cListOk u _ 7 0 _ 0 w hs hw7 ⟨by omega, by omega, by omega⟩ hx)
  have HY : Hid (∀ u w, ShowU w u (frs 3 7) → Calls Try.prog 15 #[u, .int .u64 7, .int .i64 2] w fun e w' => ∃ ao cp, e = .returned (.tuple #[.slice ao 1 cp, .int .i64 0]) ∧ OwnI w.heap.size w' (.slice ao 1 cp) [2] ∧ Below w.heap.size w w') := Lib.hid (fun u w hs => cListOk u _ 7 2 _ 0 w hs hw7 ⟨by omega, by omega, by omega⟩ hy)
  have HZ : Hid (∀ u w, ShowU w u (frs 3 7) → Calls Try.prog 15 #[u, .int .u64 7, .int .i64 (-1)] w fun e w' => ∃ ao cp, e = .returned (.tuple #[.slice ao 0 cp, .int .i64 0]) ∧ OwnI w.heap.size w' (.slice ao 0 cp) [] ∧ Below w.heap.size w w') := Lib.hid (fun u w hs => cListOk u _ 7 (-1) _ 0 w hs hw7 ⟨by omega, by omega, by omega⟩ hz)
  clear ha hb hc hd he hf hx hy hz a1 a2 b1 b2 c1 c2 d1 e1 e2 hw0 hw1 hw7
  go_enter Try.func14, Try.ntmps14
  go_wp2_with fail
  refine (HA.out _).mono ?_
  rintro e w1 ⟨rfl, hb1⟩
  have HW1 := Lib.hid hb1
  clear hb1
  go_wp2_with fail
  refine (HB.out _).mono ?_
  rintro e w2 ⟨rfl, hb2⟩
  have HW2 := Lib.hid (below_then HW1.out hb2)
  clear hb2 HW1
  go_wp2_with fail
  refine (HC.out _).mono ?_
  rintro e w3 ⟨rfl, hb3⟩
  have HW3 := Lib.hid (below_then HW2.out hb3)
  clear hb3 HW2
  go_wp2_with fail
  refine (HD.out _).mono ?_
  rintro e w4 ⟨rfl, hb4⟩
  have HW4 := Lib.hid (below_then HW3.out hb4)
  clear hb4 HW3
  go_wp2_with fail
  refine (HE.out _).mono ?_
  rintro e w5 ⟨rfl, hb5⟩
  have HW5 := Lib.hid (below_then HW4.out hb5)
  clear hb5 HW4
  go_wp2_with fail
  refine (HF.out _).mono ?_
  rintro e w6 ⟨g, rfl, hg6, hs6, hb6⟩
  have HW6 := Lib.hid (below_then HW5.out hb6)
  have HS6 := Lib.hid (hs6.show_ hl3 (by omega))
  clear hb6 HW5 hg6 hs6
  go_wp2_with fail
  refine (HX.out _ _ HS6.out).mono ?_
  rintro e w7 ⟨xo, xc, rfl, ho7, hb7⟩
  have HW7 := Lib.hid (below_then HW6.out hb7)
  have HO7 := Lib.hid ho7.shows
  have HS7 := Lib.hid (HS6.out.below hb7)
  clear hb7 HW6 ho7 HS6
  go_wp2_with fail
  refine (HY.out _ _ HS7.out).mono ?_
  rintro e w8 ⟨yo, yc, rfl, ho8, hb8⟩
  have HW8 := Lib.hid (below_then HW7.out hb8)
  have HO8 := Lib.hid (HO7.out.below hb8)
  have HP8 := Lib.hid ho8.shows
  have HS8 := Lib.hid (HS7.out.below hb8)
  clear hb8 HW7 ho8 HS7 HO7
  go_wp2_with fail
  refine (HZ.out _ _ HS8.out).mono ?_
  rintro e w9 ⟨zo, zc, rfl, ho9, hb9⟩
  have HW9 := Lib.hid (below_then HW8.out hb9)
  have HO9 := Lib.hid (HO8.out.below hb9)
  have HP9 := Lib.hid (HP8.out.below hb9)
  clear hb9 HW8 ho9 HS8 HO8 HP8
  go_wp2_with fail
  have HL : Hid (ShowI (w9.alloc (.cells #[.int .i64 0, .int .i64 1, .int .i64 2] 3)) (.slice (some ⟨w9.heap.size, 0, none⟩) 3 3) [0, 1, 2]) := Lib.hid (lit_i w9 3 [0, 1, 2] 3 rfl (by omega))
  have HW10 := Lib.hid (below_one HW9.out (.cells #[.int .i64 0, .int .i64 1, .int .i64 2] 3))
  have hb10 := below_one (Below.refl w9.heap.size w9) (.cells #[.int .i64 0, .int .i64 1, .int .i64 2] 3)
  have HO10 := Lib.hid (HO9.out.below hb10)
  have HP10 := Lib.hid (HP9.out.below hb10)
  clear hb10 HO9 HP9 HW9
  generalize (w9.alloc (.cells #[.int .i64 0, .int .i64 1, .int .i64 2] 3)) = w10 at *
  refine (cEqYes _ _ _ _ rfl _ HO10.out HL.out).mono ?_
  rintro e w11 ⟨rfl, hb11⟩
  have HW11 := Lib.hid (below_then HW10.out hb11)
  have HP11 := Lib.hid (HP10.out.below hb11)
  clear hb11 HW10 HP10 HO10 HL
  go_wp2_with fail
  have HL : Hid (ShowI (w11.alloc (.cells #[.int .i64 2] 3)) (.slice (some ⟨w11.heap.size, 0, none⟩) 1 1) [2]) := Lib.hid (lit_i w11 3 [2] 1 rfl (by omega))
  have HW12 := Lib.hid (below_one HW11.out (.cells #[.int .i64 2] 3))
  have HP12 := Lib.hid (HP11.out.below (below_one (Below.refl w11.heap.size w11) (.cells #[.int .i64 2] 3)))
  clear HW11 HP11
  generalize (w11.alloc (.cells #[.int .i64 2] 3)) = w12 at *
  refine (cEqYes _ _ _ _ rfl _ HP12.out HL.out).mono ?_
  rintro e w13 ⟨rfl, hb13⟩
  have HW13 := Lib.hid (below_then HW12.out hb13)
  clear hb13 HW12 HP12 HL
  go_wp2
  go_ret
  exact ⟨rfl, HW13.out⟩
end Go.Proofs.Ytcahhcblhhpniaa
