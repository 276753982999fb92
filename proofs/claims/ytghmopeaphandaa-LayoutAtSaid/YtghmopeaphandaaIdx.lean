/-
  Index of the program.
-/
import Derived.Test.YtghmopeaphandaaAt
set_option linter.unusedVariables false
set_option linter.unusedSimpArgs false
namespace Go.Proofs.Ytghmopeaphandaa
open Go Go.RowKit

theorem ret_ib {x i : Int} {c b : Bool} (h1 : x = i) (h2 : c = b) : Ending.returned (.tuple #[.int .i64 x, .bool c]) = .returned (.tuple #[.int .i64 i, .bool b]) := by rw [h1, h2]
set_option maxHeartbeats 2000000 in
theorem cIndex (l : Ly) (y i : Int) (b : Bool) (h : IdxIs l y i b) (w : World) :
    Calls Try.prog 13 #[l.agg, .int .i64 y] w fun e w' => e = .returned (.tuple #[.int .i64 i, .bool b]) ∧ Below w.heap.size w w' := by
  have HB : Hid (LyAt (w.alloc (.cells l.arr 23)) w.heap.size l) := Lib.hid (heap_new _ _)
  by_cases hv : valid l
  · have HV := Lib.hid (cIsValid l true (decide_eq_true hv))
    have HI := Lib.hid h
    have hr := hv.range
    obtain ⟨O, hO⟩ : ∃ O : Nat, l.objs = O := ⟨l.objs.toNat, by omega⟩
    have hO2 : 1 ≤ O ∧ O ≤ 16 := by omega
    have HVV := Lib.hid hv
    have HR := Lib.hid hr
    have HO := Lib.hid hO
    clear h hv hr hO
    go_enter Try.func13, Try.ntmps13
    go_wp2_with (refine wpList_loadL (by rfl) _ (by rfl) w.heap.size l (by rfl) HB.out ?_)
    refine (HV.out _).mono ?_
    rintro e w1 ⟨rfl, hb1⟩
    have HB1 := Lib.hid (HB.out.below hb1)
    have HL1 := Lib.hid (below_then (below_one (Below.refl w.heap.size w) _) hb1)
    obtain ⟨_, _, _, _, _, c5, _⟩ := (HB.out.below hb1).cells
    rw [HO.out] at c5
    clear hb1 HB HV
    go_wp2
    go_loopw [12] (fun x wr => ∃ k : Nat, k ≤ O ∧ x = .int .i64 k ∧ Hid ((∀ j : Nat, j < k → (j : Int) * l.step + l.off ≠ y) ∧ Below w1.heap.size w1 wr)) (fun x _ => O - (intOf x).toNat)
    case atStart => exact ⟨0, by omega, rfl, Lib.hid ⟨fun j hj => absurd hj (Nat.not_lt_zero _), Below.refl _ _⟩⟩
    case round =>
      obtain ⟨k, hk, rfl, HK⟩ := hrel
      by_cases hlt : k < O
      · have HS := Lib.hid (cStart l k (by omega) (by have := HR.out; omega))
        have hlt2 : (k : Int) < (O : Int) := by omega
        have HW := Lib.hid (HB1.out.below HK.out.2)
        obtain ⟨z, hz⟩ : ∃ z, (k : Int) * l.step + l.off = z := ⟨_, rfl⟩
        have HZ := Lib.hid hz
        rw [hz] at HS
        clear hz c5
        by_cases hzy : z = y
        · have HX : Hid ((k : Int) = i ∧ true = b) := Lib.hid ((IdxIs.yes k HVV.out (by rw [HO.out]; exact hlt2) (HZ.out.trans hzy)).one HI.out)
          have hzq : (z == y) = true := by simp [hzy]
          clear hzy
          go_wp2_with (first
            | (refine wpList_loadL (by rfl) _ (by rfl) w.heap.size l (by rfl) HW.out ?_)
            | (go_at_call 24; refine (HS.out _).mono ?_; rintro e w2 ⟨rfl, hb2⟩; have HL2 := Lib.hid (below_then HL1.out (below_then HK.out.2 hb2)); clear hb2))
          try rw [Exit.noGoto_ret]
          go_ret2
          exact ⟨ret_ib HX.out.1 HX.out.2, HL2.out⟩
        · have HN : Hid (∀ j : Nat, j < k + 1 → (j : Int) * l.step + l.off ≠ y) := Lib.hid (fun j hj => by
            by_cases e : j = k
            · subst e; rw [HZ.out]; exact hzy
            · exact HK.out.1 j (by omega))
          have hzq : (z == y) = false := by simp [hzy]
          clear hzy
          go_wp2_with (first
            | (refine wpList_loadL (by rfl) _ (by rfl) w.heap.size l (by rfl) HW.out ?_)
            | (go_at_call 24; refine (HS.out _).mono ?_; rintro e w2 ⟨rfl, hb2⟩; have HL2 := Lib.hid (below_then HK.out.2 hb2); clear hb2))
          go_roundw
          case rel => exact ⟨k + 1, by omega, by go_num, Lib.hid ⟨HN.out, HL2.out⟩⟩
          case measure => simp [intOf]; omega
      · obtain rfl : k = O := by omega
        have HX : Hid (0 = i ∧ false = b) := Lib.hid ((IdxIs.no HVV.out (fun j hj => HK.out.1 j (by rw [HO.out] at hj; omega))).one HI.out)
        have HL2 := Lib.hid (below_then HL1.out HK.out.2)
        clear c5
        go_wp2
        go_ret2
        exact ⟨ret_ib HX.out.1 HX.out.2, HL2.out⟩
  · have HV := Lib.hid (cIsValid l false (decide_eq_false hv))
    obtain ⟨e1, e2⟩ := h.one (.bad hv)
    subst e1 e2
    clear h hv
    go_enter Try.func13, Try.ntmps13
    go_wp2_with (first
      | (refine wpList_loadL (by rfl) _ (by rfl) w.heap.size l (by rfl) HB.out ?_)
      | (go_at_call 23; refine (HV.out _).mono ?_; rintro e w1 ⟨rfl, hb1⟩; have HL1 := Lib.hid (below_then (below_one (Below.refl w.heap.size w) _) hb1); clear hb1))
    go_ret2
    exact ⟨rfl, HL1.out⟩
end Go.Proofs.Ytghmopeaphandaa
