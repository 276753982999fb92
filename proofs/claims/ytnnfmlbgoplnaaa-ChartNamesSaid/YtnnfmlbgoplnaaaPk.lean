/-
  Pack: the program's, and the document's.
-/
import Derived.Test.YtnnfmlbgoplnaaaCt
set_option linter.unusedVariables false
set_option linter.unusedSimpArgs false
namespace Go.Proofs.Ytnnfmlbgoplnaaa
open Go Go.RowKit

set_option maxHeartbeats 2000000 in
theorem rMay (c : Ct) (q : Bool) (hq : decide (mayC c) = q) (w : World) :
    Calls Try.prog 93 #[c.agg] w fun e w' => e = .returned (.bool q) ∧ Below w.heap.size w w' := by
  obtain ⟨z, hz⟩ : ∃ z, decide (c = zC) = z := ⟨_, rfl⟩
  have heq : ∀ w, (Op.equalIn 10000 61 (.agg #[.int .i64 c.i, .int .i64 c.n, .bool c.f, .bool c.l]) (.agg #[.int .i64 0, .int .i64 0, .bool false, .bool false])).run Try.prog w = .ok z w := fun w => eqIs (d := zC) hz w
  have hgd := guardK
  cases z with
  | true =>
    have HQ : Hid (true = q) := Lib.hid (by rw [← hq]; exact (decide_eq_true (Or.inr (of_decide_eq_true hz))).symm)
    obtain ⟨i, n, f, l⟩ := c
    dsimp only at heq ⊢
    clear hq hz
    go_enter Try.func93, Try.ntmps93
    go_wp2
    go_ret
    exact ⟨ret_bool HQ.out, below_one (Below.refl _ _) _⟩
  | false =>
    have hs : ofSlab c → true = q := fun h => by rw [← hq]; exact (decide_eq_true (Or.inl h)).symm
    have hn : ¬ ofSlab c → false = q := fun h => by rw [← hq]; exact (decide_eq_false (fun e => e.elim h (of_decide_eq_false hz))).symm
    obtain ⟨i, n, f, l⟩ := c
    unfold ofSlab at hs hn
    dsimp only at hs hn heq ⊢
    clear hq hz
    cases l with
    | false =>
      have HQ := Lib.hid (hn (by simp))
      clear hs hn
      go_enter Try.func93, Try.ntmps93
      go_wp2
      go_ret
      exact ⟨ret_bool HQ.out, below_one (Below.refl _ _) _⟩
    | true =>
      by_cases h1 : 1 ≤ n
      · by_cases h2 : n ≤ 16
        · by_cases h3 : 0 ≤ i
          · by_cases h4 : i ≤ n
            · have HQ := Lib.hid (hs ⟨rfl, h1, h2, h3, h4⟩)
              clear hs hn
              go_enter Try.func93, Try.ntmps93
              go_wp2
              go_ret
              exact ⟨ret_bool HQ.out, below_one (Below.refl _ _) _⟩
            · have HQ := Lib.hid (hn (fun e => h4 e.2.2.2.2))
              clear hs hn
              go_enter Try.func93, Try.ntmps93
              go_wp2
              go_ret
              exact ⟨by simpa using HQ.out, below_one (Below.refl _ _) _⟩
          · have HQ := Lib.hid (hn (fun e => h3 e.2.2.2.1))
            clear hs hn
            go_enter Try.func93, Try.ntmps93
            go_wp2
            go_ret
            exact ⟨by simpa using HQ.out, below_one (Below.refl _ _) _⟩
        · have HQ := Lib.hid (hn (fun e => h2 e.2.2.1))
          clear hs hn
          go_enter Try.func93, Try.ntmps93
          go_wp2
          go_ret
          exact ⟨by simpa using HQ.out, below_one (Below.refl _ _) _⟩
      · have HQ := Lib.hid (hn (fun e => h1 e.2.1))
        clear hs hn
        go_enter Try.func93, Try.ntmps93
        go_wp2
        go_ret
        exact ⟨by simpa using HQ.out, below_one (Below.refl _ _) _⟩
theorem pack_bad {c : Ct} (h : ¬ mayC c) : 0 = packV c ∧ 2 = packE c := by unfold packV packE; rw [if_neg h, if_neg h]; exact ⟨rfl, rfl⟩
theorem pack_good {c : Ct} (h : mayC c) : wdC c = packV c ∧ 0 = packE c := by unfold packV packE; rw [if_pos h, if_pos h]; exact ⟨rfl, rfl⟩
set_option maxHeartbeats 2000000 in
theorem cPack (c : Ct) (w : World) :
    Calls Try.prog 76 #[c.agg] w fun e w' => e = .returned (.tuple #[.int .u64 (packV c), .int .i64 (packE c)]) ∧ Below w.heap.size w w' := by
  have HB : Hid (CtAt (w.alloc (.cells c.arr 61)) w.heap.size c) := Lib.hid (heap_new _ _)
  have HL : Hid (Below w.heap.size w (w.alloc (.cells c.arr 61))) := Lib.hid (below_one (Below.refl _ _) _)
  by_cases hm : mayC c
  · have HI := Lib.hid (cIsCounts c true (decide_eq_true hm))
    have hr := may_range hm
    have HX := Lib.hid (pack_good hm)
    obtain ⟨i, n, f, l⟩ := c
    dsimp only at hr
    obtain ⟨r1, r2, r3, r4⟩ := hr
    clear hm
    have H0 : Hid (Go.bits .or .u64 i (n * 256) = i + 256 * n) := Lib.hid (or256 ⟨r3, r4⟩ ⟨r1, r2⟩)
    have H1 : Hid (Go.bits .or .u64 (i + 256 * n) 65536 = i + 256 * n + 65536) := Lib.hid (or16 (by omega))
    have H2 : Hid (Go.bits .or .u64 (i + 256 * n) 131072 = i + 256 * n + 131072) := Lib.hid (or17 (by omega))
    have H3 : Hid (Go.bits .or .u64 (i + 256 * n + 65536) 131072 = i + 256 * n + 65536 + 131072) := Lib.hid (or17 (by omega))
    have hw1 : IntKind.u64.wrap i = i := by rw [IntKind.wrap_u64]; omega
    have hw2 : IntKind.u64.wrap n = n := by rw [IntKind.wrap_u64]; omega
    have hw3 : IntKind.u64.wrap (n * 256) = n * 256 := by rw [IntKind.wrap_u64]; omega
    go_enter Try.func76, Try.ntmps76
    go_wp2_with (refine wpList_loadC (by rfl) _ (by rfl) w.heap.size _ (by rfl) HB.out ?_)
    refine (HI.out _).mono ?_
    rintro e w1 ⟨rfl, hb1⟩
    obtain ⟨c0, c1, c2, c3⟩ := (HB.out.below hb1).cells
    have HL1 := Lib.hid (below_then HL.out hb1)
    clear hb1 HB HL
    dsimp only at c0 c1 c2 c3
    cases f <;> cases l <;>
    · go_wp2
      go_ret2
      refine ⟨ret_ue ?_ HX.out.2, HL1.out⟩
      rw [← HX.out.1]
      unfold wdC fW lW
      simp [H0.out, H1.out, H2.out, H3.out]
  · have HI := Lib.hid (cIsCounts c false (decide_eq_false hm))
    have HX := Lib.hid (pack_bad hm)
    obtain ⟨i, n, f, l⟩ := c
    clear hm
    go_enter Try.func76, Try.ntmps76
    go_wp2_with (refine wpList_loadC (by rfl) _ (by rfl) w.heap.size _ (by rfl) HB.out ?_)
    refine (HI.out _).mono ?_
    rintro e w1 ⟨rfl, hb1⟩
    have HL1 := Lib.hid (below_then HL.out hb1)
    clear hb1 HB HL
    go_wp2
    go_ret2
    exact ⟨ret_ue HX.out.1 HX.out.2, HL1.out⟩
set_option maxHeartbeats 2000000 in
theorem rPack (c : Ct) (w : World) :
    Calls Try.prog 80 #[c.agg] w fun e w' => e = .returned (.tuple #[.int .u64 (packV c), .int .i64 (packE c)]) ∧ Below w.heap.size w w' := by
  have HB : Hid (CtAt (w.alloc (.cells c.arr 61)) w.heap.size c) := Lib.hid (heap_new _ _)
  have HL : Hid (Below w.heap.size w (w.alloc (.cells c.arr 61))) := Lib.hid (below_one (Below.refl _ _) _)
  by_cases hm : mayC c
  · have HI := Lib.hid (rMay c true (decide_eq_true hm))
    have hr := may_range hm
    have HX := Lib.hid (pack_good hm)
    obtain ⟨i, n, f, l⟩ := c
    dsimp only at hr
    obtain ⟨r1, r2, r3, r4⟩ := hr
    clear hm
    have hw1 : IntKind.u64.wrap i = i := by rw [IntKind.wrap_u64]; omega
    have hw2 : IntKind.u64.wrap n = n := by rw [IntKind.wrap_u64]; omega
    go_enter Try.func80, Try.ntmps80
    go_wp2_with (refine wpList_loadC (by rfl) _ (by rfl) w.heap.size _ (by rfl) HB.out ?_)
    refine (HI.out _).mono ?_
    rintro e w1 ⟨rfl, hb1⟩
    obtain ⟨c0, c1, c2, c3⟩ := (HB.out.below hb1).cells
    have HL1 := Lib.hid (below_then HL.out hb1)
    clear hb1 HB HL
    dsimp only at c0 c1 c2 c3
    cases f <;> cases l <;>
    · go_wp2
      go_ret2
      refine ⟨ret_ue ?_ HX.out.2, HL1.out⟩
      rw [← HX.out.1]
      unfold wdC fW lW
      simp
  · have HI := Lib.hid (rMay c false (decide_eq_false hm))
    have HX := Lib.hid (pack_bad hm)
    obtain ⟨i, n, f, l⟩ := c
    clear hm
    go_enter Try.func80, Try.ntmps80
    go_wp2_with (refine wpList_loadC (by rfl) _ (by rfl) w.heap.size _ (by rfl) HB.out ?_)
    refine (HI.out _).mono ?_
    rintro e w1 ⟨rfl, hb1⟩
    have HL1 := Lib.hid (below_then HL.out hb1)
    clear hb1 HB HL
    go_wp2
    go_ret2
    exact ⟨ret_ue HX.out.1 HX.out.2, HL1.out⟩
end Go.Proofs.Ytnnfmlbgoplnaaa
