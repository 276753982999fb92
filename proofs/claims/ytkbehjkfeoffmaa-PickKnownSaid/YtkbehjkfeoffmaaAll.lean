/-
  PickAll: who is told runs; each one that runs is told once.
-/
import Derived.Test.YtkbehjkfeoffmaaIdx
set_option linter.unusedVariables false
set_option linter.unusedSimpArgs false
namespace Go.Proofs.Ytkbehjkfeoffmaa
open Go Go.RowKit

theorem makeI (n : Nat) (hn : n ≤ 10000) : ∃ O : Obj, (∀ w : World, (Instr.makeSlice 27 (.int .i64 (n : Int)) (.int .i64 (n : Int))).run Try.prog w = .ok (.slice (some ⟨w.heap.size, 0, none⟩) n n) (w.alloc O)) ∧ ∀ w : World, (w.alloc O).rowIs w.heap.size 3 n (fun _ => .int .i64 0) :=
  ⟨_, fun w => run_make_row' (P := Try.prog) 27 3 (.int .i64 0) 8 Try.underlying27 (by kernel_rfl) rfl .i64 .i64 n (by omega) (by omega) w, fun w => World.rowIs_made w _ n _⟩
theorem pick_is (l : List Bool) (x : Int) (b : Bool) (hb : decide (0 < (idx l l.length).length) = b) : ∃ c : Int, pairOf (pickF l x) = .tuple #[.int .i64 c, .bool b] := by
  have h := pickF_is l x
  rw [hb] at h
  cases hp : pickF l x with
  | none => rw [hp] at h; simp at h; subst h; exact ⟨0, rfl⟩
  | some c => rw [hp] at h; simp at h; subst h; exact ⟨c, rfl⟩
theorem next_is (l : List Bool) (x : Int) (b : Bool) (hb : decide (0 < (idx l l.length).length) = b) : ∃ c : Int, pairOf (nextF l x) = .tuple #[.int .i64 c, .bool b] := by
  have h := nextF_is l x
  rw [hb] at h
  cases hp : nextF l x with
  | none => rw [hp] at h; simp at h; subst h; exact ⟨0, rfl⟩
  | some c => rw [hp] at h; simp at h; subst h; exact ⟨c, rfl⟩
theorem pick_told (l : List Bool) (m : Nat) (hm : l.length = m) (y : Int) (i : Nat) (hi : i < (idx l m).length) :
    ∃ c : Nat, pairOf (pickF l (y + i)) = .tuple #[.int .i64 c, .bool true] ∧ c < m ∧ run l c = true ∧ toldK l m y i c = 0 ∧ ∀ d, d < m → toldK l m y (i + 1) d = if d = c then 1 else toldK l m y i d := by
  obtain ⟨c, h0, h1, h2, h3, h4⟩ := told_step l m y i hi
  refine ⟨c, ?_, h1, h2, h3, h4⟩
  subst hm
  rw [pickF_some (by omega), h0]
  rfl
theorem row_below {w w' : World} {b : Nat} {t : TypeId} {n : Nat} {f : Nat → Value} (h : w.rowIs b t n f) (hb : Below w.heap.size w w') : w'.rowIs b t n f := h.of_block (hb.block b h.lt)
set_option maxHeartbeats 8000000 in
set_option maxRecDepth 100000 in
theorem walkAll (u : Value) (l : List Bool) (x : Int) (W : World) (hs : ShowB W u l) :
    Calls Try.prog 5 #[u, .int .i64 x] W fun e W' => e = .returned (.bool true) ∧ Below W.heap.size W W' := by
  have hs0 := hs
  obtain ⟨ao, cap, rfl, hcap, hat⟩ := hs.form
  clear hs
  obtain ⟨m, hm⟩ : ∃ m : Nat, (if (40 : Int) < (l.length : Int) then (40 : Int) else (l.length : Int)) = (m : Int) := by
    by_cases h : (40 : Int) < (l.length : Int)
    · exact ⟨40, by rw [if_pos h]; rfl⟩
    · exact ⟨l.length, by rw [if_neg h]⟩
  have hml : m ≤ l.length := by split at hm <;> omega
  have hm40 : m ≤ 40 := by split at hm <;> omega
  have hsL : ShowB W (.slice ao m cap) (l.take m) := hs0.first hml
  obtain ⟨L, hL⟩ : ∃ L, l.take m = L := ⟨_, rfl⟩
  have hLm : L.length = m := by rw [← hL, List.length_take]; omega
  rw [hL] at hsL
  have hatL : Hid (∀ i, i < m → ∃ b o, ao = some ⟨b, o, none⟩ ∧ W.cell? ⟨b, o + i, none⟩ = some (.bool (run L i))) := Lib.hid (by
    obtain ⟨ao', cap', e, _, h⟩ := hsL.form
    cases e
    rw [hLm] at h
    exact h)
  have hy1 : x.tmod 1000000 < 1000000 := Int.tmod_lt_of_pos _ (by decide)
  have hy2 : -1000000 < x.tmod 1000000 := by
    have := Int.tmod_lt_of_pos (-x) (b := 1000000) (by decide)
    rw [Int.neg_tmod] at this
    omega
  have HLM := Lib.hid hLm
  have HSL := Lib.hid hsL
  obtain ⟨O, hO, hr⟩ := makeI m (by omega)
  have HR := Lib.hid hr
  have hb0 : l.length = 0 ∨ ∃ b o, ao = some ⟨b, o, none⟩ := by
    by_cases h : l.length = 0
    · exact .inl h
    · obtain ⟨b, o, e, _⟩ := hat 0 (by omega)
      exact .inr ⟨b, o, e⟩
  clear hat hs0 hsL hL hLm hr
  rcases hb0 with h0 | ⟨b1, o1, rfl⟩
  · obtain rfl : m = 0 := by omega
    have hLn : L = [] := List.length_eq_zero_iff.1 HLM.out
    subst hLn
    rw [h0] at hm ⊢
    have hO0 : ∀ w : World, (Instr.makeSlice 27 (.int .i64 0) (.int .i64 0)).run Try.prog w = .ok (.slice (some ⟨w.heap.size, 0, none⟩) 0 0) (w.alloc O) := hO
    clear hcap hatL
    go_enter Try.func5, Try.ntmps5
    go_wp2
    generalize x.tmod 1000000 = y at *
    go_loopw [5, 6] (fun a b wr => b = .int .i64 0 ∧ a = .int .i64 0 ∧ Below W.heap.size W wr) (fun a b _ => 0)
    case atStart => exact ⟨rfl, rfl, Below.refl _ _⟩
    case round =>
      obtain ⟨rfl, rfl, hb⟩ := hrel
      go_wp2
      have hbA := below_one hb O
      generalize wr.heap.size = g at *
      generalize wr.alloc O = w2 at *
      go_loopw [8] (fun a wq => a = .int .i64 0 ∧ Below W.heap.size W wq) (fun a _ => 0)
      case atStart => exact ⟨rfl, hbA⟩
      case round =>
        clear hbA
        obtain ⟨rfl, hbq⟩ := hrel
        go_wp2
        go_loopw [11] (fun a wz => a = .int .i64 0 ∧ Below W.heap.size W wz) (fun a _ => 0)
        case atStart => exact ⟨rfl, hbq⟩
        case round =>
          clear hbq
          obtain ⟨rfl, hbz⟩ := hrel
          have HC1 : Hid (pairOf (pickF [] y) = .tuple #[.int .i64 0, .bool false]) := Lib.hid rfl
          have HC2 : Hid (pairOf (nextF [] y) = .tuple #[.int .i64 0, .bool false]) := Lib.hid rfl
          go_wp2_with fail
          refine (vPick _ [] y _ HC1.out (by decide) _ (HSL.out.below hbz)).mono ?_
          rintro e w1 ⟨rfl, hb1⟩
          have hbz1 := below_then hbz hb1
          go_wp2_with fail
          refine (vNext _ [] y _ HC2.out _ (HSL.out.below hbz1)).mono ?_
          rintro e w2 ⟨rfl, hb2⟩
          have hbz2 := below_then hbz1 hb2
          go_wp2_with fail
          refine (works _).mono ?_
          rintro e w3 ⟨rfl, hb3⟩
          go_wp2
          go_ret
          exact ⟨rfl, below_then hbz2 hb3⟩
  · go_enter Try.func5, Try.ntmps5
    go_wp2
    generalize x.tmod 1000000 = y at *
    clear hcap
    go_loopw [5, 6] (fun a b wr => ∃ k : Nat, k ≤ m ∧ b = .int .i64 k ∧ a = .int .i64 ((idx L k).length : Nat) ∧ Below W.heap.size W wr) (fun a b _ => m - (intOf b).toNat)
    case atStart => exact ⟨0, by omega, rfl, rfl, Below.refl _ _⟩
    case round =>
      obtain ⟨k, hk, rfl, rfl, hb⟩ := hrel
      have hkl := idx_le L k
      by_cases hlt : k < m
      · obtain ⟨b2, o2, e2, c1⟩ := hatL.out k hlt
        cases e2
        have d1 := (hb.cell (p := ⟨b1, o1 + k, none⟩) (World.block_lt_of_cell? W _ c1)).trans c1
        have HY := Lib.hid (idx_yes (l := L) (k := k))
        have HN := Lib.hid (idx_no (l := L) (k := k))
        generalize run L k = q at d1 HY HN
        clear c1
        cases q
        · have HN1 := Lib.hid (HN.out rfl)
          clear HY HN
          go_wp2
          go_roundw
          case rel => exact ⟨k + 1, by omega, by go_num, by rw [HN1.out], hb⟩
          case measure => simp [intOf]; omega
        · have HY1 : Hid ((idx L (k + 1)).length = (idx L k).length + 1) := Lib.hid (by rw [HY.out rfl]; simp)
          clear HY HN
          generalize (idx L k).length = N at *
          go_wp2
          go_roundw
          case rel => exact ⟨k + 1, by omega, by go_num, by rw [HY1.out]; go_num, hb⟩
          case measure => simp [intOf]; omega
      · obtain rfl : k = m := by omega
        obtain ⟨n, hn⟩ : ∃ n, (idx L k).length = n := ⟨_, rfl⟩
        have HNN := Lib.hid hn
        rw [hn] at hkl ⊢
        clear hn
        have hz := hb.size
        go_wp2
        have hrow0 : (wr.alloc O).rowIs wr.heap.size 3 k (fun c => .int .i64 (toldK L k y 0 c)) := (HR.out wr).congr (fun c hc => by rw [told_start L k y c hc])
        have hbA := below_one hb O
        generalize wr.heap.size = g at *
        generalize wr.alloc O = w2 at *
        go_loopw [8] (fun a wq => ∃ i : Nat, i ≤ n ∧ a = .int .i64 i ∧ wq.rowIs g 3 k (fun c => .int .i64 (toldK L k y i c)) ∧ Below W.heap.size W wq) (fun a _ => n - (intOf a).toNat)
        case atStart => exact ⟨0, by omega, rfl, hrow0, hbA⟩
        case round =>
          clear hrow0 hbA
          obtain ⟨i, hi, rfl, hrow, hbq⟩ := hrel
          by_cases hin : i < n
          · obtain ⟨c, HV, hck, hrun, hz0, hstep⟩ := pick_told L k HLM.out y i (by rw [HNN.out]; exact hin)
            have hcall := vPick _ L (y + i) _ HV (by rw [HLM.out]; omega) _ (HSL.out.below hbq)
            have HST := Lib.hid hstep
            obtain ⟨b2, o2, e2, c1⟩ := hatL.out c hck
            cases e2
            rw [hrun] at c1
            clear HV hstep hrun
            go_wp2_with fail
            refine hcall.mono ?_
            rintro e w1 ⟨rfl, hb1⟩
            have hbq1 := below_then hbq hb1
            have hrow1 := row_below hrow hb1
            have d1 := (hbq1.cell (p := ⟨b1, o1 + c, none⟩) (World.block_lt_of_cell? W _ c1)).trans c1
            have d2 : w1.cell? ⟨g, c, none⟩ = some (.int .i64 (toldK L k y i c)) := hrow1.cell hck
            have d3 := hrow1.frozen c
            rw [hz0] at d2
            clear c1 hcall hrow hbq hb1 hz0
            go_wp2
            go_roundw
            case rel => exact ⟨i + 1, by omega, by go_num, (hrow1.set c _).congr (fun d hd => by
              rw [HST.out d hd]
              by_cases e : d = c <;> simp [e]), hbq1.setCell (p := ⟨g, c, none⟩) hz _⟩
            case measure => simp [intOf]; omega
          · obtain rfl : i = n := by omega
            go_wp2
            have hrowE : wr.rowIs g 3 k (fun c => .int .i64 (if run L c = true then 1 else 0)) := hrow.congr (fun c hc => by
              have := told_end L k y c hc
              rw [HNN.out] at this
              rw [this])
            clear hrow
            go_loopw [11] (fun a wz => ∃ j : Nat, j ≤ k ∧ a = .int .i64 j ∧ wz.rowIs g 3 k (fun c => .int .i64 (if run L c = true then 1 else 0)) ∧ Below W.heap.size W wz) (fun a _ => k - (intOf a).toNat)
            case atStart => exact ⟨0, by omega, rfl, hrowE, hbq⟩
            case round =>
              clear hrowE hbq
              obtain ⟨j, hj, rfl, hrow, hbz⟩ := hrel
              by_cases hjk : j < k
              · obtain ⟨b2, o2, e2, c1⟩ := hatL.out j hjk
                cases e2
                have d1 := (hbz.cell (p := ⟨b1, o1 + j, none⟩) (World.block_lt_of_cell? W _ c1)).trans c1
                have d2 : wr.cell? ⟨g, j, none⟩ = some (.int .i64 (if run L j = true then 1 else 0)) := hrow.cell hjk
                have HROW := Lib.hid hrow
                clear c1 hrow
                generalize run L j = q at d1 d2
                cases q
                · simp only [Bool.false_eq_true, if_false] at d2
                  go_wp2
                  go_quiet (fail)
                  go_wp2
                  go_roundw
                  case rel => exact ⟨j + 1, by omega, by go_num, HROW.out, below_drewN hbz _⟩
                  case measure => simp [intOf]; omega
                · simp only [if_true] at d2
                  go_wp2
                  go_quiet (fail)
                  go_wp2
                  go_roundw
                  case rel => exact ⟨j + 1, by omega, by go_num, HROW.out, below_drewN hbz _⟩
                  case measure => simp [intOf]; omega
              · obtain rfl : j = k := by omega
                clear hrow
                by_cases hn0 : 0 < i
                · obtain ⟨c1, hc1⟩ := pick_is L y true (by rw [HLM.out, HNN.out]; simpa using hn0)
                  obtain ⟨c2, hc2⟩ := next_is L y true (by rw [HLM.out, HNN.out]; simpa using hn0)
                  have HC1 := Lib.hid hc1
                  have HC2 := Lib.hid hc2
                  have HL : Hid (L.length ≤ 1048576) := Lib.hid (by rw [HLM.out]; omega)
                  clear hc1 hc2
                  go_wp2_with fail
                  refine (vPick _ L y _ HC1.out HL.out _ (HSL.out.below hbz)).mono ?_
                  rintro e w1 ⟨rfl, hb1⟩
                  have hbz1 := below_then hbz hb1
                  go_wp2_with fail
                  refine (vNext _ L y _ HC2.out _ (HSL.out.below hbz1)).mono ?_
                  rintro e w2 ⟨rfl, hb2⟩
                  have hbz2 := below_then hbz1 hb2
                  go_wp2_with fail
                  refine (works _).mono ?_
                  rintro e w3 ⟨rfl, hb3⟩
                  go_wp2
                  go_ret
                  exact ⟨rfl, below_then hbz2 hb3⟩
                · obtain rfl : i = 0 := by omega
                  obtain ⟨c1, hc1⟩ := pick_is L y false (by rw [HLM.out, HNN.out]; rfl)
                  obtain ⟨c2, hc2⟩ := next_is L y false (by rw [HLM.out, HNN.out]; rfl)
                  have HC1 := Lib.hid hc1
                  have HC2 := Lib.hid hc2
                  have HL : Hid (L.length ≤ 1048576) := Lib.hid (by rw [HLM.out]; omega)
                  clear hc1 hc2
                  go_wp2_with fail
                  refine (vPick _ L y _ HC1.out HL.out _ (HSL.out.below hbz)).mono ?_
                  rintro e w1 ⟨rfl, hb1⟩
                  have hbz1 := below_then hbz hb1
                  go_wp2_with fail
                  refine (vNext _ L y _ HC2.out _ (HSL.out.below hbz1)).mono ?_
                  rintro e w2 ⟨rfl, hb2⟩
                  have hbz2 := below_then hbz1 hb2
                  go_wp2_with fail
                  refine (works _).mono ?_
                  rintro e w3 ⟨rfl, hb3⟩
                  go_wp2
                  go_ret
                  exact ⟨rfl, below_then hbz2 hb3⟩
end Go.Proofs.Ytkbehjkfeoffmaa
