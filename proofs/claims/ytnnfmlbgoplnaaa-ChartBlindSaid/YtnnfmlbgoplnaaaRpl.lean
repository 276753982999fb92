/-
  The document's places.
-/
import Derived.Test.YtnnfmlbgoplnaaaReg
set_option linter.unusedVariables false
set_option linter.unusedSimpArgs false
namespace Go.Proofs.Ytnnfmlbgoplnaaa
open Go Go.RowKit

set_option maxHeartbeats 1000000 in
theorem dWithin (i n : Int) (w : World) :
    Calls Try.prog 45 #[.int .i64 i, .int .i64 n] w fun e w' => e = .returned (.bool (inB i n)) ∧ w' = w := by
  unfold inB
  by_cases h0 : 0 ≤ i
  · by_cases h1 : i < n
    · rw [decide_eq_true (show 0 ≤ i ∧ i < n from ⟨h0, h1⟩)]
      go_enter Try.func45, Try.ntmps45
      go_wp2
      go_ret
      exact ⟨rfl, rfl⟩
    · rw [decide_eq_false (show ¬ (0 ≤ i ∧ i < n) from fun h => h1 h.2)]
      go_enter Try.func45, Try.ntmps45
      go_wp2
      go_ret
      exact ⟨rfl, rfl⟩
  · rw [decide_eq_false (show ¬ (0 ≤ i ∧ i < n) from fun h => h0 h.1)]
    go_enter Try.func45, Try.ntmps45
    go_wp2
    go_ret
    exact ⟨rfl, rfl⟩
theorem dWithinQ (i n : Int) (q : Bool) (hq : inB i n = q) (w : World) :
    Calls Try.prog 45 #[.int .i64 i, .int .i64 n] w fun e w' => e = .returned (.bool q) ∧ w' = w := by
  subst hq
  exact dWithin i n w
theorem dok_of (c : Ch) (hw : c.wf) : (c.ok ↔ inB (wrap64 (c.cpus - 1)) 8 = true ∧ inB (wrap64 (c.slabs - 1)) 32 = true ∧ inB (wrap64 (c.objs - 1)) 16 = true ∧ inB c.min 33 = true ∧ inB c.cap 33 = true) := by
  rw [in_one hw.cpus (by omega) (by omega), in_one hw.slabs (by omega) (by omega), in_one hw.objs (by omega) (by omega)]
  unfold inB Ch.ok
  simp only [decide_eq_true_eq]
  omega
set_option maxHeartbeats 4000000 in
theorem dCheck (c : Ch) (hw : c.wf) (w : World) :
    Calls Try.prog 18 #[c.agg] w fun e w' => e = .returned (.int .i64 c.chk) ∧ Below w.heap.size w w' := by
  have hok := dok_of c hw
  clear hw
  cases h0 : inB (wrap64 (c.cpus - 1)) 8 with
  | false =>
    rw [Ch.chk_no (fun e => by have := (hok.1 e).1; rw [h0] at this; cases this)]
    clear hok
    go_enter Try.func18, Try.ntmps18
    go_wp2_with fail
    refine (dWithinQ _ _ _ h0 _).mono ?_
    rintro e w1 ⟨rfl, rfl⟩
    go_wp2
    go_ret
    exact ⟨rfl, below_one (Below.refl _ _) _⟩
  | true =>
    cases h1 : inB (wrap64 (c.slabs - 1)) 32 with
    | false =>
      rw [Ch.chk_no (fun e => by have := (hok.1 e).2.1; rw [h1] at this; cases this)]
      clear hok
      go_enter Try.func18, Try.ntmps18
      go_wp2_with fail
      refine (dWithinQ _ _ _ h0 _).mono ?_
      rintro e w1 ⟨rfl, rfl⟩
      go_wp2_with fail
      refine (dWithinQ _ _ _ h1 _).mono ?_
      rintro e w1 ⟨rfl, rfl⟩
      go_wp2
      go_ret
      exact ⟨rfl, below_one (Below.refl _ _) _⟩
    | true =>
      cases h2 : inB (wrap64 (c.objs - 1)) 16 with
      | false =>
        rw [Ch.chk_no (fun e => by have := (hok.1 e).2.2.1; rw [h2] at this; cases this)]
        clear hok
        go_enter Try.func18, Try.ntmps18
        go_wp2_with fail
        refine (dWithinQ _ _ _ h0 _).mono ?_
        rintro e w1 ⟨rfl, rfl⟩
        go_wp2_with fail
        refine (dWithinQ _ _ _ h1 _).mono ?_
        rintro e w1 ⟨rfl, rfl⟩
        go_wp2_with fail
        refine (dWithinQ _ _ _ h2 _).mono ?_
        rintro e w1 ⟨rfl, rfl⟩
        go_wp2
        go_ret
        exact ⟨rfl, below_one (Below.refl _ _) _⟩
      | true =>
        cases h3 : inB (c.min) 33 with
        | false =>
          rw [Ch.chk_no (fun e => by have := (hok.1 e).2.2.2.1; rw [h3] at this; cases this)]
          clear hok
          go_enter Try.func18, Try.ntmps18
          go_wp2_with fail
          refine (dWithinQ _ _ _ h0 _).mono ?_
          rintro e w1 ⟨rfl, rfl⟩
          go_wp2_with fail
          refine (dWithinQ _ _ _ h1 _).mono ?_
          rintro e w1 ⟨rfl, rfl⟩
          go_wp2_with fail
          refine (dWithinQ _ _ _ h2 _).mono ?_
          rintro e w1 ⟨rfl, rfl⟩
          go_wp2_with fail
          refine (dWithinQ _ _ _ h3 _).mono ?_
          rintro e w1 ⟨rfl, rfl⟩
          go_wp2
          go_ret
          exact ⟨rfl, below_one (Below.refl _ _) _⟩
        | true =>
          cases h4 : inB (c.cap) 33 with
          | false =>
            rw [Ch.chk_no (fun e => by have := (hok.1 e).2.2.2.2; rw [h4] at this; cases this)]
            clear hok
            go_enter Try.func18, Try.ntmps18
            go_wp2_with fail
            refine (dWithinQ _ _ _ h0 _).mono ?_
            rintro e w1 ⟨rfl, rfl⟩
            go_wp2_with fail
            refine (dWithinQ _ _ _ h1 _).mono ?_
            rintro e w1 ⟨rfl, rfl⟩
            go_wp2_with fail
            refine (dWithinQ _ _ _ h2 _).mono ?_
            rintro e w1 ⟨rfl, rfl⟩
            go_wp2_with fail
            refine (dWithinQ _ _ _ h3 _).mono ?_
            rintro e w1 ⟨rfl, rfl⟩
            go_wp2_with fail
            refine (dWithinQ _ _ _ h4 _).mono ?_
            rintro e w1 ⟨rfl, rfl⟩
            go_wp2
            go_ret
            exact ⟨rfl, below_one (Below.refl _ _) _⟩
          | true =>
            rw [Ch.chk_yes (hok.2 ⟨h0, h1, h2, h3, h4⟩)]
            clear hok
            go_enter Try.func18, Try.ntmps18
            go_wp2_with fail
            refine (dWithinQ _ _ _ h0 _).mono ?_
            rintro e w1 ⟨rfl, rfl⟩
            go_wp2_with fail
            refine (dWithinQ _ _ _ h1 _).mono ?_
            rintro e w1 ⟨rfl, rfl⟩
            go_wp2_with fail
            refine (dWithinQ _ _ _ h2 _).mono ?_
            rintro e w1 ⟨rfl, rfl⟩
            go_wp2_with fail
            refine (dWithinQ _ _ _ h3 _).mono ?_
            rintro e w1 ⟨rfl, rfl⟩
            go_wp2_with fail
            refine (dWithinQ _ _ _ h4 _).mono ?_
            rintro e w1 ⟨rfl, rfl⟩
            go_wp2
            go_ret
            exact ⟨rfl, below_one (Below.refl _ _) _⟩
set_option maxHeartbeats 2000000 in
theorem dAt (c : Ch) (hw : c.wf) (b : Bool) (x : Int) (w : World) :
    Calls Try.prog 46 #[c.agg, .bool b, .int .i64 x] w fun e w' => e = .returned (.int .i64 (c.at b x)) ∧ Below w.heap.size w w' := by
  have HC := fun w => dCheck c hw w
  by_cases ho : c.ok
  · rw [Ch.chk_yes ho] at HC
    have HC := Lib.hid HC
    cases b with
    | true =>
      rw [Ch.at_yes ho]
      clear ho hw
      go_enter Try.func46, Try.ntmps46
      go_wp2_with fail
      refine (HC.out _).mono ?_
      rintro e w1 ⟨rfl, hb1⟩
      have HB := Lib.hid (below_then (below_one (Below.refl w.heap.size w) _) hb1)
      clear hb1
      go_wp2
      go_ret
      exact ⟨rfl, HB.out⟩
    | false =>
      rw [Ch.at_false]
      clear ho hw
      go_enter Try.func46, Try.ntmps46
      go_wp2_with fail
      refine (HC.out _).mono ?_
      rintro e w1 ⟨rfl, hb1⟩
      have HB := Lib.hid (below_then (below_one (Below.refl w.heap.size w) _) hb1)
      clear hb1
      go_wp2
      go_ret
      exact ⟨rfl, HB.out⟩
  · rw [Ch.chk_no ho] at HC
    have HC := Lib.hid HC
    rw [Ch.at_no ho]
    clear ho hw
    go_enter Try.func46, Try.ntmps46
    go_wp2_with fail
    refine (HC.out _).mono ?_
    rintro e w1 ⟨rfl, hb1⟩
    have HB := Lib.hid (below_then (below_one (Below.refl w.heap.size w) _) hb1)
    clear hb1
    go_wp2
    go_ret
    exact ⟨rfl, HB.out⟩
set_option maxHeartbeats 4000000 in
set_option maxRecDepth 100000 in
theorem dHead (c : Ch) (hw : c.wf) (i : Int) (w : World) :
    Calls Try.prog 20 #[c.agg, .int .i64 i] w fun e w' => e = .returned (.int .i64 (c.head i)) ∧ Below w.heap.size w w' := by
  have HA := Lib.hid (fun b x w => dAt c hw b x w)
  have h0 := (one_new w c).drew
  have h00 := one_new w c
  have HF : Hid (∀ p, p = IntKind.i64.wrap (4 * i) → c.at (inB i c.cpus) p = c.head i) := Lib.hid (fun p e => by
    subst e
    refine at_same (fun ho hb => ?_)
    simp only [inB, decide_eq_true_eq, Bool.and_eq_true] at hb
    obtain ⟨⟨o1, o2⟩, ⟨o3, o4⟩, ⟨o5, o6⟩, _⟩ := ho
    exact IntWalk.i64_in _ (by omega))
  clear hw
  go_enter Try.func20, Try.ntmps20
  go_wp2
  go_region_held3 (fun w' => w'.cell? ⟨w.heap.size, 0, none⟩ = some (.int .i64 c.cpus) ∧ w'.cell? ⟨w.heap.size, 1, none⟩ = some (.int .i64 c.slabs) ∧ w'.cell? ⟨w.heap.size, 2, none⟩ = some (.int .i64 c.objs) ∧ w'.cell? ⟨w.heap.size, 3, none⟩ = some (.int .i64 c.min) ∧ w'.cell? ⟨w.heap.size, 4, none⟩ = some (.int .i64 c.cap) ∧ w'.cell? ⟨w.heap.size, 5, none⟩ = some (.int .u64 c.key) ∧ One w w.heap.size c w')
    (first | exact One.six (by assumption))
    (first
      | (go_at_call 45; refine (dWithin _ _ _).mono ?_; rintro e _ ⟨rfl, rfl⟩)
      | (go_at_call 46; refine (HA.out _ _ _).mono ?_; rintro e w2 ⟨rfl, hb2⟩; have hT2 := One.next (show One w w.heap.size c _ from by assumption) hb2; clear hb2))
  all_goals
    go_wp2
    go_ret
    exact ⟨ret_int (HF.out _ rfl), hT2.low⟩
set_option maxHeartbeats 4000000 in
set_option maxRecDepth 100000 in
theorem dPart (c : Ch) (hw : c.wf) (i : Int) (w : World) :
    Calls Try.prog 21 #[c.agg, .int .i64 i] w fun e w' => e = .returned (.int .i64 (c.part i)) ∧ Below w.heap.size w w' := by
  have HA := Lib.hid (fun b x w => dAt c hw b x w)
  have h0 := (one_new w c).drew
  have h00 := one_new w c
  have HF : Hid (∀ p, p = IntKind.i64.wrap (IntKind.i64.wrap (4 * i) + 2) → c.at (inB i c.cpus) p = c.part i) := Lib.hid (fun p e => by
    subst e
    refine at_same (fun ho hb => ?_)
    simp only [inB, decide_eq_true_eq, Bool.and_eq_true] at hb
    obtain ⟨⟨o1, o2⟩, ⟨o3, o4⟩, ⟨o5, o6⟩, _⟩ := ho
    rw [IntWalk.i64_in (4 * i) (by omega)]
    exact IntWalk.i64_in _ (by omega))
  clear hw
  go_enter Try.func21, Try.ntmps21
  go_wp2
  go_region_held3 (fun w' => w'.cell? ⟨w.heap.size, 0, none⟩ = some (.int .i64 c.cpus) ∧ w'.cell? ⟨w.heap.size, 1, none⟩ = some (.int .i64 c.slabs) ∧ w'.cell? ⟨w.heap.size, 2, none⟩ = some (.int .i64 c.objs) ∧ w'.cell? ⟨w.heap.size, 3, none⟩ = some (.int .i64 c.min) ∧ w'.cell? ⟨w.heap.size, 4, none⟩ = some (.int .i64 c.cap) ∧ w'.cell? ⟨w.heap.size, 5, none⟩ = some (.int .u64 c.key) ∧ One w w.heap.size c w')
    (first | exact One.six (by assumption))
    (first
      | (go_at_call 45; refine (dWithin _ _ _).mono ?_; rintro e _ ⟨rfl, rfl⟩)
      | (go_at_call 46; refine (HA.out _ _ _).mono ?_; rintro e w2 ⟨rfl, hb2⟩; have hT2 := One.next (show One w w.heap.size c _ from by assumption) hb2; clear hb2))
  all_goals
    go_wp2
    go_ret
    exact ⟨ret_int (HF.out _ rfl), hT2.low⟩
set_option maxHeartbeats 1000000 in
theorem dLock (c : Ch) (hw : c.wf) (w : World) :
    Calls Try.prog 22 #[c.agg] w fun e w' => e = .returned (.int .i64 (c.lock)) ∧ Below w.heap.size w w' := by
  have HA := Lib.hid (fun b x w => dAt c hw b x w)
  clear hw
  go_enter Try.func22, Try.ntmps22
  go_wp2_with fail
  refine (HA.out _ _ _).mono ?_
  rintro e w1 ⟨rfl, hb1⟩
  have HB := Lib.hid (below_then (below_one (Below.refl w.heap.size w) _) hb1)
  clear hb1
  go_wp2
  go_ret
  exact ⟨ret_int (at_same (fun ho hb => by
        simp only [inB, decide_eq_true_eq, Bool.and_eq_true] at hb
        obtain ⟨⟨o1, o2⟩, ⟨o3, o4⟩, ⟨o5, o6⟩, _⟩ := ho
        simp only [w64, wrap64, Ch.s0, Ch.l0]
        omega)), HB.out⟩
set_option maxHeartbeats 1000000 in
theorem dShelf (c : Ch) (hw : c.wf) (w : World) :
    Calls Try.prog 23 #[c.agg] w fun e w' => e = .returned (.int .i64 (c.shelf)) ∧ Below w.heap.size w w' := by
  have HA := Lib.hid (fun b x w => dAt c hw b x w)
  clear hw
  go_enter Try.func23, Try.ntmps23
  go_wp2_with fail
  refine (HA.out _ _ _).mono ?_
  rintro e w1 ⟨rfl, hb1⟩
  have HB := Lib.hid (below_then (below_one (Below.refl w.heap.size w) _) hb1)
  clear hb1
  go_wp2
  go_ret
  exact ⟨ret_int (at_same (fun ho hb => by
        simp only [inB, decide_eq_true_eq, Bool.and_eq_true] at hb
        obtain ⟨⟨o1, o2⟩, ⟨o3, o4⟩, ⟨o5, o6⟩, _⟩ := ho
        simp only [w64, wrap64, Ch.s0, Ch.l0]
        omega)), HB.out⟩
set_option maxHeartbeats 1000000 in
theorem dHeld (c : Ch) (hw : c.wf) (w : World) :
    Calls Try.prog 24 #[c.agg] w fun e w' => e = .returned (.int .i64 (c.held)) ∧ Below w.heap.size w w' := by
  have HA := Lib.hid (fun b x w => dAt c hw b x w)
  clear hw
  go_enter Try.func24, Try.ntmps24
  go_wp2_with fail
  refine (HA.out _ _ _).mono ?_
  rintro e w1 ⟨rfl, hb1⟩
  have HB := Lib.hid (below_then (below_one (Below.refl w.heap.size w) _) hb1)
  clear hb1
  go_wp2
  go_ret
  exact ⟨ret_int (at_same (fun ho hb => by
        simp only [inB, decide_eq_true_eq, Bool.and_eq_true] at hb
        obtain ⟨⟨o1, o2⟩, ⟨o3, o4⟩, ⟨o5, o6⟩, _⟩ := ho
        simp only [w64, wrap64, Ch.s0, Ch.l0]
        omega)), HB.out⟩
set_option maxHeartbeats 4000000 in
set_option maxRecDepth 100000 in
theorem dFirst (c : Ch) (hw : c.wf) (s : Int) (w : World) :
    Calls Try.prog 25 #[c.agg, .int .i64 s] w fun e w' => e = .returned (.int .i64 (c.first s)) ∧ Below w.heap.size w w' := by
  have HA := Lib.hid (fun b x w => dAt c hw b x w)
  have h0 := (one_new w c).drew
  have h00 := one_new w c
  clear hw
  go_enter Try.func25, Try.ntmps25
  go_wp2
  go_region_held3 (fun w' => w'.cell? ⟨w.heap.size, 0, none⟩ = some (.int .i64 c.cpus) ∧ w'.cell? ⟨w.heap.size, 1, none⟩ = some (.int .i64 c.slabs) ∧ w'.cell? ⟨w.heap.size, 2, none⟩ = some (.int .i64 c.objs) ∧ w'.cell? ⟨w.heap.size, 3, none⟩ = some (.int .i64 c.min) ∧ w'.cell? ⟨w.heap.size, 4, none⟩ = some (.int .i64 c.cap) ∧ w'.cell? ⟨w.heap.size, 5, none⟩ = some (.int .u64 c.key) ∧ One w w.heap.size c w')
    (first | exact One.six (by assumption))
    (first
      | (go_at_call 45; refine (dWithin _ _ _).mono ?_; rintro e _ ⟨rfl, rfl⟩)
      | (go_at_call 46; refine (HA.out _ _ _).mono ?_; rintro e w2 ⟨rfl, hb2⟩; have hT2 := One.next (show One w w.heap.size c _ from by assumption) hb2; clear hb2))
  all_goals
    go_wp2
    go_ret
    exact ⟨ret_int (at_same (fun ho hb => by
        simp only [inB, decide_eq_true_eq, Bool.and_eq_true] at hb
        obtain ⟨⟨o1, o2⟩, ⟨o3, o4⟩, ⟨o5, o6⟩, _⟩ := ho
        simp only [w64, wrap64, Ch.s0, Ch.l0]
        omega)), hT2.low⟩
set_option maxHeartbeats 4000000 in
set_option maxRecDepth 100000 in
theorem dNext (c : Ch) (hw : c.wf) (s : Int) (w : World) :
    Calls Try.prog 26 #[c.agg, .int .i64 s] w fun e w' => e = .returned (.int .i64 (c.next s)) ∧ Below w.heap.size w w' := by
  have HA := Lib.hid (fun b x w => dAt c hw b x w)
  have h0 := (one_new w c).drew
  have h00 := one_new w c
  clear hw
  go_enter Try.func26, Try.ntmps26
  go_wp2
  go_region_held3 (fun w' => w'.cell? ⟨w.heap.size, 0, none⟩ = some (.int .i64 c.cpus) ∧ w'.cell? ⟨w.heap.size, 1, none⟩ = some (.int .i64 c.slabs) ∧ w'.cell? ⟨w.heap.size, 2, none⟩ = some (.int .i64 c.objs) ∧ w'.cell? ⟨w.heap.size, 3, none⟩ = some (.int .i64 c.min) ∧ w'.cell? ⟨w.heap.size, 4, none⟩ = some (.int .i64 c.cap) ∧ w'.cell? ⟨w.heap.size, 5, none⟩ = some (.int .u64 c.key) ∧ One w w.heap.size c w')
    (first | exact One.six (by assumption))
    (first
      | (go_at_call 45; refine (dWithin _ _ _).mono ?_; rintro e _ ⟨rfl, rfl⟩)
      | (go_at_call 46; refine (HA.out _ _ _).mono ?_; rintro e w2 ⟨rfl, hb2⟩; have hT2 := One.next (show One w w.heap.size c _ from by assumption) hb2; clear hb2))
  all_goals
    go_wp2
    go_ret
    exact ⟨ret_int (at_same (fun ho hb => by
        simp only [inB, decide_eq_true_eq, Bool.and_eq_true] at hb
        obtain ⟨⟨o1, o2⟩, ⟨o3, o4⟩, ⟨o5, o6⟩, _⟩ := ho
        simp only [w64, wrap64, Ch.s0, Ch.l0]
        omega)), hT2.low⟩
set_option maxHeartbeats 4000000 in
set_option maxRecDepth 100000 in
theorem dLinktrue (c : Ch) (hw : c.wf) (s o : Int) (hs : inB s c.slabs = true) (w : World) :
    Calls Try.prog 27 #[c.agg, .int .i64 s, .int .i64 o] w fun e w' => e = .returned (.int .i64 (c.link s o)) ∧ Below w.heap.size w w' := by
  have HA := Lib.hid (fun b x w => dAt c hw b x w)
  have HQ := Lib.hid (fun w => dWithinQ s c.slabs true hs w)
  have hT1 := (one_new w c).drew
  have h00 := one_new w c
  have HS := Lib.hid hs
  clear hw hs
  go_enter Try.func27, Try.ntmps27
  go_wp2
  refine wp_region_held_drew (S := (fun w' => w'.cell? ⟨w.heap.size, 0, none⟩ = some (.int .i64 c.cpus) ∧ w'.cell? ⟨w.heap.size, 1, none⟩ = some (.int .i64 c.slabs) ∧ w'.cell? ⟨w.heap.size, 2, none⟩ = some (.int .i64 c.objs) ∧ w'.cell? ⟨w.heap.size, 3, none⟩ = some (.int .i64 c.min) ∧ w'.cell? ⟨w.heap.size, 4, none⟩ = some (.int .i64 c.cap) ∧ w'.cell? ⟨w.heap.size, 5, none⟩ = some (.int .u64 c.key) ∧ One w w.heap.size c w')) (by kernel_rfl) ?_ (fun hH1 => ?_)
  · exact hT1.six
  refine' take_at (i := 0) (d := some 7) (v := _) rfl rfl (by kernel_rfl) (by kernel_rfl) (by kernel_rfl) (fun _ _ _ h => h) (Or.inl ⟨by rfl, ?hy0⟩) (by assumption) ?rest0
  case hy0 => (intro w hSw; (try dsimp only at hSw); go_simp; try with_reducible rfl)
  try simp only [Act.put, List.setIfInBounds_toArray, List.set_cons_zero, List.set_cons_succ]
  refine' take_at (i := 1) (d := some 8) (v := _) rfl rfl (by kernel_rfl) (by kernel_rfl) (by kernel_rfl) (fun _ _ _ h => h) (Or.inl ⟨by rfl, ?hy1⟩) (by assumption) ?rest1
  case hy1 => (intro w hSw; (try dsimp only at hSw); go_simp; try with_reducible rfl)
  try simp only [Act.put, List.setIfInBounds_toArray, List.set_cons_zero, List.set_cons_succ]
  refine' take_at (i := 2) (d := some 9) (v := _) rfl rfl (by kernel_rfl) (by kernel_rfl) (by kernel_rfl) (fun _ _ _ h => h) (Or.inl ⟨by rfl, ?hy2⟩) (by assumption) ?rest2
  case hy2 => (intro w hSw; (try dsimp only at hSw); go_simp; try with_reducible rfl)
  try simp only [Act.put, List.setIfInBounds_toArray, List.set_cons_zero, List.set_cons_succ]
  refine' take_at (i := 3) (d := some 10) (v := _) rfl rfl (by kernel_rfl) (by kernel_rfl) (by kernel_rfl) (fun _ _ _ h => h) (Or.inl ⟨by rfl, ?hy3⟩) (by assumption) ?rest3
  case hy3 => (intro w hSw; (try dsimp only at hSw); go_simp; try with_reducible rfl)
  try simp only [Act.put, List.setIfInBounds_toArray, List.set_cons_zero, List.set_cons_succ]
  refine' take_at (i := 11) (d := some 18) (v := _) rfl rfl (by kernel_rfl) (by kernel_rfl) (by kernel_rfl) (fun _ _ _ h => h) (Or.inl ⟨by rfl, ?hy11⟩) (by assumption) ?rest11
  case hy11 => (intro w hSw; (try dsimp only at hSw); go_simp; try with_reducible rfl)
  try simp only [Act.put, List.setIfInBounds_toArray, List.set_cons_zero, List.set_cons_succ]
  refine' take_at (i := 12) (d := some 19) (v := _) rfl rfl (by kernel_rfl) (by kernel_rfl) (by kernel_rfl) (fun _ _ _ h => h) (Or.inl ⟨by rfl, ?hy12⟩) (by assumption) ?rest12
  case hy12 => (intro w hSw; (try dsimp only at hSw); go_simp; try with_reducible rfl)
  try simp only [Act.put, List.setIfInBounds_toArray, List.set_cons_zero, List.set_cons_succ]
  refine' take_at (i := 13) (d := some 20) (v := _) rfl rfl (by kernel_rfl) (by kernel_rfl) (by kernel_rfl) (fun _ _ _ h => h) (Or.inl ⟨by rfl, ?hy13⟩) (by assumption) ?rest13
  case hy13 => (intro w hSw; (try dsimp only at hSw); go_simp; try with_reducible rfl)
  try simp only [Act.put, List.setIfInBounds_toArray, List.set_cons_zero, List.set_cons_succ]
  refine' take_at (i := 14) (d := some 21) (v := _) rfl rfl (by kernel_rfl) (by kernel_rfl) (by kernel_rfl) (fun _ _ _ h => h) (Or.inl ⟨by rfl, ?hy14⟩) (by assumption) ?rest14
  case hy14 => (intro w hSw; (try dsimp only at hSw); go_simp; try with_reducible rfl)
  try simp only [Act.put, List.setIfInBounds_toArray, List.set_cons_zero, List.set_cons_succ]
  refine' take_at (i := 15) (d := some 22) (v := _) rfl rfl (by kernel_rfl) (by kernel_rfl) (by kernel_rfl) (fun _ _ _ h => h) (Or.inl ⟨by rfl, ?hy15⟩) (by assumption) ?rest15
  case hy15 => (intro w hSw; (try dsimp only at hSw); go_simp; try with_reducible rfl)
  try simp only [Act.put, List.setIfInBounds_toArray, List.set_cons_zero, List.set_cons_succ]
  refine' take_at (i := 16) (d := some 23) (v := _) rfl rfl (by kernel_rfl) (by kernel_rfl) (by kernel_rfl) (fun _ _ _ h => h) (Or.inl ⟨by rfl, ?hy16⟩) (by assumption) ?rest16
  case hy16 => (intro w hSw; (try dsimp only at hSw); go_simp; try with_reducible rfl)
  try simp only [Act.put, List.setIfInBounds_toArray, List.set_cons_zero, List.set_cons_succ]
  refine' take_at (i := 17) (d := some 24) (v := _) rfl rfl (by kernel_rfl) (by kernel_rfl) (by kernel_rfl) (fun _ _ _ h => h) (Or.inl ⟨by rfl, ?hy17⟩) (by assumption) ?rest17
  case hy17 => (intro w hSw; (try dsimp only at hSw); go_simp; try with_reducible rfl)
  try simp only [Act.put, List.setIfInBounds_toArray, List.set_cons_zero, List.set_cons_succ]
  refine' take_at (i := 18) (d := some 25) (v := _) rfl rfl (by kernel_rfl) (by kernel_rfl) (by kernel_rfl) (fun _ _ _ h => h) (Or.inl ⟨by rfl, ?hy18⟩) (by assumption) ?rest18
  case hy18 => (intro w hSw; (try dsimp only at hSw); go_simp; try with_reducible rfl)
  try simp only [Act.put, List.setIfInBounds_toArray, List.set_cons_zero, List.set_cons_succ]
  refine' take_at (i := 19) (d := some 26) (v := _) rfl rfl (by kernel_rfl) (by kernel_rfl) (by kernel_rfl) (fun _ _ _ h => h) (Or.inl ⟨by rfl, ?hy19⟩) (by assumption) ?rest19
  case hy19 => (intro w hSw; (try dsimp only at hSw); go_simp; try with_reducible rfl)
  try simp only [Act.put, List.setIfInBounds_toArray, List.set_cons_zero, List.set_cons_succ]
  refine' take_at (i := 20) (d := some 27) (v := _) rfl rfl (by kernel_rfl) (by kernel_rfl) (by kernel_rfl) (fun _ _ _ h => h) (Or.inl ⟨by rfl, ?hy20⟩) (by assumption) ?rest20
  case hy20 => (intro w hSw; (try dsimp only at hSw); go_simp; try with_reducible rfl)
  try simp only [Act.put, List.setIfInBounds_toArray, List.set_cons_zero, List.set_cons_succ]
  refine' take_at (i := 21) (d := some 28) (v := _) rfl rfl (by kernel_rfl) (by kernel_rfl) (by kernel_rfl) (fun _ _ _ h => h) (Or.inl ⟨by rfl, ?hy21⟩) (by assumption) ?rest21
  case hy21 => (intro w hSw; (try dsimp only at hSw); go_simp; try with_reducible rfl)
  try simp only [Act.put, List.setIfInBounds_toArray, List.set_cons_zero, List.set_cons_succ]
  refine' take_at (i := 22) (d := some 29) (v := _) rfl rfl (by kernel_rfl) (by kernel_rfl) (by kernel_rfl) (fun _ _ _ h => h) (Or.inl ⟨by rfl, ?hy22⟩) (by assumption) ?rest22
  case hy22 => (intro w hSw; (try dsimp only at hSw); go_simp; try with_reducible rfl)
  try simp only [Act.put, List.setIfInBounds_toArray, List.set_cons_zero, List.set_cons_succ]
  refine' take_at (i := 23) (d := some 30) (v := _) rfl rfl (by kernel_rfl) (by kernel_rfl) (by kernel_rfl) (fun _ _ _ h => h) (Or.inl ⟨by rfl, ?hy23⟩) (by assumption) ?rest23
  case hy23 => (intro w hSw; (try dsimp only at hSw); go_simp; try with_reducible rfl)
  try simp only [Act.put, List.setIfInBounds_toArray, List.set_cons_zero, List.set_cons_succ]
  refine' take_at (i := 24) (d := some 31) (v := _) rfl rfl (by kernel_rfl) (by kernel_rfl) (by kernel_rfl) (fun _ _ _ h => h) (Or.inl ⟨by rfl, ?hy24⟩) (by assumption) ?rest24
  case hy24 => (intro w hSw; (try dsimp only at hSw); go_simp; try with_reducible rfl)
  try simp only [Act.put, List.setIfInBounds_toArray, List.set_cons_zero, List.set_cons_succ]
  refine' take_at (i := 25) (d := some 32) (v := _) rfl rfl (by kernel_rfl) (by kernel_rfl) (by kernel_rfl) (fun _ _ _ h => h) (Or.inl ⟨by rfl, ?hy25⟩) (by assumption) ?rest25
  case hy25 => (intro w hSw; (try dsimp only at hSw); go_simp; try with_reducible rfl)
  try simp only [Act.put, List.setIfInBounds_toArray, List.set_cons_zero, List.set_cons_succ]
  refine wpAnyH_ready (rs := [4]) (by kernel_rfl) (by simp) ?_
  refine AllReadyH.cons rfl (fun K hK => ?_) AllReadyH.nil
  go_simp
  go_wp2_with (go_at_call 45; refine (HQ.out _).mono ?_; rintro e _ ⟨rfl, rfl⟩)
  refine hK.out _ _ ?_ (fun hHn => ?_)
  · first | exact hT1.six | (dsimp only; exact hT1.six)
  clear hK K
  clear hH1
  refine' take_at (i := 5) (d := some 12) (v := _) rfl rfl (by kernel_rfl) (by kernel_rfl) (by kernel_rfl) (fun _ _ _ h => h) (Or.inl ⟨by rfl, ?hy5⟩) (by assumption) ?rest5
  case hy5 => (intro w hSw; (try dsimp only at hSw); go_simp; try with_reducible rfl)
  try simp only [Act.put, List.setIfInBounds_toArray, List.set_cons_zero, List.set_cons_succ]
  refine' take_at (i := 6) (d := some 13) (v := _) rfl rfl (by kernel_rfl) (by kernel_rfl) (by kernel_rfl) (fun _ _ _ h => h) (Or.inl ⟨by rfl, ?hy6⟩) (by assumption) ?rest6
  case hy6 => (intro w hSw; (try dsimp only at hSw); go_simp; try with_reducible rfl)
  try simp only [Act.put, List.setIfInBounds_toArray, List.set_cons_zero, List.set_cons_succ]
  refine' take_at (i := 7) (d := some 14) (v := _) rfl rfl (by kernel_rfl) (by kernel_rfl) (by kernel_rfl) (fun _ _ _ h => h) (Or.inl ⟨by rfl, ?hy7⟩) (by assumption) ?rest7
  case hy7 => (intro w hSw; (try dsimp only at hSw); go_simp; try with_reducible rfl)
  try simp only [Act.put, List.setIfInBounds_toArray, List.set_cons_zero, List.set_cons_succ]
  refine' take_at (i := 8) (d := some 15) (v := _) rfl rfl (by kernel_rfl) (by kernel_rfl) (by kernel_rfl) (fun _ _ _ h => h) (Or.inl ⟨by rfl, ?hy8⟩) (by assumption) ?rest8
  case hy8 => (intro w hSw; (try dsimp only at hSw); go_simp; try with_reducible rfl)
  try simp only [Act.put, List.setIfInBounds_toArray, List.set_cons_zero, List.set_cons_succ]
  refine wpAnyH_ready (rs := [9]) (by kernel_rfl) (by simp) ?_
  refine AllReadyH.cons rfl (fun K hK => ?_) AllReadyH.nil
  go_simp
  go_wp2_with (go_at_call 45; refine (dWithin _ _ _).mono ?_; rintro e _ ⟨rfl, rfl⟩)
  refine hK.out _ _ ?_ (fun hHn => ?_)
  · first | exact hT1.six | (dsimp only; exact hT1.six)
  clear hK K
  refine' take_at (i := 10) (d := some 17) (v := _) rfl rfl (by kernel_rfl) (by kernel_rfl) (by kernel_rfl) (fun _ _ _ h => h) (Or.inl ⟨by rfl, ?hy10⟩) (by assumption) ?rest10
  case hy10 => (intro w hSw; (try dsimp only at hSw); go_simp; try with_reducible rfl)
  try simp only [Act.put, List.setIfInBounds_toArray, List.set_cons_zero, List.set_cons_succ]
  refine wpAnyH_ready (rs := [26]) (by kernel_rfl) (by simp) ?_
  refine AllReadyH.cons rfl (fun K hK => ?_) AllReadyH.nil
  go_simp
  go_wp2_with (go_at_call 46; refine (HA.out _ _ _).mono ?_; rintro e w2 ⟨rfl, hb2⟩; have hT2 := hT1.next hb2; clear hb2)
  refine hK.out _ _ ?_ (fun hHn => ?_)
  · first | exact hT2.six | (dsimp only; exact hT2.six)
  clear hK K
  refine' take_at (i := 27) (d := some 6) (v := _) rfl rfl (by kernel_rfl) (by kernel_rfl) (by kernel_rfl) (fun _ _ _ h => h) (Or.inl ⟨by rfl, ?hy27⟩) (by assumption) ?rest27
  case hy27 => (intro w hSw; (try dsimp only at hSw); go_simp; try with_reducible rfl)
  try simp only [Act.put, List.setIfInBounds_toArray, List.set_cons_zero, List.set_cons_succ]
  refine wpAnyH_done (by kernel_rfl) ?_ _
  go_wp2
  go_ret
  refine ⟨ret_int ?_, hT2.low⟩
  have hs := HS.out
  unfold Ch.link
  rw [hs, Bool.true_and]
  refine at_same (fun ho hb => ?_)
  have hb : (inB s c.slabs && inB o c.objs) = true := by rw [hs, hb]; rfl
  revert hb
  intro hb
  exact (by
    simp only [inB, decide_eq_true_eq, Bool.and_eq_true] at hb
    have hp := Ch.prod_at ho hb.1.1 hb.1.2
    have hp2 := Ch.prod ho
    obtain ⟨⟨o1, o2⟩, ⟨o3, o4⟩, ⟨o5, o6⟩, _⟩ := ho
    simp only [w64, wrap64, Ch.s0, Ch.l0]
    generalize s * c.objs = P at *
    generalize c.slabs * c.objs = R at *
    omega)
set_option maxHeartbeats 4000000 in
set_option maxRecDepth 100000 in
theorem dLinkfalse (c : Ch) (hw : c.wf) (s o : Int) (hs : inB s c.slabs = false) (w : World) :
    Calls Try.prog 27 #[c.agg, .int .i64 s, .int .i64 o] w fun e w' => e = .returned (.int .i64 (c.link s o)) ∧ Below w.heap.size w w' := by
  have HA := Lib.hid (fun b x w => dAt c hw b x w)
  have HQ := Lib.hid (fun w => dWithinQ s c.slabs false hs w)
  have hT1 := (one_new w c).drew
  have h00 := one_new w c
  have HS := Lib.hid hs
  clear hw hs
  go_enter Try.func27, Try.ntmps27
  go_wp2
  refine wp_region_held_drew (S := (fun w' => w'.cell? ⟨w.heap.size, 0, none⟩ = some (.int .i64 c.cpus) ∧ w'.cell? ⟨w.heap.size, 1, none⟩ = some (.int .i64 c.slabs) ∧ w'.cell? ⟨w.heap.size, 2, none⟩ = some (.int .i64 c.objs) ∧ w'.cell? ⟨w.heap.size, 3, none⟩ = some (.int .i64 c.min) ∧ w'.cell? ⟨w.heap.size, 4, none⟩ = some (.int .i64 c.cap) ∧ w'.cell? ⟨w.heap.size, 5, none⟩ = some (.int .u64 c.key) ∧ One w w.heap.size c w')) (by kernel_rfl) ?_ (fun hH1 => ?_)
  · exact hT1.six
  refine' take_at (i := 0) (d := some 7) (v := _) rfl rfl (by kernel_rfl) (by kernel_rfl) (by kernel_rfl) (fun _ _ _ h => h) (Or.inl ⟨by rfl, ?hy0⟩) (by assumption) ?rest0
  case hy0 => (intro w hSw; (try dsimp only at hSw); go_simp; try with_reducible rfl)
  try simp only [Act.put, List.setIfInBounds_toArray, List.set_cons_zero, List.set_cons_succ]
  refine' take_at (i := 1) (d := some 8) (v := _) rfl rfl (by kernel_rfl) (by kernel_rfl) (by kernel_rfl) (fun _ _ _ h => h) (Or.inl ⟨by rfl, ?hy1⟩) (by assumption) ?rest1
  case hy1 => (intro w hSw; (try dsimp only at hSw); go_simp; try with_reducible rfl)
  try simp only [Act.put, List.setIfInBounds_toArray, List.set_cons_zero, List.set_cons_succ]
  refine' take_at (i := 2) (d := some 9) (v := _) rfl rfl (by kernel_rfl) (by kernel_rfl) (by kernel_rfl) (fun _ _ _ h => h) (Or.inl ⟨by rfl, ?hy2⟩) (by assumption) ?rest2
  case hy2 => (intro w hSw; (try dsimp only at hSw); go_simp; try with_reducible rfl)
  try simp only [Act.put, List.setIfInBounds_toArray, List.set_cons_zero, List.set_cons_succ]
  refine' take_at (i := 3) (d := some 10) (v := _) rfl rfl (by kernel_rfl) (by kernel_rfl) (by kernel_rfl) (fun _ _ _ h => h) (Or.inl ⟨by rfl, ?hy3⟩) (by assumption) ?rest3
  case hy3 => (intro w hSw; (try dsimp only at hSw); go_simp; try with_reducible rfl)
  try simp only [Act.put, List.setIfInBounds_toArray, List.set_cons_zero, List.set_cons_succ]
  refine' take_at (i := 11) (d := some 18) (v := _) rfl rfl (by kernel_rfl) (by kernel_rfl) (by kernel_rfl) (fun _ _ _ h => h) (Or.inl ⟨by rfl, ?hy11⟩) (by assumption) ?rest11
  case hy11 => (intro w hSw; (try dsimp only at hSw); go_simp; try with_reducible rfl)
  try simp only [Act.put, List.setIfInBounds_toArray, List.set_cons_zero, List.set_cons_succ]
  refine' take_at (i := 12) (d := some 19) (v := _) rfl rfl (by kernel_rfl) (by kernel_rfl) (by kernel_rfl) (fun _ _ _ h => h) (Or.inl ⟨by rfl, ?hy12⟩) (by assumption) ?rest12
  case hy12 => (intro w hSw; (try dsimp only at hSw); go_simp; try with_reducible rfl)
  try simp only [Act.put, List.setIfInBounds_toArray, List.set_cons_zero, List.set_cons_succ]
  refine' take_at (i := 13) (d := some 20) (v := _) rfl rfl (by kernel_rfl) (by kernel_rfl) (by kernel_rfl) (fun _ _ _ h => h) (Or.inl ⟨by rfl, ?hy13⟩) (by assumption) ?rest13
  case hy13 => (intro w hSw; (try dsimp only at hSw); go_simp; try with_reducible rfl)
  try simp only [Act.put, List.setIfInBounds_toArray, List.set_cons_zero, List.set_cons_succ]
  refine' take_at (i := 14) (d := some 21) (v := _) rfl rfl (by kernel_rfl) (by kernel_rfl) (by kernel_rfl) (fun _ _ _ h => h) (Or.inl ⟨by rfl, ?hy14⟩) (by assumption) ?rest14
  case hy14 => (intro w hSw; (try dsimp only at hSw); go_simp; try with_reducible rfl)
  try simp only [Act.put, List.setIfInBounds_toArray, List.set_cons_zero, List.set_cons_succ]
  refine' take_at (i := 15) (d := some 22) (v := _) rfl rfl (by kernel_rfl) (by kernel_rfl) (by kernel_rfl) (fun _ _ _ h => h) (Or.inl ⟨by rfl, ?hy15⟩) (by assumption) ?rest15
  case hy15 => (intro w hSw; (try dsimp only at hSw); go_simp; try with_reducible rfl)
  try simp only [Act.put, List.setIfInBounds_toArray, List.set_cons_zero, List.set_cons_succ]
  refine' take_at (i := 16) (d := some 23) (v := _) rfl rfl (by kernel_rfl) (by kernel_rfl) (by kernel_rfl) (fun _ _ _ h => h) (Or.inl ⟨by rfl, ?hy16⟩) (by assumption) ?rest16
  case hy16 => (intro w hSw; (try dsimp only at hSw); go_simp; try with_reducible rfl)
  try simp only [Act.put, List.setIfInBounds_toArray, List.set_cons_zero, List.set_cons_succ]
  refine' take_at (i := 17) (d := some 24) (v := _) rfl rfl (by kernel_rfl) (by kernel_rfl) (by kernel_rfl) (fun _ _ _ h => h) (Or.inl ⟨by rfl, ?hy17⟩) (by assumption) ?rest17
  case hy17 => (intro w hSw; (try dsimp only at hSw); go_simp; try with_reducible rfl)
  try simp only [Act.put, List.setIfInBounds_toArray, List.set_cons_zero, List.set_cons_succ]
  refine' take_at (i := 18) (d := some 25) (v := _) rfl rfl (by kernel_rfl) (by kernel_rfl) (by kernel_rfl) (fun _ _ _ h => h) (Or.inl ⟨by rfl, ?hy18⟩) (by assumption) ?rest18
  case hy18 => (intro w hSw; (try dsimp only at hSw); go_simp; try with_reducible rfl)
  try simp only [Act.put, List.setIfInBounds_toArray, List.set_cons_zero, List.set_cons_succ]
  refine' take_at (i := 19) (d := some 26) (v := _) rfl rfl (by kernel_rfl) (by kernel_rfl) (by kernel_rfl) (fun _ _ _ h => h) (Or.inl ⟨by rfl, ?hy19⟩) (by assumption) ?rest19
  case hy19 => (intro w hSw; (try dsimp only at hSw); go_simp; try with_reducible rfl)
  try simp only [Act.put, List.setIfInBounds_toArray, List.set_cons_zero, List.set_cons_succ]
  refine' take_at (i := 20) (d := some 27) (v := _) rfl rfl (by kernel_rfl) (by kernel_rfl) (by kernel_rfl) (fun _ _ _ h => h) (Or.inl ⟨by rfl, ?hy20⟩) (by assumption) ?rest20
  case hy20 => (intro w hSw; (try dsimp only at hSw); go_simp; try with_reducible rfl)
  try simp only [Act.put, List.setIfInBounds_toArray, List.set_cons_zero, List.set_cons_succ]
  refine' take_at (i := 21) (d := some 28) (v := _) rfl rfl (by kernel_rfl) (by kernel_rfl) (by kernel_rfl) (fun _ _ _ h => h) (Or.inl ⟨by rfl, ?hy21⟩) (by assumption) ?rest21
  case hy21 => (intro w hSw; (try dsimp only at hSw); go_simp; try with_reducible rfl)
  try simp only [Act.put, List.setIfInBounds_toArray, List.set_cons_zero, List.set_cons_succ]
  refine' take_at (i := 22) (d := some 29) (v := _) rfl rfl (by kernel_rfl) (by kernel_rfl) (by kernel_rfl) (fun _ _ _ h => h) (Or.inl ⟨by rfl, ?hy22⟩) (by assumption) ?rest22
  case hy22 => (intro w hSw; (try dsimp only at hSw); go_simp; try with_reducible rfl)
  try simp only [Act.put, List.setIfInBounds_toArray, List.set_cons_zero, List.set_cons_succ]
  refine' take_at (i := 23) (d := some 30) (v := _) rfl rfl (by kernel_rfl) (by kernel_rfl) (by kernel_rfl) (fun _ _ _ h => h) (Or.inl ⟨by rfl, ?hy23⟩) (by assumption) ?rest23
  case hy23 => (intro w hSw; (try dsimp only at hSw); go_simp; try with_reducible rfl)
  try simp only [Act.put, List.setIfInBounds_toArray, List.set_cons_zero, List.set_cons_succ]
  refine' take_at (i := 24) (d := some 31) (v := _) rfl rfl (by kernel_rfl) (by kernel_rfl) (by kernel_rfl) (fun _ _ _ h => h) (Or.inl ⟨by rfl, ?hy24⟩) (by assumption) ?rest24
  case hy24 => (intro w hSw; (try dsimp only at hSw); go_simp; try with_reducible rfl)
  try simp only [Act.put, List.setIfInBounds_toArray, List.set_cons_zero, List.set_cons_succ]
  refine' take_at (i := 25) (d := some 32) (v := _) rfl rfl (by kernel_rfl) (by kernel_rfl) (by kernel_rfl) (fun _ _ _ h => h) (Or.inl ⟨by rfl, ?hy25⟩) (by assumption) ?rest25
  case hy25 => (intro w hSw; (try dsimp only at hSw); go_simp; try with_reducible rfl)
  try simp only [Act.put, List.setIfInBounds_toArray, List.set_cons_zero, List.set_cons_succ]
  refine wpAnyH_ready (rs := [4]) (by kernel_rfl) (by simp) ?_
  refine AllReadyH.cons rfl (fun K hK => ?_) AllReadyH.nil
  go_simp
  go_wp2_with (go_at_call 45; refine (HQ.out _).mono ?_; rintro e _ ⟨rfl, rfl⟩)
  refine hK.out _ _ ?_ (fun hHn => ?_)
  · first | exact hT1.six | (dsimp only; exact hT1.six)
  clear hK K
  clear hH1
  refine' take_at (i := 5) (d := some 12) (v := _) rfl rfl (by kernel_rfl) (by kernel_rfl) (by kernel_rfl) (fun _ _ _ h => h) (Or.inl ⟨by rfl, ?hy5⟩) (by assumption) ?rest5
  case hy5 => (intro w hSw; (try dsimp only at hSw); go_simp; try with_reducible rfl)
  try simp only [Act.put, List.setIfInBounds_toArray, List.set_cons_zero, List.set_cons_succ]
  refine take_at (i := 6) (d := some 13) (v := undef) rfl rfl (by kernel_rfl) (by kernel_rfl) (by kernel_rfl) (fun _ _ _ h => h) (Or.inr ⟨by rfl, rfl⟩) (by assumption) ?_
  try simp only [Act.put, List.setIfInBounds_toArray, List.set_cons_zero, List.set_cons_succ]
  refine take_at (i := 7) (d := some 14) (v := undef) rfl rfl (by kernel_rfl) (by kernel_rfl) (by kernel_rfl) (fun _ _ _ h => h) (Or.inr ⟨by rfl, rfl⟩) (by assumption) ?_
  try simp only [Act.put, List.setIfInBounds_toArray, List.set_cons_zero, List.set_cons_succ]
  refine take_at (i := 8) (d := some 15) (v := undef) rfl rfl (by kernel_rfl) (by kernel_rfl) (by kernel_rfl) (fun _ _ _ h => h) (Or.inr ⟨by rfl, rfl⟩) (by assumption) ?_
  try simp only [Act.put, List.setIfInBounds_toArray, List.set_cons_zero, List.set_cons_succ]
  refine take_at (i := 9) (d := some 16) (v := undef) rfl rfl (by kernel_rfl) (by kernel_rfl) (by kernel_rfl) (fun _ _ _ h => h) (Or.inr ⟨by rfl, rfl⟩) (by assumption) ?_
  try simp only [Act.put, List.setIfInBounds_toArray, List.set_cons_zero, List.set_cons_succ]
  refine' take_at (i := 10) (d := some 17) (v := _) rfl rfl (by kernel_rfl) (by kernel_rfl) (by kernel_rfl) (fun _ _ _ h => h) (Or.inl ⟨by rfl, ?hy10⟩) (by assumption) ?rest10
  case hy10 => (intro w hSw; (try dsimp only at hSw); go_simp; try with_reducible rfl)
  try simp only [Act.put, List.setIfInBounds_toArray, List.set_cons_zero, List.set_cons_succ]
  refine wpAnyH_ready (rs := [26]) (by kernel_rfl) (by simp) ?_
  refine AllReadyH.cons rfl (fun K hK => ?_) AllReadyH.nil
  go_simp
  go_wp2_with (go_at_call 46; refine (HA.out _ _ _).mono ?_; rintro e w2 ⟨rfl, hb2⟩; have hT2 := hT1.next hb2; clear hb2)
  refine hK.out _ _ ?_ (fun hHn => ?_)
  · first | exact hT2.six | (dsimp only; exact hT2.six)
  clear hK K
  refine' take_at (i := 27) (d := some 6) (v := _) rfl rfl (by kernel_rfl) (by kernel_rfl) (by kernel_rfl) (fun _ _ _ h => h) (Or.inl ⟨by rfl, ?hy27⟩) (by assumption) ?rest27
  case hy27 => (intro w hSw; (try dsimp only at hSw); go_simp; try with_reducible rfl)
  try simp only [Act.put, List.setIfInBounds_toArray, List.set_cons_zero, List.set_cons_succ]
  refine wpAnyH_done (by kernel_rfl) ?_ _
  go_wp2
  go_ret
  refine ⟨ret_int ?_, hT2.low⟩
  unfold Ch.link
  rw [HS.out, Bool.false_and, Ch.at_false, Ch.at_false]
theorem dLink (c : Ch) (hw : c.wf) (s o : Int) (w : World) :
    Calls Try.prog 27 #[c.agg, .int .i64 s, .int .i64 o] w fun e w' => e = .returned (.int .i64 (c.link s o)) ∧ Below w.heap.size w w' := by
  cases hs : inB s c.slabs with
  | true => exact dLinktrue c hw s o hs w
  | false => exact dLinkfalse c hw s o hs w
set_option maxHeartbeats 1000000 in
theorem dKey (c : Ch) (s : Int) (w : World) :
    Calls Try.prog 30 #[c.agg, .int .i64 s] w fun e w' => e = .returned (.int .u64 (c.keyOf s)) ∧ Below w.heap.size w w' := by
  go_enter Try.func30, Try.ntmps30
  go_wp2
  go_ret
  exact ⟨rfl, below_one (Below.refl _ _) _⟩
set_option maxHeartbeats 2000000 in
theorem dWords (c : Ch) (hw : c.wf) (w : World) :
    Calls Try.prog 19 #[c.agg] w fun e w' => e = .returned (.int .i64 c.words) ∧ Below w.heap.size w w' := by
  by_cases ho : c.ok
  · have hA := fun x w => dAt c hw true x w
    rw [show c.words = c.n from if_pos ho]
    have hp := Ch.prod ho
    have hm : ∀ x, c.at true x = x := fun x => Ch.at_yes ho
    simp only [hm] at hA
    have HA := Lib.hid hA
    obtain ⟨⟨o1, o2⟩, ⟨o3, o4⟩, ⟨o5, o6⟩, _⟩ := ho
    unfold Ch.n
    clear hA hm hw
    generalize hP : c.slabs * c.objs = P at *
    have hw1 : IntKind.i64.wrap P = P := IntWalk.i64_in _ (by omega)
    have hmx : max (4 * c.cpus + 4 + 4 * c.slabs + P) 0 = 4 * c.cpus + 4 + 4 * c.slabs + P := by omega
    go_enter Try.func19, Try.ntmps19
    go_wp2_with fail
    refine (HA.out _ _).mono ?_
    rintro e w1 ⟨rfl, hb1⟩
    have HB := Lib.hid (below_then (below_one (Below.refl w.heap.size w) _) hb1)
    clear hb1
    go_wp2
    go_ret
    exact ⟨rfl, HB.out⟩
  · have hA := fun x w => dAt c hw true x w
    rw [show c.words = 0 from if_neg ho]
    have hm : ∀ x, c.at true x = -1 := fun x => Ch.at_no ho
    simp only [hm] at hA
    have HA := Lib.hid hA
    clear hA hm hw ho
    go_enter Try.func19, Try.ntmps19
    go_wp2_with fail
    refine (HA.out _ _).mono ?_
    rintro e w1 ⟨rfl, hb1⟩
    have HB := Lib.hid (below_then (below_one (Below.refl w.heap.size w) _) hb1)
    clear hb1
    go_wp2
    go_ret
    exact ⟨rfl, HB.out⟩
end Go.Proofs.Ytnnfmlbgoplnaaa
