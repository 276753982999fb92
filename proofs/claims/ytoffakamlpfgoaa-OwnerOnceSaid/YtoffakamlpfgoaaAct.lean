/-
  Set and Clear of the program.
-/
import Derived.Test.YtoffakamlpfgoaaOv
set_option linter.unusedVariables false
set_option linter.unusedSimpArgs false
namespace Go.Proofs.Ytoffakamlpfgoaa
open Go Go.RowKit
/-- with the box of an object's place -/
structure OX (w : World) (B b S O : Nat) (f : Ow) (D : Nat) (s i : Int) : Prop where
  v : OV w B b S O f
  x : w.heap[D]? = some (.cells #[.int .i64 s, .int .i64 i] 54 (0, 0))
section
variable {Sx : Nat → Prop} {w w' : World} {B b S O D : Nat} {f f' : Ow} {p : Option Addr} {s i g n e a : Int} {Ts : List TypeId}
theorem OX.below (h : OX w B b S O f D s i) (hb : Below w.heap.size w w') : OX w' B b S O f D s i := ⟨h.v.below hb, keep_block h.x hb⟩
theorem OX.drewN (h : OX w B b S O f D s i) (m : Nat) : OX (w.drewN m) B b S O f D s i := h.below (below_drewN (Below.refl _ _) m)
theorem OX.drew (h : OX w B b S O f D s i) : OX w.drew B b S O f D s i := h.below (Below.refl _ w).drew
theorem OX.start (h : OV w B b S O f) (s i : Int) : OX (w.alloc (.cells #[.int .i64 s, .int .i64 i] 54)) B b S O f w.heap.size s i := ⟨h.alloc _, heap_new _ _⟩
theorem OX.turn (h : OX w B b S O f D s i) (hm : MapAt w' b f') (hk : Kept (· = b) w w') (hi : OI S O f') : OX w' B b S O f' D s i :=
  ⟨h.v.turn hm hk hi, (hk.block D (lt_of_block h.x) (h.v.map.ne h.x)).trans h.x⟩
theorem inn_wf (h : inn S O s i) (hs : 1 ≤ S ∧ S ≤ 256 ∧ 1 ≤ O ∧ O ≤ 16) : wf64 s ∧ wf64 i := by
  obtain ⟨h1, h2, h3, h4⟩ := h
  exact ⟨wf_small ⟨by omega, by omega⟩, wf_small ⟨by omega, by omega⟩⟩
set_option maxHeartbeats 3000000 in
set_option maxRecDepth 100000 in
theorem cSet (h : OV w B b S O f) (hr : SetIs S O f s i g e f') :
    Calls Try.prog 10 #[.pointer (some ⟨B, 0, none⟩), .int .i64 s, .int .i64 i, .int .i64 g] w fun e' w' => e' = .returned (.int .i64 e) ∧ OV w' B b S O f' ∧ Kept (· = b) w w' := by
  have H1 := Lib.hid (OX.start h s i)
  have HB1 := Lib.hid (below_one (Below.refl w.heap.size w) (.cells #[.int .i64 s, .int .i64 i] 54))
  have HL := Lib.hid h.lt.2
  clear h
  cases hr with
  | no hn =>
    have HQ := Lib.hid (decide_eq_false hn)
    clear hn
    go_enter Try.func10, Try.ntmps10
    go_wp2_with fail
    obtain ⟨D, hD⟩ : ∃ D, w.heap.size = D := ⟨_, rfl⟩
    obtain ⟨w1, hw1⟩ : ∃ w1, w.alloc (.cells #[.int .i64 s, .int .i64 i] 54) = w1 := ⟨_, rfl⟩
    rw [hw1] at H1 HB1 ⊢
    rw [hD] at H1 ⊢
    clear hw1
    have HD := Lib.hid hD
    clear hD
    refine (cIsNone H1.out.v).mono ?_
    rintro e w2 ⟨rfl, rfl⟩
    have d0 := self_cell H1.out.x 0 _ rfl
    have d1 := self_cell H1.out.x 1 _ rfl
    go_wp2_with fail
    refine (cHas H1.out.v _ _ _ HQ.out).mono ?_
    rintro e w2 ⟨rfl, hb2⟩
    have H2 := Lib.hid (H1.out.below hb2)
    have HB2 := Lib.hid (below_then HB1.out hb2)
    clear hb2 d0 d1 HB1 H1
    go_wp2
    go_ret
    exact ⟨rfl, H2.out.v, Kept.ofBelow HB2.out⟩
  | gr hn hg =>
    have HQ := Lib.hid (decide_eq_true hn)
    have HG := Lib.hid (decide_eq_false hg)
    clear hn hg
    go_enter Try.func10, Try.ntmps10
    go_wp2_with fail
    obtain ⟨D, hD⟩ : ∃ D, w.heap.size = D := ⟨_, rfl⟩
    obtain ⟨w1, hw1⟩ : ∃ w1, w.alloc (.cells #[.int .i64 s, .int .i64 i] 54) = w1 := ⟨_, rfl⟩
    rw [hw1] at H1 HB1 ⊢
    rw [hD] at H1 ⊢
    clear hw1
    have HD := Lib.hid hD
    clear hD
    refine (cIsNone H1.out.v).mono ?_
    rintro e w2 ⟨rfl, rfl⟩
    have d0 := self_cell H1.out.x 0 _ rfl
    have d1 := self_cell H1.out.x 1 _ rfl
    go_wp2_with fail
    refine (cHas H1.out.v _ _ _ HQ.out).mono ?_
    rintro e w2 ⟨rfl, hb2⟩
    have H2 := Lib.hid (H1.out.below hb2)
    have HB2 := Lib.hid (below_then HB1.out hb2)
    clear hb2 d0 d1 HB1 H1
    go_wp2_with fail
    refine (cIsGroup _ _ HG.out _).mono ?_
    rintro e w3 ⟨rfl, rfl⟩
    go_wp2
    go_ret
    exact ⟨rfl, H2.out.v, Kept.ofBelow HB2.out⟩
  | own hn hg h0 =>
    have HQ := Lib.hid (decide_eq_true hn)
    have HG := Lib.hid (decide_eq_true hg)
    have HW := Lib.hid (inn_wf hn H1.out.v.sz)
    obtain ⟨G, hG⟩ : ∃ G, f s i = G := ⟨_, rfl⟩
    rw [hG] at h0
    have HF := Lib.hid hG
    have hG0 : (G == 0) = false := by simpa using h0
    have hG1 : (G != 0) = true := by simpa using h0
    clear hn hg h0 hG
    go_enter Try.func10, Try.ntmps10
    go_wp2_with fail
    obtain ⟨D, hD⟩ : ∃ D, w.heap.size = D := ⟨_, rfl⟩
    obtain ⟨w1, hw1⟩ : ∃ w1, w.alloc (.cells #[.int .i64 s, .int .i64 i] 54) = w1 := ⟨_, rfl⟩
    rw [hw1] at H1 HB1 ⊢
    rw [hD] at H1 ⊢
    clear hw1
    have HD := Lib.hid hD
    clear hD
    refine (cIsNone H1.out.v).mono ?_
    rintro e w2 ⟨rfl, rfl⟩
    have d0 := self_cell H1.out.x 0 _ rfl
    have d1 := self_cell H1.out.x 1 _ rfl
    go_wp2_with fail
    refine (cHas H1.out.v _ _ _ HQ.out).mono ?_
    rintro e w2 ⟨rfl, hb2⟩
    have H2 := Lib.hid (H1.out.below hb2)
    have HB2 := Lib.hid (below_then HB1.out hb2)
    clear hb2 d0 d1 HB1 H1
    go_wp2_with fail
    refine (cIsGroup _ _ HG.out _).mono ?_
    rintro e w3 ⟨rfl, rfl⟩
    have d0 := self_cell H2.out.x 0 _ rfl
    have d1 := self_cell H2.out.x 1 _ rfl
    have c2 := H2.out.v.c2
    have hl : ∀ m, (Instr.lookup 45 (.map (some b)) (.agg #[.int .i64 s, .int .i64 i]) false).run Try.prog (w3.drewN m) = .ok (.int .i64 G) (w3.drewN m) := fun m => (H2.out.drewN m).v.map.look HW.out.1 HW.out.2 HF.out
    go_wp2
    go_quiet (fail)
    have H4 := Lib.hid (H2.out.drewN nq)
    have HB4 := Lib.hid (below_drewN HB2.out nq)
    obtain ⟨w4, hw4⟩ : ∃ W, w3.drewN nq = W := ⟨_, rfl⟩
    rw [hw4] at H4 HB4 ⊢
    clear hw4 hl d0 d1 c2 H2 HB2
    go_wp2
    go_ret
    exact ⟨rfl, H4.out.v, Kept.ofBelow HB4.out⟩
  | ok hn hg h0 =>
    have HQ := Lib.hid (decide_eq_true hn)
    have HG := Lib.hid (decide_eq_true hg)
    have HW := Lib.hid (inn_wf hn H1.out.v.sz)
    have HOI := Lib.hid (H1.out.v.oi.upd hn (.inr hg))
    have HGN : Hid (g ≠ 0) := Lib.hid (by unfold grp at hg; omega)
    have HF := Lib.hid h0
    clear hn hg h0
    go_enter Try.func10, Try.ntmps10
    go_wp2_with fail
    obtain ⟨D, hD⟩ : ∃ D, w.heap.size = D := ⟨_, rfl⟩
    obtain ⟨w1, hw1⟩ : ∃ w1, w.alloc (.cells #[.int .i64 s, .int .i64 i] 54) = w1 := ⟨_, rfl⟩
    rw [hw1] at H1 HB1 ⊢
    rw [hD] at H1 ⊢
    clear hw1
    have HD := Lib.hid hD
    clear hD
    refine (cIsNone H1.out.v).mono ?_
    rintro e w2 ⟨rfl, rfl⟩
    have d0 := self_cell H1.out.x 0 _ rfl
    have d1 := self_cell H1.out.x 1 _ rfl
    go_wp2_with fail
    refine (cHas H1.out.v _ _ _ HQ.out).mono ?_
    rintro e w2 ⟨rfl, hb2⟩
    have H2 := Lib.hid (H1.out.below hb2)
    have HB2 := Lib.hid (below_then HB1.out hb2)
    clear hb2 d0 d1 HB1 H1
    go_wp2_with fail
    refine (cIsGroup _ _ HG.out _).mono ?_
    rintro e w3 ⟨rfl, rfl⟩
    have d0 := self_cell H2.out.x 0 _ rfl
    have d1 := self_cell H2.out.x 1 _ rfl
    have c2 := H2.out.v.c2
    have hl : ∀ m, (Instr.lookup 45 (.map (some b)) (.agg #[.int .i64 s, .int .i64 i]) false).run Try.prog (w3.drewN m) = .ok (.int .i64 0) (w3.drewN m) := fun m => (H2.out.drewN m).v.map.look HW.out.1 HW.out.2 HF.out
    go_wp2
    go_quiet (fail)
    have H4 := Lib.hid (H2.out.drewN nq)
    have HB4 := Lib.hid (below_drewN HB2.out nq)
    obtain ⟨w4, hw4⟩ : ∃ W, w3.drewN nq = W := ⟨_, rfl⟩
    rw [hw4] at H4 HB4 ⊢
    clear hw4 hl d0 d1 c2 H2 HB2
    have HF4 := Lib.hid (And.intro H4.out.drew.v.c2 (And.intro (self_cell H4.out.drew.x 0 _ rfl) (self_cell H4.out.drew.x 1 _ rfl)))
    obtain ⟨w5, hrun, hm5, hk5⟩ := H4.out.drew.v.map.store HW.out.1 HW.out.2 HGN.out
    have H5 := Lib.hid (H4.out.drew.turn hm5 hk5 HOI.out)
    have HK5 := Lib.hid (Kept.trans (Kept.ofBelow (S := (· = b)) (Below.refl _ w4).drew) hk5)
    have HF5 := Lib.hid (And.intro H5.out.v.c2 (And.intro (self_cell H5.out.x 0 _ rfl) (self_cell H5.out.x 1 _ rfl)))
    clear hm5 hk5
    go_wp2
    go_region_held3 (fun W => W.cell? ⟨B, 2, none⟩ = some (.map (some b)) ∧ W.cell? ⟨D, 0, none⟩ = some (.int .i64 s) ∧ W.cell? ⟨D, 1, none⟩ = some (.int .i64 i)) (first | exact HF4.out | exact HF5.out) (fail)
    go_wp2
    go_ret
    exact ⟨rfl, H5.out.v, (Kept.ofBelow HB4.out).trans HK5.out⟩
set_option maxHeartbeats 3000000 in
set_option maxRecDepth 100000 in
theorem cClear (h : OV w B b S O f) (hr : ClearIs S O f s i a e f') :
    Calls Try.prog 12 #[.pointer (some ⟨B, 0, none⟩), .int .i64 s, .int .i64 i] w fun e' w' => e' = .returned (.tuple #[.int .i64 a, .int .i64 e]) ∧ OV w' B b S O f' ∧ Kept (· = b) w w' := by
  have H1 := Lib.hid (OX.start h s i)
  have HB1 := Lib.hid (below_one (Below.refl w.heap.size w) (.cells #[.int .i64 s, .int .i64 i] 54))
  have HL := Lib.hid h.lt.2
  clear h
  cases hr with
  | no hn =>
    have HQ := Lib.hid (decide_eq_false hn)
    clear hn
    go_enter Try.func12, Try.ntmps12
    go_wp2_with fail
    obtain ⟨D, hD⟩ : ∃ D, w.heap.size = D := ⟨_, rfl⟩
    obtain ⟨w1, hw1⟩ : ∃ w1, w.alloc (.cells #[.int .i64 s, .int .i64 i] 54) = w1 := ⟨_, rfl⟩
    rw [hw1] at H1 HB1 ⊢
    rw [hD] at H1 ⊢
    clear hw1
    have HD := Lib.hid hD
    clear hD
    refine (cIsNone H1.out.v).mono ?_
    rintro e w2 ⟨rfl, rfl⟩
    have d0 := self_cell H1.out.x 0 _ rfl
    have d1 := self_cell H1.out.x 1 _ rfl
    go_wp2_with fail
    refine (cHas H1.out.v _ _ _ HQ.out).mono ?_
    rintro e w2 ⟨rfl, hb2⟩
    have H2 := Lib.hid (H1.out.below hb2)
    have HB2 := Lib.hid (below_then HB1.out hb2)
    clear hb2 d0 d1 HB1 H1
    go_wp2
    go_ret2
    exact ⟨rfl, H2.out.v, Kept.ofBelow HB2.out⟩
  | none hn h0 =>
    have HQ := Lib.hid (decide_eq_true hn)
    have HW := Lib.hid (inn_wf hn H1.out.v.sz)
    have HF := Lib.hid h0
    clear hn h0
    go_enter Try.func12, Try.ntmps12
    go_wp2_with fail
    obtain ⟨D, hD⟩ : ∃ D, w.heap.size = D := ⟨_, rfl⟩
    obtain ⟨w1, hw1⟩ : ∃ w1, w.alloc (.cells #[.int .i64 s, .int .i64 i] 54) = w1 := ⟨_, rfl⟩
    rw [hw1] at H1 HB1 ⊢
    rw [hD] at H1 ⊢
    clear hw1
    have HD := Lib.hid hD
    clear hD
    refine (cIsNone H1.out.v).mono ?_
    rintro e w2 ⟨rfl, rfl⟩
    have d0 := self_cell H1.out.x 0 _ rfl
    have d1 := self_cell H1.out.x 1 _ rfl
    go_wp2_with fail
    refine (cHas H1.out.v _ _ _ HQ.out).mono ?_
    rintro e w2 ⟨rfl, hb2⟩
    have H2 := Lib.hid (H1.out.below hb2)
    have HB2 := Lib.hid (below_then HB1.out hb2)
    clear hb2 d0 d1 HB1 H1
    have d0 := self_cell H2.out.x 0 _ rfl
    have d1 := self_cell H2.out.x 1 _ rfl
    have c2 := H2.out.v.c2
    have hl : ∀ m, (Instr.lookup 45 (.map (some b)) (.agg #[.int .i64 s, .int .i64 i]) false).run Try.prog (w2.drewN m) = .ok (.int .i64 0) (w2.drewN m) := fun m => (H2.out.drewN m).v.map.look HW.out.1 HW.out.2 HF.out
    go_wp2
    go_quiet (fail)
    have H4 := Lib.hid (H2.out.drewN nq)
    have HB4 := Lib.hid (below_drewN HB2.out nq)
    obtain ⟨w4, hw4⟩ : ∃ W, w2.drewN nq = W := ⟨_, rfl⟩
    rw [hw4] at H4 HB4 ⊢
    clear hw4 hl d0 d1 c2 H2 HB2
    go_wp2
    go_ret2
    exact ⟨rfl, H4.out.v, Kept.ofBelow HB4.out⟩
  | ok hn h0 =>
    have HQ := Lib.hid (decide_eq_true hn)
    have HW := Lib.hid (inn_wf hn H1.out.v.sz)
    have HOI := Lib.hid (H1.out.v.oi.upd (g := 0) hn (.inl rfl))
    obtain ⟨G, hG⟩ : ∃ G, f s i = G := ⟨_, rfl⟩
    rw [hG] at h0 ⊢
    have HF := Lib.hid hG
    have hG0 : (G == 0) = false := by simpa using h0
    clear hn h0 hG
    go_enter Try.func12, Try.ntmps12
    go_wp2_with fail
    obtain ⟨D, hD⟩ : ∃ D, w.heap.size = D := ⟨_, rfl⟩
    obtain ⟨w1, hw1⟩ : ∃ w1, w.alloc (.cells #[.int .i64 s, .int .i64 i] 54) = w1 := ⟨_, rfl⟩
    rw [hw1] at H1 HB1 ⊢
    rw [hD] at H1 ⊢
    clear hw1
    have HD := Lib.hid hD
    clear hD
    refine (cIsNone H1.out.v).mono ?_
    rintro e w2 ⟨rfl, rfl⟩
    have d0 := self_cell H1.out.x 0 _ rfl
    have d1 := self_cell H1.out.x 1 _ rfl
    go_wp2_with fail
    refine (cHas H1.out.v _ _ _ HQ.out).mono ?_
    rintro e w2 ⟨rfl, hb2⟩
    have H2 := Lib.hid (H1.out.below hb2)
    have HB2 := Lib.hid (below_then HB1.out hb2)
    clear hb2 d0 d1 HB1 H1
    have d0 := self_cell H2.out.x 0 _ rfl
    have d1 := self_cell H2.out.x 1 _ rfl
    have c2 := H2.out.v.c2
    have hl : ∀ m, (Instr.lookup 45 (.map (some b)) (.agg #[.int .i64 s, .int .i64 i]) false).run Try.prog (w2.drewN m) = .ok (.int .i64 G) (w2.drewN m) := fun m => (H2.out.drewN m).v.map.look HW.out.1 HW.out.2 HF.out
    go_wp2
    go_quiet (fail)
    have H3 := Lib.hid (H2.out.drewN nq)
    have HB3 := Lib.hid (below_drewN HB2.out nq)
    obtain ⟨w4, hw4⟩ : ∃ W, w2.drewN nq = W := ⟨_, rfl⟩
    rw [hw4] at H3 HB3 ⊢
    clear hw4 hl d0 d1 c2 H2 HB2
    have d0 := self_cell H3.out.x 0 _ rfl
    have d1 := self_cell H3.out.x 1 _ rfl
    have c2 := H3.out.v.c2
    have hl : ∀ m, (Instr.lookup 45 (.map (some b)) (.agg #[.int .i64 s, .int .i64 i]) false).run Try.prog (w4.drewN m) = .ok (.int .i64 G) (w4.drewN m) := fun m => (H3.out.drewN m).v.map.look HW.out.1 HW.out.2 HF.out
    go_wp2
    go_quiet (fail)
    have H4 := Lib.hid (H3.out.drewN nq)
    have HB4 := Lib.hid (below_drewN HB3.out nq)
    obtain ⟨w5, hw4⟩ : ∃ W, w4.drewN nq = W := ⟨_, rfl⟩
    rw [hw4] at H4 HB4 ⊢
    clear hw4 hl d0 d1 c2 H3 HB3
    have H5 := Lib.hid H4.out.drew
    go_wp2
    go_region_held3 (fun W => W.cell? ⟨B, 2, none⟩ = some (.map (some b)) ∧ W.cell? ⟨D, 0, none⟩ = some (.int .i64 s) ∧ W.cell? ⟨D, 1, none⟩ = some (.int .i64 i)) (first | exact And.intro H5.out.v.c2 (And.intro (self_cell H5.out.x 0 _ rfl) (self_cell H5.out.x 1 _ rfl)) | exact And.intro H6.out.v.c2 (And.intro (self_cell H6.out.x 0 _ rfl) (self_cell H6.out.x 1 _ rfl))) (first | (refine step_drop rfl (.tmp 37) (.tmp 38) rfl (by kernel_rfl) H5.out.v.map (s := s) (i := i) (by kernel_rfl) HW.out.1 HW.out.2 ?_; intro w6 hm6 hk6; have H6 := Lib.hid (H5.out.turn hm6 hk6 HOI.out); have HK6 := Lib.hid (Kept.trans (Kept.ofBelow (S := (· = b)) (Below.refl _ w5).drew) hk6); clear hm6 hk6))
    go_wp2
    go_ret2
    exact ⟨rfl, H6.out.v, (Kept.ofBelow HB4.out).trans HK6.out⟩
theorem zSet (h : OZ w p) (s i g : Int) : Calls Try.prog 10 #[.pointer p, .int .i64 s, .int .i64 i, .int .i64 g] w fun e w' => e = .returned (.int .i64 1) ∧ Below w.heap.size w w' := by
  have H1 := Lib.hid (h.below (below_one (Below.refl _ _) (.cells #[.int .i64 s, .int .i64 i] 54)))
  clear h
  go_enter Try.func10, Try.ntmps10
  go_wp2_with fail
  refine (zIsNone H1.out).mono ?_
  rintro e w2 ⟨rfl, rfl⟩
  go_wp2
  go_ret
  exact ⟨rfl, below_one (Below.refl _ _) _⟩
theorem zClear (h : OZ w p) (s i : Int) : Calls Try.prog 12 #[.pointer p, .int .i64 s, .int .i64 i] w fun e w' => e = .returned (.tuple #[.int .i64 0, .int .i64 1]) ∧ Below w.heap.size w w' := by
  have H1 := Lib.hid (h.below (below_one (Below.refl _ _) (.cells #[.int .i64 s, .int .i64 i] 54)))
  clear h
  go_enter Try.func12, Try.ntmps12
  go_wp2_with fail
  refine (zIsNone H1.out).mono ?_
  rintro e w2 ⟨rfl, rfl⟩
  go_wp2
  go_ret2
  exact ⟨rfl, below_one (Below.refl _ _) _⟩
end
end Go.Proofs.Ytoffakamlpfgoaa
