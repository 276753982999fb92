/-
  The statements' 'works' (the chapter's tables) answers true.
-/
import Derived.Test.YtdhjpoplgbcgjaaRSet
set_option linter.unusedVariables false
set_option linter.unusedSimpArgs false
namespace Go.Proofs.Ytdhjpoplgbcgjaa
open Go Go.RowKit

/-! tables that are known are looked at by program -/
def stB (l : List Pg) (a : Nat) : Bool := (pg l a).ok && decide (a % (pg l a).sz = 0) && decide (a + (pg l a).sz ≤ l.length) && (List.range (pg l a).sz).all (fun j => decide (j = 0) || decide (pg l (a + j) = pin))
theorem stB_iff {l : List Pg} {a : Nat} : stB l a = true ↔ Starts l a := by
  simp only [stB, Bool.and_eq_true, decide_eq_true_eq, List.all_eq_true, List.mem_range, Bool.or_eq_true]
  constructor
  · rintro ⟨⟨⟨h1, h2⟩, h3⟩, h4⟩
    refine ⟨h1, h2, h3, fun j h5 h6 => ?_⟩
    rcases h4 (j - a) (by omega) with h | h
    · omega
    · rwa [show a + (j - a) = j by omega] at h
  · rintro ⟨h1, h2, h3, h4⟩
    refine ⟨⟨⟨h1, h2⟩, h3⟩, fun j hj => ?_⟩
    by_cases h : j = 0
    · exact .inl h
    · exact .inr (h4 _ (by omega) (by omega))
def gdB (l : List Pg) : Nat → Nat → Bool
  | 0, a => decide (a = l.length)
  | n + 1, a => decide (a = l.length) || (decide (a < l.length) && stB l a && gdB l n (a + (pg l a).sz))
theorem gdB_sound {l : List Pg} (n a : Nat) (h : gdB l n a = true) : Good l a := by
  induction n generalizing a with
  | zero =>
    have : a = l.length := by simpa [gdB] using h
    subst this
    exact Good.done
  | succ n ih =>
    simp only [gdB, Bool.or_eq_true, Bool.and_eq_true, decide_eq_true_eq] at h
    rcases h with rfl | ⟨⟨h1, h2⟩, h3⟩
    · exact Good.done
    · exact Good.step a h1 (stB_iff.1 h2) (ih _ h3)
theorem gdB_complete {l : List Pg} {a : Nat} (h : Good l a) : ∀ n, l.length - a ≤ n → gdB l n a = true := by
  induction h with
  | done => intro n _; cases n <;> simp [gdB]
  | step a ha hs hg ih =>
    intro n hn
    cases n with
    | zero => omega
    | succ n =>
      have := (pg l a).sz_pos
      simp only [gdB, Bool.or_eq_true, Bool.and_eq_true, decide_eq_true_eq]
      exact .inr ⟨⟨ha, stB_iff.2 hs⟩, ih n (by omega)⟩
def vB (l : List Pg) : Bool := decide (1 ≤ l.length) && decide (l.length ≤ 1024) && gdB l l.length 0
theorem vB_iff {l : List Pg} : vB l = true ↔ Valid l := by
  simp only [vB, Bool.and_eq_true, decide_eq_true_eq]
  exact ⟨fun ⟨⟨h1, h2⟩, h3⟩ => ⟨h1, h2, gdB_sound _ _ h3⟩, fun ⟨h1, h2, h3⟩ => ⟨⟨h1, h2⟩, gdB_complete h3 _ (by omega)⟩⟩
theorem vB_no {l : List Pg} (h : vB l = false) : ¬ Valid l := fun hv => by rw [vB_iff.2 hv] at h; cases h
def pF : Pg := ⟨0, 0, 0⟩
def pI : Pg := ⟨1, 0, 0⟩
def pO : Pg := ⟨0, 1, 0⟩
def pA : Pg := ⟨2, 1, 1⟩
theorem val1 : chkF [pO, pI, pF] = 0 := chk_ok (vB_iff.1 (by kernel_rfl))
theorem val2 : chkF [pF, pO, pI] = 50 := chk_no (vB_no (by kernel_rfl))
theorem val3 : chkF [pF, pI] = 50 := chk_no (vB_no (by kernel_rfl))
theorem val4 : chkF [] = 50 := chk_no (vB_no (by kernel_rfl))
theorem val5 : headF [pA, pI, pF] 1 = (0, 0) := by
  rw [show (1 : Int) = ((1 : Nat) : Int) from rfl, head_in (vB_iff.1 (by kernel_rfl)) (by decide)]
  rfl
theorem val6 : freeF [pA, pI, pF] = 1 := by
  rw [free_yes (vB_iff.1 (by kernel_rfl))]
  rfl
theorem val7 : Sets [pF, pF, pF] 0 pA (some 0) 0 := .set 0 (vB_iff.1 (by kernel_rfl)) (by kernel_rfl) rfl (by decide) (by decide) (by decide)
theorem val8 : Sets [pO, pI, pF] 0 pF none 50 := .frame 0 (vB_iff.1 (by kernel_rfl)) (by kernel_rfl) rfl (by decide) (by decide) (by decide)
theorem val9 : setF [pF, pF, pF] 0 pA = [pA, pI, pF] := by decide
abbrev cl3 (a b c : Int) : Obj := .cells #[.int .i64 a, .int .i64 b, .int .i64 c] 31
/-- the four pages of 'works' in their boxes -/
structure Four (w : World) (g : Nat) : Prop where
  a : w.heap[g]? = some (cl3 0 0 0)
  b : w.heap[g + 1]? = some (cl3 1 0 0)
  c : w.heap[g + 1 + 1]? = some (cl3 0 1 0)
  d : w.heap[g + 1 + 1 + 1]? = some (cl3 2 1 1)
theorem Four.below {w w' : World} {g : Nat} (h : Four w g) (hb : Below w.heap.size w w') : Four w' g := ⟨keep_block h.a hb, keep_block h.b hb, keep_block h.c hb, keep_block h.d hb⟩
theorem Four.lit {w w' : World} {g : Nat} {o : Obj} (h : Four w g) (hb : Below (w.alloc o).heap.size (w.alloc o) w') : Four w' g := (h.below (below_one (Below.refl _ _) o)).below hb
theorem Four.lit2 {w w' : World} {g : Nat} {o o2 : Obj} (h : Four w g) (hb : Below ((w.alloc o).alloc o2).heap.size ((w.alloc o).alloc o2) w') : Four w' g := (h.below (below_one (below_one (Below.refl _ _) o) o2)).below hb
theorem Four.start (w : World) : Four ((((w.alloc (cl3 0 0 0)).alloc (cl3 1 0 0)).alloc (cl3 0 1 0)).alloc (cl3 2 1 1)) w.heap.size := by
  have s1 := size_alloc w (cl3 0 0 0)
  have s2 := size_alloc (w.alloc (cl3 0 0 0)) (cl3 1 0 0)
  have s3 := size_alloc ((w.alloc (cl3 0 0 0)).alloc (cl3 1 0 0)) (cl3 0 1 0)
  refine ⟨?_, ?_, ?_, ?_⟩
  · rw [Below.heap_alloc _ _ _ (by omega), Below.heap_alloc _ _ _ (by omega), Below.heap_alloc _ _ _ (by omega)]; exact heap_new _ _
  · rw [Below.heap_alloc _ _ _ (by omega), Below.heap_alloc _ _ _ (by omega), ← s1]; exact heap_new _ _
  · rw [Below.heap_alloc _ _ _ (by omega), ← s1, ← s2]; exact heap_new _ _
  · rw [← s1, ← s2, ← s3]; exact heap_new _ _
theorem below_lit {w0 w w' : World} {n : Nat} {o : Obj} (h : Below n w0 w) (hb : Below (w.alloc o).heap.size (w.alloc o) w') (hn : n ≤ w0.heap.size := by exact Nat.le_refl _) : Below n w0 w' :=
  (h.alloc (Nat.le_trans hn h.size) o).trans (hb.mono (by have := h.size; rw [size_alloc]; omega))
theorem show_lit (w : World) (l : List Pg) (n : Nat) (hn : l.length = n) (hm : n ≤ 10000) : ShowP (w.alloc (.cells (pgs l).toArray 31)) (.slice (some ⟨w.heap.size, 0, none⟩) n n) l := lit_p w _ l n hn hm
theorem below_four (w : World) : Below w.heap.size w ((((w.alloc (cl3 0 0 0)).alloc (cl3 1 0 0)).alloc (cl3 0 1 0)).alloc (cl3 2 1 1)) := below_one (below_one (below_one (below_one (Below.refl _ _) _) _) _) _
theorem size_four (w : World) : ((((w.alloc (cl3 0 0 0)).alloc (cl3 1 0 0)).alloc (cl3 0 1 0)).alloc (cl3 2 1 1)).heap.size = w.heap.size + 1 + 1 + 1 + 1 := by rw [size_alloc, size_alloc, size_alloc, size_alloc]
set_option maxHeartbeats 4000000 in
set_option maxRecDepth 100000 in
theorem works (w : World) : Calls Try.prog 14 #[] w fun e w' => e = .returned (.bool true) ∧ Below w.heap.size w w' := by
  go_enter Try.func14, Try.ntmps14
  have F0 := Lib.hid (Four.start w)
  have B0 := Lib.hid (below_four w)
  have hs0 := show_lit ((((w.alloc (cl3 0 0 0)).alloc (cl3 1 0 0)).alloc (cl3 0 1 0)).alloc (cl3 2 1 1)) [pO, pI, pF] 3 rfl (by decide)
  rw [size_four] at hs0
  have HS0 := Lib.hid hs0
  clear hs0
  go_wp2_with fail
  refine (cCheck _ [pO, pI, pF] 0 val1 _ HS0.out).mono ?_
  rintro e w1 ⟨rfl, hb⟩
  have F1 := Lib.hid (F0.out.lit hb)
  have B1 := Lib.hid (below_lit B0.out hb)
  clear hb F0 B0 HS0
  obtain ⟨a0, a1, a2⟩ := self3 F1.out.a
  obtain ⟨b0, b1, b2⟩ := self3 F1.out.b
  obtain ⟨c0, c1, c2⟩ := self3 F1.out.c
  obtain ⟨d0, d1, d2⟩ := self3 F1.out.d
  have ltA := lt_of_block F1.out.a
  have ltD := lt_of_block F1.out.d
  go_wp2_with fail
  refine (cCheck _ [pF, pO, pI] 50 val2 _ (show_lit w1 [pF, pO, pI] 3 rfl (by decide))).mono ?_
  rintro e w2 ⟨rfl, hb⟩
  have F2 := Lib.hid (F1.out.lit hb)
  have B2 := Lib.hid (below_lit B1.out hb)
  clear hb F1 B1 a0 a1 a2 b0 b1 b2 c0 c1 c2 d0 d1 d2 ltA ltD
  obtain ⟨a0, a1, a2⟩ := self3 F2.out.a
  obtain ⟨b0, b1, b2⟩ := self3 F2.out.b
  obtain ⟨c0, c1, c2⟩ := self3 F2.out.c
  obtain ⟨d0, d1, d2⟩ := self3 F2.out.d
  have ltA := lt_of_block F2.out.a
  have ltD := lt_of_block F2.out.d
  go_wp2_with fail
  refine (cCheck _ [pF, pI] 50 val3 _ (show_lit w2 [pF, pI] 2 rfl (by decide))).mono ?_
  rintro e w3 ⟨rfl, hb⟩
  have F3 := Lib.hid (F2.out.lit hb)
  have B3 := Lib.hid (below_lit B2.out hb)
  clear hb F2 B2 a0 a1 a2 b0 b1 b2 c0 c1 c2 d0 d1 d2 ltA ltD
  obtain ⟨a0, a1, a2⟩ := self3 F3.out.a
  obtain ⟨b0, b1, b2⟩ := self3 F3.out.b
  obtain ⟨c0, c1, c2⟩ := self3 F3.out.c
  obtain ⟨d0, d1, d2⟩ := self3 F3.out.d
  have ltA := lt_of_block F3.out.a
  have ltD := lt_of_block F3.out.d
  go_wp2_with fail
  refine (cCheck _ [] 50 val4 _ (ShowP.nil _)).mono ?_
  rintro e w4 ⟨rfl, hb⟩
  have F4 := Lib.hid (F3.out.below hb)
  have B4 := Lib.hid (below_then B3.out hb)
  clear hb F3 B3 a0 a1 a2 b0 b1 b2 c0 c1 c2 d0 d1 d2 ltA ltD
  obtain ⟨a0, a1, a2⟩ := self3 F4.out.a
  obtain ⟨b0, b1, b2⟩ := self3 F4.out.b
  obtain ⟨c0, c1, c2⟩ := self3 F4.out.c
  obtain ⟨d0, d1, d2⟩ := self3 F4.out.d
  have ltA := lt_of_block F4.out.a
  have ltD := lt_of_block F4.out.d
  go_wp2_with fail
  refine (cHead _ [pA, pI, pF] 1 0 0 val5 _ (show_lit w4 [pA, pI, pF] 3 rfl (by decide))).mono ?_
  rintro e w5 ⟨rfl, hb⟩
  have F5 := Lib.hid (F4.out.lit hb)
  have B5 := Lib.hid (below_lit B4.out hb)
  clear hb F4 B4 a0 a1 a2 b0 b1 b2 c0 c1 c2 d0 d1 d2 ltA ltD
  obtain ⟨a0, a1, a2⟩ := self3 F5.out.a
  obtain ⟨b0, b1, b2⟩ := self3 F5.out.b
  obtain ⟨c0, c1, c2⟩ := self3 F5.out.c
  obtain ⟨d0, d1, d2⟩ := self3 F5.out.d
  have ltA := lt_of_block F5.out.a
  have ltD := lt_of_block F5.out.d
  go_wp2_with fail
  refine (cSetYes _ [pF, pF, pF] 0 2 1 1 _ 0 val7 (show_lit w5 [pF, pF, pF] 3 rfl (by decide))).mono ?_
  rintro e w6 ⟨gg, cp, rfl, hg, hcp, ht, hb⟩
  have F6 := Lib.hid (F5.out.lit hb)
  have B6 := Lib.hid (below_lit B5.out hb)
  clear hb F5 B5 a0 a1 a2 b0 b1 b2 c0 c1 c2 d0 d1 d2 ltA ltD
  obtain ⟨a0, a1, a2⟩ := self3 F6.out.a
  obtain ⟨b0, b1, b2⟩ := self3 F6.out.b
  obtain ⟨c0, c1, c2⟩ := self3 F6.out.c
  obtain ⟨d0, d1, d2⟩ := self3 F6.out.d
  have ltA := lt_of_block F6.out.a
  have ltD := lt_of_block F6.out.d
  have HT6 : Hid (ShowP w6 (.slice (some ⟨gg, 0, none⟩) 3 cp) [pA, pI, pF]) := Lib.hid (by
    have := (show TabIs w6 gg [pA, pI, pF].length (pg [pA, pI, pF]) from ht).shows hcp
    exact this)
  clear ht hg
  go_wp2_with fail
  refine (cSetNo _ [pO, pI, pF] 0 0 0 0 _ 50 val8 (show_lit w6 [pO, pI, pF] 3 rfl (by decide))).mono ?_
  rintro e w7 ⟨rfl, hb⟩
  have F7 := Lib.hid (F6.out.lit hb)
  have B7 := Lib.hid (below_lit B6.out hb)
  have HT7 := Lib.hid ((HT6.out.below (below_one (Below.refl _ _) _)).below hb)
  clear hb F6 B6 a0 a1 a2 b0 b1 b2 c0 c1 c2 d0 d1 d2 ltA ltD
  obtain ⟨a0, a1, a2⟩ := self3 F7.out.a
  obtain ⟨b0, b1, b2⟩ := self3 F7.out.b
  obtain ⟨c0, c1, c2⟩ := self3 F7.out.c
  obtain ⟨d0, d1, d2⟩ := self3 F7.out.d
  have ltA := lt_of_block F7.out.a
  have ltD := lt_of_block F7.out.d
  go_wp2_with fail
  refine (cFree _ [pA, pI, pF] 1 val6 _ (show_lit w7 [pA, pI, pF] 3 rfl (by decide))).mono ?_
  rintro e w8 ⟨rfl, hb⟩
  have F8 := Lib.hid (F7.out.lit hb)
  have B8 := Lib.hid (below_lit B7.out hb)
  have HT8 := Lib.hid ((HT7.out.below (below_one (Below.refl _ _) _)).below hb)
  clear hb F7 B7 a0 a1 a2 b0 b1 b2 c0 c1 c2 d0 d1 d2 ltA ltD
  obtain ⟨a0, a1, a2⟩ := self3 F8.out.a
  obtain ⟨b0, b1, b2⟩ := self3 F8.out.b
  obtain ⟨c0, c1, c2⟩ := self3 F8.out.c
  obtain ⟨d0, d1, d2⟩ := self3 F8.out.d
  have ltA := lt_of_block F8.out.a
  have ltD := lt_of_block F8.out.d
  go_wp2_with fail
  refine (cSame _ _ [pA, pI, pF] [pA, pI, pF] _ (HT8.out.below (below_one (Below.refl _ _) _)) (show_lit w8 [pA, pI, pF] 3 rfl (by decide))).mono ?_
  rintro e w9 ⟨rfl, hb⟩
  have B9 := below_lit B8.out hb
  clear hb a0 a1 a2 b0 b1 b2 c0 c1 c2 d0 d1 d2 ltA ltD
  rw [decide_eq_true rfl]
  go_wp2
  go_ret
  exact ⟨rfl, B9⟩
end Go.Proofs.Ytdhjpoplgbcgjaa
