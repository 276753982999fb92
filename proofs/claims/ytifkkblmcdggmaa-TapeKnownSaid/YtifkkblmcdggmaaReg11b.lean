/-
  Region 11 of TapeKnown, whatever order it draws. Laid by tools/gen02known.py.
-/
import Derived.Test.YtifkkblmcdggmaaReg11
set_option linter.unusedVariables false
set_option linter.unusedSimpArgs false
namespace Go.Proofs.Ytifkkblmcdggmaa
open Go Go.RowKit

def Inv11 (k3 : Nat) (a0 : Act) (W0 : World) (listed : Array Bool) (a : Act) (w : World) : Prop :=
  listed.size = 47 ∧ Below W0.heap.size W0 w ∧ a.defers = a0.defers ∧ a.tmps.size = 164 ∧ (∀ s, s ≠ 4 → ¬ (45 ≤ s ∧ s ≤ 90) → a.tmps.getD s undef = a0.tmps.getD s undef) ∧ ∀ i, i < 47 → listed.getD i false = true → Pr k3 i (a.tmps.getD (slotOf i) undef) w
theorem slot_in : ∀ i, i < 47 → slotOf i < 164 ∧ (slotOf i = 4 ∨ (45 ≤ slotOf i ∧ slotOf i ≤ 90)) := by decide
theorem slot_ne : ∀ i, i < 47 → ∀ j, j < 47 → j ≠ i → slotOf j ≠ slotOf i := by decide
theorem tmps_put (t : Array Value) (s j : Nat) (v : Value) (hs : s < t.size) : (t.setIfInBounds s v).getD j undef = if j = s then v else t.getD j undef := by
  rw [Array.getD_eq_getD_getElem?, Array.getD_eq_getD_getElem?, Array.getElem?_setIfInBounds]
  by_cases h : j = s
  · subst h
    simp [hs]
  · simp [h, Ne.symm h]
theorem step11 {Q : Exit → Act → World → Prop} {k3 : Nat} {a0 : Act} {W0 : World} {listed : Array Bool} {a : Act} {w : World} (i : Nat) (hi : i < 47) {o : Oper} (ho : ops11[i]? = some o) (hd : o.dst = some (slotOf i)) (hg : o.guard = none)
    (hI : Inv11 k3 a0 W0 listed a w) (v : Value) (w' : World) (hr : (execOp a.eval o).run Try.prog w = .ok (.value v) w') (hb : Below w.heap.size w w') (hp : Pr k3 i v w') : wpOp Try.prog ops11 Q i (Inv11 k3 a0 W0 (listed.setIfInBounds i true)) a w := by
  refine wpOp_value ho hg hr ?_
  obtain ⟨h1, h2, h3, h4, h5, h6⟩ := hI
  obtain ⟨s1, s2⟩ := slot_in i hi
  have hput : a.put o.dst v = { tmps := a.tmps.setIfInBounds (slotOf i) v, defers := a.defers } := by rw [hd]; rfl
  rw [hput]
  refine ⟨by simpa using h1, below_then h2 hb, h3, by simpa using h4, fun s hs1 hs2 => ?_, fun j hj hl => ?_⟩
  · show (a.tmps.setIfInBounds (slotOf i) v).getD s undef = _
    rw [tmps_put _ _ _ _ (by omega), if_neg (by omega)]
    exact h5 s hs1 hs2
  · show Pr k3 j ((a.tmps.setIfInBounds (slotOf i) v).getD (slotOf j) undef) w'
    rw [tmps_put _ _ _ _ (by omega)]
    by_cases hji : j = i
    · subst hji
      rw [if_pos rfl]
      exact hp
    · rw [if_neg (slot_ne i hi j hj hji)]
      rw [set_getD _ _ _ _ (by omega), if_neg hji] at hl
      exact Pr_below j (h6 j hj hl) hb
theorem show_make {B n : Nat} {w w' : World} (h : w'.ownsRow B 42 1 (.slice (some ⟨w.heap.size, 0, none⟩) n n) n (madeCells (Value.slice none 0 0).cells (n * 1)).toList) : ShowLists w' (.slice (some ⟨w.heap.size, 0, none⟩) n n) (List.replicate n []) := by
  rw [Nat.mul_one, show (Value.slice none 0 0).cells = #[.slice none 0 0] from rfl, toList_madeCells_one] at h
  refine ⟨List.replicate n (.slice none 0 0), by simp, by simpa using Shows.ofOwns h, fun i hi hi' => ?_⟩
  simp only [List.getElem_replicate]
  exact Shows.nil w' 4
theorem cells65 : (madeCells (Value.agg #[.int .i64 0, .int .i64 0, .int .i64 0, .int .i64 0]).cells (65 * 4)).toList = calls (List.replicate 65 ⟨0, 0, 0, 0⟩) := by kernel_rfl
theorem makeL9 (w : World) : ∃ w', (Instr.makeSlice 22 (.int .i64 9) (.int .i64 9)).run Try.prog w = .ok (.slice (some ⟨w.heap.size, 0, none⟩) 9 9) w' ∧ PLists (List.replicate 9 []) (.slice (some ⟨w.heap.size, 0, none⟩) 9 9) w' ∧ Below w.heap.size w w' := by
  obtain ⟨i0, hi, hz0, hz1, hz2⟩ := info_parts infoL
  obtain ⟨w', h1, h2, h3⟩ := run_make_full (P := Try.prog) (w := w) (base := w.heap.size) 22 42 i0 _ 1 Try.underlying22 hi hz0 hz1 .i64 .i64 9 (by rw [hz2]; decide) (by decide) (Nat.le_refl _)
  exact ⟨w', h1, ⟨_, _, _, rfl, show_make h2⟩, (Below.refl _ w).grown h3 (Nat.le_refl _) (fun k hk => by cases hk)⟩
theorem makeC65 (w : World) : ∃ w', (Instr.makeSlice 42 (.int .i64 65) (.int .i64 65)).run Try.prog w = .ok (.slice (some ⟨w.heap.size, 0, none⟩) 65 65) w' ∧ PCalls (List.replicate 65 ⟨0, 0, 0, 0⟩) (.slice (some ⟨w.heap.size, 0, none⟩) 65 65) w' ∧ Below w.heap.size w w' := by
  obtain ⟨i0, hi, hz0, hz1, hz2⟩ := info_parts infoC
  obtain ⟨w', h1, h2, h3⟩ := run_make_full (P := Try.prog) (w := w) (base := w.heap.size) 42 44 i0 _ 4 Try.underlying42 hi hz0 hz1 .i64 .i64 65 (by rw [hz2]; decide) (by decide) (Nat.le_refl _)
  rw [cells65] at h2
  exact ⟨w', h1, ⟨_, _, _, rfl, Shows.ofOwns h2⟩, (Below.refl _ w).grown h3 (Nat.le_refl _) (fun k hk => by cases hk)⟩
theorem makeI (n : Nat) (hn : n ≤ 100000) (w : World) : ∃ w', (Instr.makeSlice 23 (.int .i64 (n : Int)) (.int .i64 (n : Int))).run Try.prog w = .ok (.slice (some ⟨w.heap.size, 0, none⟩) n n) w' ∧ PInts (List.replicate n 0) (.slice (some ⟨w.heap.size, 0, none⟩) n n) w' ∧ Below w.heap.size w w' := by
  obtain ⟨i0, hi, hz0, hz1, hz2⟩ := info_parts infoI
  obtain ⟨w', h1, h2, h3⟩ := run_make_full (P := Try.prog) (w := w) (base := w.heap.size) 23 3 i0 _ 1 Try.underlying23 hi hz0 hz1 .i64 .i64 n (by rw [hz2]; omega) (by unfold maxLen; omega) (Nat.le_refl _)
  rw [Nat.mul_one, show (Value.int .i64 0).cells = #[.int .i64 0] from rfl, toList_madeCells_one] at h2
  refine ⟨w', h1, ⟨_, _, _, rfl, ?_⟩, (Below.refl _ w).grown h3 (Nat.le_refl _) (fun k hk => by cases hk)⟩
  have := Shows.ofOwns h2
  unfold ShowInts
  simpa [ints] using this
theorem lit_lists {w : World} {a : Option Addr} {n c : Nat} {l : List Cl} (h : ShowCalls w (.slice a n c) l) : PLists [l] (.slice (some ⟨w.heap.size, 0, none⟩) 1 1) (w.alloc (.cells #[.slice a n c] 42)) := by
  have := World.ownsRow_lit (base := 0) (e := 42) (size := 1) w #[.slice a n c] 1 (Nat.zero_le _) (by decide) rfl
  refine ⟨_, _, _, rfl, [.slice a n c], rfl, Shows.ofOwns this, fun i hi hi' => ?_⟩
  have e : i = 0 := by simpa using hi
  subst e
  exact h.below (below_one (Below.refl _ _) _)
theorem lit_calls (w : World) (x : Cl) : PCalls [x] (.slice (some ⟨w.heap.size, 0, none⟩) 1 1) (w.alloc (.cells #[.int .i64 x.op, .int .i64 x.a, .int .i64 x.b, .int .i64 x.c] 44)) := by
  have := World.ownsRow_lit (base := 0) (e := 44) (size := 4) w #[.int .i64 x.op, .int .i64 x.a, .int .i64 x.b, .int .i64 x.c] 1 (Nat.zero_le _) (by decide) rfl
  exact ⟨_, _, _, rfl, Shows.ofOwns this⟩
theorem lit_ints (w : World) (x : Int) : PInts [x] (.slice (some ⟨w.heap.size, 0, none⟩) 1 1) (w.alloc (.cells #[.int .i64 x] 3)) := by
  have := World.ownsRow_lit (base := 0) (e := 3) (size := 1) w #[.int .i64 x] 1 (Nat.zero_le _) (by decide) rfl
  exact ⟨_, _, _, rfl, Shows.ofOwns this⟩
theorem cell_new (w : World) (cs : Array Value) (t : TypeId) (j : Nat) : (w.alloc (.cells cs t)).cell? ⟨w.heap.size, j, none⟩ = cs[j]? := by
  unfold World.cell?
  dsimp only
  rw [heap_new]
  rfl

theorem evc (a : Act) (v : Value) : a.eval (.const v) = v := rfl
theorem run_value {P : Program} {x : Sem Value} {w w' : World} {v : Value} (h : x.run P w = .ok v w') : (x >>= fun v => pure (Next.value v)).run P w = .ok (.value v) w' := by
  simp [h]
theorem ex11_0 {k3 : Nat} {a : Act} {w : World} {o : Oper} (hop : o.op = .build 25 #[]) : ∃ v w', (execOp a.eval o).run Try.prog w = .ok (.value v) w' ∧ Below w.heap.size w w' ∧ Pr k3 0 v w' := by
  refine ⟨.agg #[.int .i64 0, .int .i64 0, .slice none 0 0, .slice none 0 0], w, ?_, Below.refl _ _, ⟨_, _, _, _, _, _, rfl, ⟨_, _, rfl, (Lists.nil 0 w).shows, Shows.nil w 1⟩⟩⟩
  have hcst : ∀ v, a.eval (.const v) = v := fun v => rfl
  generalize a.eval = ρ at *
  unfold execOp
  rw [hop]
  simp [go_sem, hcst]
theorem ex11_1 {k3 : Nat} {a : Act} {w : World} {o : Oper} (hop : o.op = .build 25 #[(0, .const (.int .i64 1)), (1, .const (.int .i64 1))]) : ∃ v w', (execOp a.eval o).run Try.prog w = .ok (.value v) w' ∧ Below w.heap.size w w' ∧ Pr k3 1 v w' := by
  refine ⟨.agg #[.int .i64 1, .int .i64 1, .slice none 0 0, .slice none 0 0], w, ?_, Below.refl _ _, ⟨_, _, _, _, _, _, rfl, ⟨_, _, rfl, (Lists.nil 0 w).shows, Shows.nil w 1⟩⟩⟩
  have hcst : ∀ v, a.eval (.const v) = v := fun v => rfl
  generalize a.eval = ρ at *
  unfold execOp
  rw [hop]
  simp [go_sem, hcst]
theorem ex11_2 {k3 : Nat} {a : Act} {w : World} {o : Oper} (hop : o.op = .makeSlice 22 (.const (.int .i64 9)) (.const (.int .i64 9))) : ∃ v w', (execOp a.eval o).run Try.prog w = .ok (.value v) w' ∧ Below w.heap.size w w' ∧ Pr k3 2 v w' := by
  obtain ⟨w', h1, h2, h3⟩ := makeL9 w
  refine ⟨_, w', ?_, h3, h2⟩
  have hcst : ∀ v, a.eval (.const v) = v := fun v => rfl
  generalize a.eval = ρ at *
  unfold execOp
  rw [hop]
  simp only [hcst]
  exact run_value h1
theorem ex11_3 {k3 : Nat} {a : Act} {w : World} {o : Oper} (hop : o.op = .build 25 #[(0, .const (.int .i64 9)), (1, .const (.int .i64 1)), (2, .tmp 47)]) (d2 : Pr k3 2 (a.tmps.getD 47 undef) w) : ∃ v w', (execOp a.eval o).run Try.prog w = .ok (.value v) w' ∧ Below w.heap.size w w' ∧ Pr k3 3 v w' := by
  obtain ⟨x0, y0, z0, e0, s0⟩ := d2
  have v0 : a.eval (.tmp 47) = .slice x0 y0 z0 := e0
  refine ⟨.agg #[.int .i64 9, .int .i64 1, .slice x0 y0 z0, .slice none 0 0], w, ?_, Below.refl _ _, ⟨_, _, _, _, _, _, rfl, ⟨_, _, rfl, s0, Shows.nil w 1⟩⟩⟩
  have hcst : ∀ v, a.eval (.const v) = v := fun v => rfl
  generalize a.eval = ρ at *
  unfold execOp
  rw [hop]
  simp [go_sem, v0, hcst]
theorem ex11_4 {k3 : Nat} {a : Act} {w : World} {o : Oper} (hop : o.op = .fieldAddr 25 (.tmp 3) 2) (h3 : a.tmps.getD 3 undef = .pointer (some ⟨k3, 0, none⟩)) : ∃ v w', (execOp a.eval o).run Try.prog w = .ok (.value v) w' ∧ Below w.heap.size w w' ∧ Pr k3 4 v w' := by
  have v0 : a.eval (.tmp 3) = .pointer (some ⟨k3, 0, none⟩) := h3
  refine ⟨_, w, ?_, Below.refl _ _, rfl⟩
  have hcst : ∀ v, a.eval (.const v) = v := fun v => rfl
  generalize a.eval = ρ at *
  unfold execOp
  rw [hop]
  simp [go_sem, v0]
theorem ex11_5 {k3 : Nat} {a : Act} {w : World} {o : Oper} (hop : o.op = .load 22 (.tmp 49)) (d4 : Pr k3 4 (a.tmps.getD 49 undef) w) (a1 : Option Addr) (n1 c1 : Nat) (hc : w.cell? ⟨k3, 2, none⟩ = some (.slice a1 n1 c1)) (hs : ShowLists w (.slice a1 n1 c1) [[]]) : ∃ v w', (execOp a.eval o).run Try.prog w = .ok (.value v) w' ∧ Below w.heap.size w w' ∧ Pr k3 5 v w' := by
  have v0 : a.eval (.tmp 49) = .pointer (some ⟨k3, 2, none⟩) := d4
  refine ⟨_, w, ?_, Below.refl _ _, ⟨a1, n1, c1, rfl, hs⟩⟩
  have hcst : ∀ v, a.eval (.const v) = v := fun v => rfl
  generalize a.eval = ρ at *
  unfold execOp
  rw [hop]
  simp [go_sem, v0, hc]
theorem ex11_6 {k3 : Nat} {a : Act} {w : World} {o : Oper} (hop : o.op = .build 25 #[(0, .const (.int .i64 1)), (1, .const (.int .i64 0)), (2, .tmp 50)]) (d5 : Pr k3 5 (a.tmps.getD 50 undef) w) : ∃ v w', (execOp a.eval o).run Try.prog w = .ok (.value v) w' ∧ Below w.heap.size w w' ∧ Pr k3 6 v w' := by
  obtain ⟨x0, y0, z0, e0, s0⟩ := d5
  have v0 : a.eval (.tmp 50) = .slice x0 y0 z0 := e0
  refine ⟨.agg #[.int .i64 1, .int .i64 0, .slice x0 y0 z0, .slice none 0 0], w, ?_, Below.refl _ _, ⟨_, _, _, _, _, _, rfl, ⟨_, _, rfl, s0, Shows.nil w 1⟩⟩⟩
  have hcst : ∀ v, a.eval (.const v) = v := fun v => rfl
  generalize a.eval = ρ at *
  unfold execOp
  rw [hop]
  simp [go_sem, v0, hcst]
theorem ex11_7 {k3 : Nat} {a : Act} {w : World} {o : Oper} (hop : o.op = .fieldAddr 25 (.tmp 3) 2) (h3 : a.tmps.getD 3 undef = .pointer (some ⟨k3, 0, none⟩)) : ∃ v w', (execOp a.eval o).run Try.prog w = .ok (.value v) w' ∧ Below w.heap.size w w' ∧ Pr k3 7 v w' := by
  have v0 : a.eval (.tmp 3) = .pointer (some ⟨k3, 0, none⟩) := h3
  refine ⟨_, w, ?_, Below.refl _ _, rfl⟩
  have hcst : ∀ v, a.eval (.const v) = v := fun v => rfl
  generalize a.eval = ρ at *
  unfold execOp
  rw [hop]
  simp [go_sem, v0]
theorem ex11_8 {k3 : Nat} {a : Act} {w : World} {o : Oper} (hop : o.op = .load 22 (.tmp 52)) (d7 : Pr k3 7 (a.tmps.getD 52 undef) w) (a1 : Option Addr) (n1 c1 : Nat) (hc : w.cell? ⟨k3, 2, none⟩ = some (.slice a1 n1 c1)) (hs : ShowLists w (.slice a1 n1 c1) [[]]) : ∃ v w', (execOp a.eval o).run Try.prog w = .ok (.value v) w' ∧ Below w.heap.size w w' ∧ Pr k3 8 v w' := by
  have v0 : a.eval (.tmp 52) = .pointer (some ⟨k3, 2, none⟩) := d7
  refine ⟨_, w, ?_, Below.refl _ _, ⟨a1, n1, c1, rfl, hs⟩⟩
  have hcst : ∀ v, a.eval (.const v) = v := fun v => rfl
  generalize a.eval = ρ at *
  unfold execOp
  rw [hop]
  simp [go_sem, v0, hc]
theorem ex11_9 {k3 : Nat} {a : Act} {w : World} {o : Oper} (hop : o.op = .build 25 #[(0, .const (.int .i64 1)), (1, .const (.int .i64 1025)), (2, .tmp 53)]) (d8 : Pr k3 8 (a.tmps.getD 53 undef) w) : ∃ v w', (execOp a.eval o).run Try.prog w = .ok (.value v) w' ∧ Below w.heap.size w w' ∧ Pr k3 9 v w' := by
  obtain ⟨x0, y0, z0, e0, s0⟩ := d8
  have v0 : a.eval (.tmp 53) = .slice x0 y0 z0 := e0
  refine ⟨.agg #[.int .i64 1, .int .i64 1025, .slice x0 y0 z0, .slice none 0 0], w, ?_, Below.refl _ _, ⟨_, _, _, _, _, _, rfl, ⟨_, _, rfl, s0, Shows.nil w 1⟩⟩⟩
  have hcst : ∀ v, a.eval (.const v) = v := fun v => rfl
  generalize a.eval = ρ at *
  unfold execOp
  rw [hop]
  simp [go_sem, v0, hcst]
theorem ex11_10 {k3 : Nat} {a : Act} {w : World} {o : Oper} (hop : o.op = .makeSlice 42 (.const (.int .i64 65)) (.const (.int .i64 65))) : ∃ v w', (execOp a.eval o).run Try.prog w = .ok (.value v) w' ∧ Below w.heap.size w w' ∧ Pr k3 10 v w' := by
  obtain ⟨w', h1, h2, h3⟩ := makeC65 w
  refine ⟨_, w', ?_, h3, h2⟩
  have hcst : ∀ v, a.eval (.const v) = v := fun v => rfl
  generalize a.eval = ρ at *
  unfold execOp
  rw [hop]
  simp only [hcst]
  exact run_value h1
theorem ex11_11 {k3 : Nat} {a : Act} {w : World} {o : Oper} (hop : o.op = .buildSlice 22 1 #[(0, .tmp 55)]) (d10 : Pr k3 10 (a.tmps.getD 55 undef) w) : ∃ v w', (execOp a.eval o).run Try.prog w = .ok (.value v) w' ∧ Below w.heap.size w w' ∧ Pr k3 11 v w' := by
  obtain ⟨x0, y0, z0, e0, s0⟩ := d10
  have v0 : a.eval (.tmp 55) = .slice x0 y0 z0 := e0
  refine ⟨_, _, ?_, below_one (Below.refl _ _) _, lit_lists s0⟩
  have hcst : ∀ v, a.eval (.const v) = v := fun v => rfl
  generalize a.eval = ρ at *
  unfold execOp
  rw [hop]
  simp [go_sem, v0]
theorem ex11_12 {k3 : Nat} {a : Act} {w : World} {o : Oper} (hop : o.op = .build 25 #[(0, .const (.int .i64 1)), (1, .const (.int .i64 1)), (2, .tmp 56)]) (d11 : Pr k3 11 (a.tmps.getD 56 undef) w) : ∃ v w', (execOp a.eval o).run Try.prog w = .ok (.value v) w' ∧ Below w.heap.size w w' ∧ Pr k3 12 v w' := by
  obtain ⟨x0, y0, z0, e0, s0⟩ := d11
  have v0 : a.eval (.tmp 56) = .slice x0 y0 z0 := e0
  refine ⟨.agg #[.int .i64 1, .int .i64 1, .slice x0 y0 z0, .slice none 0 0], w, ?_, Below.refl _ _, ⟨_, _, _, _, _, _, rfl, ⟨_, _, rfl, s0, Shows.nil w 1⟩⟩⟩
  have hcst : ∀ v, a.eval (.const v) = v := fun v => rfl
  generalize a.eval = ρ at *
  unfold execOp
  rw [hop]
  simp [go_sem, v0, hcst]
theorem ex11_13 {k3 : Nat} {a : Act} {w : World} {o : Oper} (hop : o.op = .build 44 #[(0, .const (.int .i64 14))]) : ∃ v w', (execOp a.eval o).run Try.prog w = .ok (.value v) w' ∧ Below w.heap.size w w' ∧ Pr k3 13 v w' := by
  refine ⟨_, w, ?_, Below.refl _ _, rfl⟩
  have hcst : ∀ v, a.eval (.const v) = v := fun v => rfl
  generalize a.eval = ρ at *
  unfold execOp
  rw [hop]
  simp [go_sem, hcst]
theorem ex11_14 {k3 : Nat} {a : Act} {w : World} {o : Oper} (hop : o.op = .buildSlice 42 1 #[(0, .tmp 58)]) (d13 : Pr k3 13 (a.tmps.getD 58 undef) w) : ∃ v w', (execOp a.eval o).run Try.prog w = .ok (.value v) w' ∧ Below w.heap.size w w' ∧ Pr k3 14 v w' := by
  have v0 : a.eval (.tmp 58) = _ := d13
  refine ⟨_, _, ?_, below_one (Below.refl _ _) _, lit_calls w ⟨14, 0, 0, 0⟩⟩
  have hcst : ∀ v, a.eval (.const v) = v := fun v => rfl
  generalize a.eval = ρ at *
  unfold execOp
  rw [hop]
  simp [go_sem, v0]
theorem ex11_15 {k3 : Nat} {a : Act} {w : World} {o : Oper} (hop : o.op = .buildSlice 22 1 #[(0, .tmp 59)]) (d14 : Pr k3 14 (a.tmps.getD 59 undef) w) : ∃ v w', (execOp a.eval o).run Try.prog w = .ok (.value v) w' ∧ Below w.heap.size w w' ∧ Pr k3 15 v w' := by
  obtain ⟨x0, y0, z0, e0, s0⟩ := d14
  have v0 : a.eval (.tmp 59) = .slice x0 y0 z0 := e0
  refine ⟨_, _, ?_, below_one (Below.refl _ _) _, lit_lists s0⟩
  have hcst : ∀ v, a.eval (.const v) = v := fun v => rfl
  generalize a.eval = ρ at *
  unfold execOp
  rw [hop]
  simp [go_sem, v0]
theorem ex11_16 {k3 : Nat} {a : Act} {w : World} {o : Oper} (hop : o.op = .build 25 #[(0, .const (.int .i64 1)), (1, .const (.int .i64 1)), (2, .tmp 60)]) (d15 : Pr k3 15 (a.tmps.getD 60 undef) w) : ∃ v w', (execOp a.eval o).run Try.prog w = .ok (.value v) w' ∧ Below w.heap.size w w' ∧ Pr k3 16 v w' := by
  obtain ⟨x0, y0, z0, e0, s0⟩ := d15
  have v0 : a.eval (.tmp 60) = .slice x0 y0 z0 := e0
  refine ⟨.agg #[.int .i64 1, .int .i64 1, .slice x0 y0 z0, .slice none 0 0], w, ?_, Below.refl _ _, ⟨_, _, _, _, _, _, rfl, ⟨_, _, rfl, s0, Shows.nil w 1⟩⟩⟩
  have hcst : ∀ v, a.eval (.const v) = v := fun v => rfl
  generalize a.eval = ρ at *
  unfold execOp
  rw [hop]
  simp [go_sem, v0, hcst]
theorem ex11_17 {k3 : Nat} {a : Act} {w : World} {o : Oper} (hop : o.op = .build 44 #[(0, .const (.int .i64 (-1)))]) : ∃ v w', (execOp a.eval o).run Try.prog w = .ok (.value v) w' ∧ Below w.heap.size w w' ∧ Pr k3 17 v w' := by
  refine ⟨_, w, ?_, Below.refl _ _, rfl⟩
  have hcst : ∀ v, a.eval (.const v) = v := fun v => rfl
  generalize a.eval = ρ at *
  unfold execOp
  rw [hop]
  simp [go_sem, hcst]
theorem ex11_18 {k3 : Nat} {a : Act} {w : World} {o : Oper} (hop : o.op = .buildSlice 42 1 #[(0, .tmp 62)]) (d17 : Pr k3 17 (a.tmps.getD 62 undef) w) : ∃ v w', (execOp a.eval o).run Try.prog w = .ok (.value v) w' ∧ Below w.heap.size w w' ∧ Pr k3 18 v w' := by
  have v0 : a.eval (.tmp 62) = _ := d17
  refine ⟨_, _, ?_, below_one (Below.refl _ _) _, lit_calls w ⟨-1, 0, 0, 0⟩⟩
  have hcst : ∀ v, a.eval (.const v) = v := fun v => rfl
  generalize a.eval = ρ at *
  unfold execOp
  rw [hop]
  simp [go_sem, v0]
theorem ex11_19 {k3 : Nat} {a : Act} {w : World} {o : Oper} (hop : o.op = .buildSlice 22 1 #[(0, .tmp 63)]) (d18 : Pr k3 18 (a.tmps.getD 63 undef) w) : ∃ v w', (execOp a.eval o).run Try.prog w = .ok (.value v) w' ∧ Below w.heap.size w w' ∧ Pr k3 19 v w' := by
  obtain ⟨x0, y0, z0, e0, s0⟩ := d18
  have v0 : a.eval (.tmp 63) = .slice x0 y0 z0 := e0
  refine ⟨_, _, ?_, below_one (Below.refl _ _) _, lit_lists s0⟩
  have hcst : ∀ v, a.eval (.const v) = v := fun v => rfl
  generalize a.eval = ρ at *
  unfold execOp
  rw [hop]
  simp [go_sem, v0]
theorem ex11_20 {k3 : Nat} {a : Act} {w : World} {o : Oper} (hop : o.op = .build 25 #[(0, .const (.int .i64 1)), (1, .const (.int .i64 1)), (2, .tmp 64)]) (d19 : Pr k3 19 (a.tmps.getD 64 undef) w) : ∃ v w', (execOp a.eval o).run Try.prog w = .ok (.value v) w' ∧ Below w.heap.size w w' ∧ Pr k3 20 v w' := by
  obtain ⟨x0, y0, z0, e0, s0⟩ := d19
  have v0 : a.eval (.tmp 64) = .slice x0 y0 z0 := e0
  refine ⟨.agg #[.int .i64 1, .int .i64 1, .slice x0 y0 z0, .slice none 0 0], w, ?_, Below.refl _ _, ⟨_, _, _, _, _, _, rfl, ⟨_, _, rfl, s0, Shows.nil w 1⟩⟩⟩
  have hcst : ∀ v, a.eval (.const v) = v := fun v => rfl
  generalize a.eval = ρ at *
  unfold execOp
  rw [hop]
  simp [go_sem, v0, hcst]
theorem ex11_21 {k3 : Nat} {a : Act} {w : World} {o : Oper} (hop : o.op = .build 44 #[(1, .const (.int .i64 256))]) : ∃ v w', (execOp a.eval o).run Try.prog w = .ok (.value v) w' ∧ Below w.heap.size w w' ∧ Pr k3 21 v w' := by
  refine ⟨_, w, ?_, Below.refl _ _, rfl⟩
  have hcst : ∀ v, a.eval (.const v) = v := fun v => rfl
  generalize a.eval = ρ at *
  unfold execOp
  rw [hop]
  simp [go_sem, hcst]
theorem ex11_22 {k3 : Nat} {a : Act} {w : World} {o : Oper} (hop : o.op = .buildSlice 42 1 #[(0, .tmp 66)]) (d21 : Pr k3 21 (a.tmps.getD 66 undef) w) : ∃ v w', (execOp a.eval o).run Try.prog w = .ok (.value v) w' ∧ Below w.heap.size w w' ∧ Pr k3 22 v w' := by
  have v0 : a.eval (.tmp 66) = _ := d21
  refine ⟨_, _, ?_, below_one (Below.refl _ _) _, lit_calls w ⟨0, 256, 0, 0⟩⟩
  have hcst : ∀ v, a.eval (.const v) = v := fun v => rfl
  generalize a.eval = ρ at *
  unfold execOp
  rw [hop]
  simp [go_sem, v0]
theorem ex11_23 {k3 : Nat} {a : Act} {w : World} {o : Oper} (hop : o.op = .buildSlice 22 1 #[(0, .tmp 67)]) (d22 : Pr k3 22 (a.tmps.getD 67 undef) w) : ∃ v w', (execOp a.eval o).run Try.prog w = .ok (.value v) w' ∧ Below w.heap.size w w' ∧ Pr k3 23 v w' := by
  obtain ⟨x0, y0, z0, e0, s0⟩ := d22
  have v0 : a.eval (.tmp 67) = .slice x0 y0 z0 := e0
  refine ⟨_, _, ?_, below_one (Below.refl _ _) _, lit_lists s0⟩
  have hcst : ∀ v, a.eval (.const v) = v := fun v => rfl
  generalize a.eval = ρ at *
  unfold execOp
  rw [hop]
  simp [go_sem, v0]
theorem ex11_24 {k3 : Nat} {a : Act} {w : World} {o : Oper} (hop : o.op = .build 25 #[(0, .const (.int .i64 1)), (1, .const (.int .i64 1)), (2, .tmp 68)]) (d23 : Pr k3 23 (a.tmps.getD 68 undef) w) : ∃ v w', (execOp a.eval o).run Try.prog w = .ok (.value v) w' ∧ Below w.heap.size w w' ∧ Pr k3 24 v w' := by
  obtain ⟨x0, y0, z0, e0, s0⟩ := d23
  have v0 : a.eval (.tmp 68) = .slice x0 y0 z0 := e0
  refine ⟨.agg #[.int .i64 1, .int .i64 1, .slice x0 y0 z0, .slice none 0 0], w, ?_, Below.refl _ _, ⟨_, _, _, _, _, _, rfl, ⟨_, _, rfl, s0, Shows.nil w 1⟩⟩⟩
  have hcst : ∀ v, a.eval (.const v) = v := fun v => rfl
  generalize a.eval = ρ at *
  unfold execOp
  rw [hop]
  simp [go_sem, v0, hcst]
theorem ex11_25 {k3 : Nat} {a : Act} {w : World} {o : Oper} (hop : o.op = .build 44 #[(2, .const (.int .i64 65536))]) : ∃ v w', (execOp a.eval o).run Try.prog w = .ok (.value v) w' ∧ Below w.heap.size w w' ∧ Pr k3 25 v w' := by
  refine ⟨_, w, ?_, Below.refl _ _, rfl⟩
  have hcst : ∀ v, a.eval (.const v) = v := fun v => rfl
  generalize a.eval = ρ at *
  unfold execOp
  rw [hop]
  simp [go_sem, hcst]
theorem ex11_26 {k3 : Nat} {a : Act} {w : World} {o : Oper} (hop : o.op = .buildSlice 42 1 #[(0, .tmp 70)]) (d25 : Pr k3 25 (a.tmps.getD 70 undef) w) : ∃ v w', (execOp a.eval o).run Try.prog w = .ok (.value v) w' ∧ Below w.heap.size w w' ∧ Pr k3 26 v w' := by
  have v0 : a.eval (.tmp 70) = _ := d25
  refine ⟨_, _, ?_, below_one (Below.refl _ _) _, lit_calls w ⟨0, 0, 65536, 0⟩⟩
  have hcst : ∀ v, a.eval (.const v) = v := fun v => rfl
  generalize a.eval = ρ at *
  unfold execOp
  rw [hop]
  simp [go_sem, v0]
theorem ex11_27 {k3 : Nat} {a : Act} {w : World} {o : Oper} (hop : o.op = .buildSlice 22 1 #[(0, .tmp 71)]) (d26 : Pr k3 26 (a.tmps.getD 71 undef) w) : ∃ v w', (execOp a.eval o).run Try.prog w = .ok (.value v) w' ∧ Below w.heap.size w w' ∧ Pr k3 27 v w' := by
  obtain ⟨x0, y0, z0, e0, s0⟩ := d26
  have v0 : a.eval (.tmp 71) = .slice x0 y0 z0 := e0
  refine ⟨_, _, ?_, below_one (Below.refl _ _) _, lit_lists s0⟩
  have hcst : ∀ v, a.eval (.const v) = v := fun v => rfl
  generalize a.eval = ρ at *
  unfold execOp
  rw [hop]
  simp [go_sem, v0]
theorem ex11_28 {k3 : Nat} {a : Act} {w : World} {o : Oper} (hop : o.op = .build 25 #[(0, .const (.int .i64 1)), (1, .const (.int .i64 1)), (2, .tmp 72)]) (d27 : Pr k3 27 (a.tmps.getD 72 undef) w) : ∃ v w', (execOp a.eval o).run Try.prog w = .ok (.value v) w' ∧ Below w.heap.size w w' ∧ Pr k3 28 v w' := by
  obtain ⟨x0, y0, z0, e0, s0⟩ := d27
  have v0 : a.eval (.tmp 72) = .slice x0 y0 z0 := e0
  refine ⟨.agg #[.int .i64 1, .int .i64 1, .slice x0 y0 z0, .slice none 0 0], w, ?_, Below.refl _ _, ⟨_, _, _, _, _, _, rfl, ⟨_, _, rfl, s0, Shows.nil w 1⟩⟩⟩
  have hcst : ∀ v, a.eval (.const v) = v := fun v => rfl
  generalize a.eval = ρ at *
  unfold execOp
  rw [hop]
  simp [go_sem, v0, hcst]
theorem ex11_29 {k3 : Nat} {a : Act} {w : World} {o : Oper} (hop : o.op = .build 44 #[(3, .const (.int .i64 (-1)))]) : ∃ v w', (execOp a.eval o).run Try.prog w = .ok (.value v) w' ∧ Below w.heap.size w w' ∧ Pr k3 29 v w' := by
  refine ⟨_, w, ?_, Below.refl _ _, rfl⟩
  have hcst : ∀ v, a.eval (.const v) = v := fun v => rfl
  generalize a.eval = ρ at *
  unfold execOp
  rw [hop]
  simp [go_sem, hcst]
theorem ex11_30 {k3 : Nat} {a : Act} {w : World} {o : Oper} (hop : o.op = .buildSlice 42 1 #[(0, .tmp 74)]) (d29 : Pr k3 29 (a.tmps.getD 74 undef) w) : ∃ v w', (execOp a.eval o).run Try.prog w = .ok (.value v) w' ∧ Below w.heap.size w w' ∧ Pr k3 30 v w' := by
  have v0 : a.eval (.tmp 74) = _ := d29
  refine ⟨_, _, ?_, below_one (Below.refl _ _) _, lit_calls w ⟨0, 0, 0, -1⟩⟩
  have hcst : ∀ v, a.eval (.const v) = v := fun v => rfl
  generalize a.eval = ρ at *
  unfold execOp
  rw [hop]
  simp [go_sem, v0]
theorem ex11_31 {k3 : Nat} {a : Act} {w : World} {o : Oper} (hop : o.op = .buildSlice 22 1 #[(0, .tmp 75)]) (d30 : Pr k3 30 (a.tmps.getD 75 undef) w) : ∃ v w', (execOp a.eval o).run Try.prog w = .ok (.value v) w' ∧ Below w.heap.size w w' ∧ Pr k3 31 v w' := by
  obtain ⟨x0, y0, z0, e0, s0⟩ := d30
  have v0 : a.eval (.tmp 75) = .slice x0 y0 z0 := e0
  refine ⟨_, _, ?_, below_one (Below.refl _ _) _, lit_lists s0⟩
  have hcst : ∀ v, a.eval (.const v) = v := fun v => rfl
  generalize a.eval = ρ at *
  unfold execOp
  rw [hop]
  simp [go_sem, v0]
theorem ex11_32 {k3 : Nat} {a : Act} {w : World} {o : Oper} (hop : o.op = .build 25 #[(0, .const (.int .i64 1)), (1, .const (.int .i64 1)), (2, .tmp 76)]) (d31 : Pr k3 31 (a.tmps.getD 76 undef) w) : ∃ v w', (execOp a.eval o).run Try.prog w = .ok (.value v) w' ∧ Below w.heap.size w w' ∧ Pr k3 32 v w' := by
  obtain ⟨x0, y0, z0, e0, s0⟩ := d31
  have v0 : a.eval (.tmp 76) = .slice x0 y0 z0 := e0
  refine ⟨.agg #[.int .i64 1, .int .i64 1, .slice x0 y0 z0, .slice none 0 0], w, ?_, Below.refl _ _, ⟨_, _, _, _, _, _, rfl, ⟨_, _, rfl, s0, Shows.nil w 1⟩⟩⟩
  have hcst : ∀ v, a.eval (.const v) = v := fun v => rfl
  generalize a.eval = ρ at *
  unfold execOp
  rw [hop]
  simp [go_sem, v0, hcst]
theorem ex11_33 {k3 : Nat} {a : Act} {w : World} {o : Oper} (hop : o.op = .fieldAddr 25 (.tmp 3) 2) (h3 : a.tmps.getD 3 undef = .pointer (some ⟨k3, 0, none⟩)) : ∃ v w', (execOp a.eval o).run Try.prog w = .ok (.value v) w' ∧ Below w.heap.size w w' ∧ Pr k3 33 v w' := by
  have v0 : a.eval (.tmp 3) = .pointer (some ⟨k3, 0, none⟩) := h3
  refine ⟨_, w, ?_, Below.refl _ _, rfl⟩
  have hcst : ∀ v, a.eval (.const v) = v := fun v => rfl
  generalize a.eval = ρ at *
  unfold execOp
  rw [hop]
  simp [go_sem, v0]
theorem ex11_34 {k3 : Nat} {a : Act} {w : World} {o : Oper} (hop : o.op = .load 22 (.tmp 78)) (d33 : Pr k3 33 (a.tmps.getD 78 undef) w) (a1 : Option Addr) (n1 c1 : Nat) (hc : w.cell? ⟨k3, 2, none⟩ = some (.slice a1 n1 c1)) (hs : ShowLists w (.slice a1 n1 c1) [[]]) : ∃ v w', (execOp a.eval o).run Try.prog w = .ok (.value v) w' ∧ Below w.heap.size w w' ∧ Pr k3 34 v w' := by
  have v0 : a.eval (.tmp 78) = .pointer (some ⟨k3, 2, none⟩) := d33
  refine ⟨_, w, ?_, Below.refl _ _, ⟨a1, n1, c1, rfl, hs⟩⟩
  have hcst : ∀ v, a.eval (.const v) = v := fun v => rfl
  generalize a.eval = ρ at *
  unfold execOp
  rw [hop]
  simp [go_sem, v0, hc]
theorem ex11_35 {k3 : Nat} {a : Act} {w : World} {o : Oper} (hop : o.op = .buildSlice 23 1 #[(0, .const (.int .i64 256))]) : ∃ v w', (execOp a.eval o).run Try.prog w = .ok (.value v) w' ∧ Below w.heap.size w w' ∧ Pr k3 35 v w' := by
  refine ⟨_, _, ?_, below_one (Below.refl _ _) _, lit_ints w (256)⟩
  have hcst : ∀ v, a.eval (.const v) = v := fun v => rfl
  generalize a.eval = ρ at *
  unfold execOp
  rw [hop]
  simp [go_sem, hcst]
theorem ex11_36 {k3 : Nat} {a : Act} {w : World} {o : Oper} (hop : o.op = .build 25 #[(0, .const (.int .i64 1)), (1, .const (.int .i64 1)), (2, .tmp 79), (3, .tmp 80)]) (d34 : Pr k3 34 (a.tmps.getD 79 undef) w) (d35 : Pr k3 35 (a.tmps.getD 80 undef) w) : ∃ v w', (execOp a.eval o).run Try.prog w = .ok (.value v) w' ∧ Below w.heap.size w w' ∧ Pr k3 36 v w' := by
  obtain ⟨x0, y0, z0, e0, s0⟩ := d34
  obtain ⟨x1, y1, z1, e1, s1⟩ := d35
  have v0 : a.eval (.tmp 79) = .slice x0 y0 z0 := e0
  have v1 : a.eval (.tmp 80) = .slice x1 y1 z1 := e1
  refine ⟨.agg #[.int .i64 1, .int .i64 1, .slice x0 y0 z0, .slice x1 y1 z1], w, ?_, Below.refl _ _, ⟨_, _, _, _, _, _, rfl, ⟨_, _, rfl, s0, s1⟩⟩⟩
  have hcst : ∀ v, a.eval (.const v) = v := fun v => rfl
  generalize a.eval = ρ at *
  unfold execOp
  rw [hop]
  simp [go_sem, v0, v1, hcst]
theorem ex11_37 {k3 : Nat} {a : Act} {w : World} {o : Oper} (hop : o.op = .fieldAddr 25 (.tmp 3) 2) (h3 : a.tmps.getD 3 undef = .pointer (some ⟨k3, 0, none⟩)) : ∃ v w', (execOp a.eval o).run Try.prog w = .ok (.value v) w' ∧ Below w.heap.size w w' ∧ Pr k3 37 v w' := by
  have v0 : a.eval (.tmp 3) = .pointer (some ⟨k3, 0, none⟩) := h3
  refine ⟨_, w, ?_, Below.refl _ _, rfl⟩
  have hcst : ∀ v, a.eval (.const v) = v := fun v => rfl
  generalize a.eval = ρ at *
  unfold execOp
  rw [hop]
  simp [go_sem, v0]
theorem ex11_38 {k3 : Nat} {a : Act} {w : World} {o : Oper} (hop : o.op = .load 22 (.tmp 82)) (d37 : Pr k3 37 (a.tmps.getD 82 undef) w) (a1 : Option Addr) (n1 c1 : Nat) (hc : w.cell? ⟨k3, 2, none⟩ = some (.slice a1 n1 c1)) (hs : ShowLists w (.slice a1 n1 c1) [[]]) : ∃ v w', (execOp a.eval o).run Try.prog w = .ok (.value v) w' ∧ Below w.heap.size w w' ∧ Pr k3 38 v w' := by
  have v0 : a.eval (.tmp 82) = .pointer (some ⟨k3, 2, none⟩) := d37
  refine ⟨_, w, ?_, Below.refl _ _, ⟨a1, n1, c1, rfl, hs⟩⟩
  have hcst : ∀ v, a.eval (.const v) = v := fun v => rfl
  generalize a.eval = ρ at *
  unfold execOp
  rw [hop]
  simp [go_sem, v0, hc]
theorem ex11_39 {k3 : Nat} {a : Act} {w : World} {o : Oper} (hop : o.op = .buildSlice 23 1 #[(0, .const (.int .i64 (-1)))]) : ∃ v w', (execOp a.eval o).run Try.prog w = .ok (.value v) w' ∧ Below w.heap.size w w' ∧ Pr k3 39 v w' := by
  refine ⟨_, _, ?_, below_one (Below.refl _ _) _, lit_ints w (-1)⟩
  have hcst : ∀ v, a.eval (.const v) = v := fun v => rfl
  generalize a.eval = ρ at *
  unfold execOp
  rw [hop]
  simp [go_sem, hcst]
theorem ex11_40 {k3 : Nat} {a : Act} {w : World} {o : Oper} (hop : o.op = .build 25 #[(0, .const (.int .i64 1)), (1, .const (.int .i64 1)), (2, .tmp 83), (3, .tmp 84)]) (d38 : Pr k3 38 (a.tmps.getD 83 undef) w) (d39 : Pr k3 39 (a.tmps.getD 84 undef) w) : ∃ v w', (execOp a.eval o).run Try.prog w = .ok (.value v) w' ∧ Below w.heap.size w w' ∧ Pr k3 40 v w' := by
  obtain ⟨x0, y0, z0, e0, s0⟩ := d38
  obtain ⟨x1, y1, z1, e1, s1⟩ := d39
  have v0 : a.eval (.tmp 83) = .slice x0 y0 z0 := e0
  have v1 : a.eval (.tmp 84) = .slice x1 y1 z1 := e1
  refine ⟨.agg #[.int .i64 1, .int .i64 1, .slice x0 y0 z0, .slice x1 y1 z1], w, ?_, Below.refl _ _, ⟨_, _, _, _, _, _, rfl, ⟨_, _, rfl, s0, s1⟩⟩⟩
  have hcst : ∀ v, a.eval (.const v) = v := fun v => rfl
  generalize a.eval = ρ at *
  unfold execOp
  rw [hop]
  simp [go_sem, v0, v1, hcst]
theorem ex11_41 {k3 : Nat} {a : Act} {w : World} {o : Oper} (hop : o.op = .fieldAddr 25 (.tmp 3) 2) (h3 : a.tmps.getD 3 undef = .pointer (some ⟨k3, 0, none⟩)) : ∃ v w', (execOp a.eval o).run Try.prog w = .ok (.value v) w' ∧ Below w.heap.size w w' ∧ Pr k3 41 v w' := by
  have v0 : a.eval (.tmp 3) = .pointer (some ⟨k3, 0, none⟩) := h3
  refine ⟨_, w, ?_, Below.refl _ _, rfl⟩
  have hcst : ∀ v, a.eval (.const v) = v := fun v => rfl
  generalize a.eval = ρ at *
  unfold execOp
  rw [hop]
  simp [go_sem, v0]
theorem ex11_42 {k3 : Nat} {a : Act} {w : World} {o : Oper} (hop : o.op = .load 22 (.tmp 86)) (d41 : Pr k3 41 (a.tmps.getD 86 undef) w) (a1 : Option Addr) (n1 c1 : Nat) (hc : w.cell? ⟨k3, 2, none⟩ = some (.slice a1 n1 c1)) (hs : ShowLists w (.slice a1 n1 c1) [[]]) : ∃ v w', (execOp a.eval o).run Try.prog w = .ok (.value v) w' ∧ Below w.heap.size w w' ∧ Pr k3 42 v w' := by
  have v0 : a.eval (.tmp 86) = .pointer (some ⟨k3, 2, none⟩) := d41
  refine ⟨_, w, ?_, Below.refl _ _, ⟨a1, n1, c1, rfl, hs⟩⟩
  have hcst : ∀ v, a.eval (.const v) = v := fun v => rfl
  generalize a.eval = ρ at *
  unfold execOp
  rw [hop]
  simp [go_sem, v0, hc]
theorem ex11_43 {k3 : Nat} {a : Act} {w : World} {o : Oper} (hop : o.op = .makeSlice 23 (.const (.int .i64 4097)) (.const (.int .i64 4097))) : ∃ v w', (execOp a.eval o).run Try.prog w = .ok (.value v) w' ∧ Below w.heap.size w w' ∧ Pr k3 43 v w' := by
  obtain ⟨w', h1, h2, h3⟩ := makeI 4097 (by decide) w
  refine ⟨_, w', ?_, h3, h2⟩
  have hcst : ∀ v, a.eval (.const v) = v := fun v => rfl
  generalize a.eval = ρ at *
  unfold execOp
  rw [hop]
  simp only [hcst]
  exact run_value h1
theorem ex11_44 {k3 : Nat} {a : Act} {w : World} {o : Oper} (hop : o.op = .build 25 #[(0, .const (.int .i64 1)), (1, .const (.int .i64 1)), (2, .tmp 87), (3, .tmp 88)]) (d42 : Pr k3 42 (a.tmps.getD 87 undef) w) (d43 : Pr k3 43 (a.tmps.getD 88 undef) w) : ∃ v w', (execOp a.eval o).run Try.prog w = .ok (.value v) w' ∧ Below w.heap.size w w' ∧ Pr k3 44 v w' := by
  obtain ⟨x0, y0, z0, e0, s0⟩ := d42
  obtain ⟨x1, y1, z1, e1, s1⟩ := d43
  have v0 : a.eval (.tmp 87) = .slice x0 y0 z0 := e0
  have v1 : a.eval (.tmp 88) = .slice x1 y1 z1 := e1
  refine ⟨.agg #[.int .i64 1, .int .i64 1, .slice x0 y0 z0, .slice x1 y1 z1], w, ?_, Below.refl _ _, ⟨_, _, _, _, _, _, rfl, ⟨_, _, rfl, s0, s1⟩⟩⟩
  have hcst : ∀ v, a.eval (.const v) = v := fun v => rfl
  generalize a.eval = ρ at *
  unfold execOp
  rw [hop]
  simp [go_sem, v0, v1, hcst]
theorem ex11_45 {k3 : Nat} {a : Act} {w : World} {o : Oper} (hop : o.op = .buildSlice 45 14 #[(0, .tmp 45), (1, .tmp 46), (2, .tmp 48), (3, .tmp 51), (4, .tmp 54), (5, .tmp 57), (6, .tmp 61), (7, .tmp 65), (8, .tmp 69), (9, .tmp 73), (10, .tmp 77), (11, .tmp 81), (12, .tmp 85), (13, .tmp 89)]) (d0 : Pr k3 0 (a.tmps.getD 45 undef) w) (d1 : Pr k3 1 (a.tmps.getD 46 undef) w) (d3 : Pr k3 3 (a.tmps.getD 48 undef) w) (d6 : Pr k3 6 (a.tmps.getD 51 undef) w) (d9 : Pr k3 9 (a.tmps.getD 54 undef) w) (d12 : Pr k3 12 (a.tmps.getD 57 undef) w) (d16 : Pr k3 16 (a.tmps.getD 61 undef) w) (d20 : Pr k3 20 (a.tmps.getD 65 undef) w) (d24 : Pr k3 24 (a.tmps.getD 69 undef) w) (d28 : Pr k3 28 (a.tmps.getD 73 undef) w) (d32 : Pr k3 32 (a.tmps.getD 77 undef) w) (d36 : Pr k3 36 (a.tmps.getD 81 undef) w) (d40 : Pr k3 40 (a.tmps.getD 85 undef) w) (d44 : Pr k3 44 (a.tmps.getD 89 undef) w) : ∃ v w', (execOp a.eval o).run Try.prog w = .ok (.value v) w' ∧ Below w.heap.size w w' ∧ Pr k3 45 v w' := by
  obtain ⟨x0, y0, z0, x'0, y'0, z'0, e0, s0⟩ := d0
  have v0 : a.eval (.tmp 45) = _ := e0
  obtain ⟨x1, y1, z1, x'1, y'1, z'1, e1, s1⟩ := d1
  have v1 : a.eval (.tmp 46) = _ := e1
  obtain ⟨x2, y2, z2, x'2, y'2, z'2, e2, s2⟩ := d3
  have v2 : a.eval (.tmp 48) = _ := e2
  obtain ⟨x3, y3, z3, x'3, y'3, z'3, e3, s3⟩ := d6
  have v3 : a.eval (.tmp 51) = _ := e3
  obtain ⟨x4, y4, z4, x'4, y'4, z'4, e4, s4⟩ := d9
  have v4 : a.eval (.tmp 54) = _ := e4
  obtain ⟨x5, y5, z5, x'5, y'5, z'5, e5, s5⟩ := d12
  have v5 : a.eval (.tmp 57) = _ := e5
  obtain ⟨x6, y6, z6, x'6, y'6, z'6, e6, s6⟩ := d16
  have v6 : a.eval (.tmp 61) = _ := e6
  obtain ⟨x7, y7, z7, x'7, y'7, z'7, e7, s7⟩ := d20
  have v7 : a.eval (.tmp 65) = _ := e7
  obtain ⟨x8, y8, z8, x'8, y'8, z'8, e8, s8⟩ := d24
  have v8 : a.eval (.tmp 69) = _ := e8
  obtain ⟨x9, y9, z9, x'9, y'9, z'9, e9, s9⟩ := d28
  have v9 : a.eval (.tmp 73) = _ := e9
  obtain ⟨x10, y10, z10, x'10, y'10, z'10, e10, s10⟩ := d32
  have v10 : a.eval (.tmp 77) = _ := e10
  obtain ⟨x11, y11, z11, x'11, y'11, z'11, e11, s11⟩ := d36
  have v11 : a.eval (.tmp 81) = _ := e11
  obtain ⟨x12, y12, z12, x'12, y'12, z'12, e12, s12⟩ := d40
  have v12 : a.eval (.tmp 85) = _ := e12
  obtain ⟨x13, y13, z13, x'13, y'13, z'13, e13, s13⟩ := d44
  have v13 : a.eval (.tmp 89) = _ := e13
  have hb := below_one (Below.refl _ w) (.cells #[.int .i64 0, .int .i64 0, .slice x0 y0 z0, .slice x'0 y'0 z'0, .int .i64 1, .int .i64 1, .slice x1 y1 z1, .slice x'1 y'1 z'1, .int .i64 9, .int .i64 1, .slice x2 y2 z2, .slice x'2 y'2 z'2, .int .i64 1, .int .i64 0, .slice x3 y3 z3, .slice x'3 y'3 z'3, .int .i64 1, .int .i64 1025, .slice x4 y4 z4, .slice x'4 y'4 z'4, .int .i64 1, .int .i64 1, .slice x5 y5 z5, .slice x'5 y'5 z'5, .int .i64 1, .int .i64 1, .slice x6 y6 z6, .slice x'6 y'6 z'6, .int .i64 1, .int .i64 1, .slice x7 y7 z7, .slice x'7 y'7 z'7, .int .i64 1, .int .i64 1, .slice x8 y8 z8, .slice x'8 y'8 z'8, .int .i64 1, .int .i64 1, .slice x9 y9 z9, .slice x'9 y'9 z'9, .int .i64 1, .int .i64 1, .slice x10 y10 z10, .slice x'10 y'10 z'10, .int .i64 1, .int .i64 1, .slice x11 y11 z11, .slice x'11 y'11 z'11, .int .i64 1, .int .i64 1, .slice x12 y12 z12, .slice x'12 y'12 z'12, .int .i64 1, .int .i64 1, .slice x13 y13 z13, .slice x'13 y'13 z'13] 25)
  refine ⟨.slice (some ⟨w.heap.size, 0, none⟩) 14 14, w.alloc (.cells #[.int .i64 0, .int .i64 0, .slice x0 y0 z0, .slice x'0 y'0 z'0, .int .i64 1, .int .i64 1, .slice x1 y1 z1, .slice x'1 y'1 z'1, .int .i64 9, .int .i64 1, .slice x2 y2 z2, .slice x'2 y'2 z'2, .int .i64 1, .int .i64 0, .slice x3 y3 z3, .slice x'3 y'3 z'3, .int .i64 1, .int .i64 1025, .slice x4 y4 z4, .slice x'4 y'4 z'4, .int .i64 1, .int .i64 1, .slice x5 y5 z5, .slice x'5 y'5 z'5, .int .i64 1, .int .i64 1, .slice x6 y6 z6, .slice x'6 y'6 z'6, .int .i64 1, .int .i64 1, .slice x7 y7 z7, .slice x'7 y'7 z'7, .int .i64 1, .int .i64 1, .slice x8 y8 z8, .slice x'8 y'8 z'8, .int .i64 1, .int .i64 1, .slice x9 y9 z9, .slice x'9 y'9 z'9, .int .i64 1, .int .i64 1, .slice x10 y10 z10, .slice x'10 y'10 z'10, .int .i64 1, .int .i64 1, .slice x11 y11 z11, .slice x'11 y'11 z'11, .int .i64 1, .int .i64 1, .slice x12 y12 z12, .slice x'12 y'12 z'12, .int .i64 1, .int .i64 1, .slice x13 y13 z13, .slice x'13 y'13 z'13] 25), ?_, hb, w.heap.size, rfl, fun i hi => ?_⟩
  · have hcst : ∀ v, a.eval (.const v) = v := fun v => rfl
    generalize a.eval = ρ at *
    unfold execOp
    rw [hop]
    simp [go_sem, v0, v1, v2, v3, v4, v5, v6, v7, v8, v9, v10, v11, v12, v13]
  · have hi14 : i < 14 := hi
    match i, hi14 with
    | 0, _ => exact ⟨_, _, _, _, cell_new _ _ _ _, cell_new _ _ _ _, cell_new _ _ _ _, cell_new _ _ _ _, ⟨_, _, _, _, _, _, rfl, s0.below hb⟩⟩
    | 1, _ => exact ⟨_, _, _, _, cell_new _ _ _ _, cell_new _ _ _ _, cell_new _ _ _ _, cell_new _ _ _ _, ⟨_, _, _, _, _, _, rfl, s1.below hb⟩⟩
    | 2, _ => exact ⟨_, _, _, _, cell_new _ _ _ _, cell_new _ _ _ _, cell_new _ _ _ _, cell_new _ _ _ _, ⟨_, _, _, _, _, _, rfl, s2.below hb⟩⟩
    | 3, _ => exact ⟨_, _, _, _, cell_new _ _ _ _, cell_new _ _ _ _, cell_new _ _ _ _, cell_new _ _ _ _, ⟨_, _, _, _, _, _, rfl, s3.below hb⟩⟩
    | 4, _ => exact ⟨_, _, _, _, cell_new _ _ _ _, cell_new _ _ _ _, cell_new _ _ _ _, cell_new _ _ _ _, ⟨_, _, _, _, _, _, rfl, s4.below hb⟩⟩
    | 5, _ => exact ⟨_, _, _, _, cell_new _ _ _ _, cell_new _ _ _ _, cell_new _ _ _ _, cell_new _ _ _ _, ⟨_, _, _, _, _, _, rfl, s5.below hb⟩⟩
    | 6, _ => exact ⟨_, _, _, _, cell_new _ _ _ _, cell_new _ _ _ _, cell_new _ _ _ _, cell_new _ _ _ _, ⟨_, _, _, _, _, _, rfl, s6.below hb⟩⟩
    | 7, _ => exact ⟨_, _, _, _, cell_new _ _ _ _, cell_new _ _ _ _, cell_new _ _ _ _, cell_new _ _ _ _, ⟨_, _, _, _, _, _, rfl, s7.below hb⟩⟩
    | 8, _ => exact ⟨_, _, _, _, cell_new _ _ _ _, cell_new _ _ _ _, cell_new _ _ _ _, cell_new _ _ _ _, ⟨_, _, _, _, _, _, rfl, s8.below hb⟩⟩
    | 9, _ => exact ⟨_, _, _, _, cell_new _ _ _ _, cell_new _ _ _ _, cell_new _ _ _ _, cell_new _ _ _ _, ⟨_, _, _, _, _, _, rfl, s9.below hb⟩⟩
    | 10, _ => exact ⟨_, _, _, _, cell_new _ _ _ _, cell_new _ _ _ _, cell_new _ _ _ _, cell_new _ _ _ _, ⟨_, _, _, _, _, _, rfl, s10.below hb⟩⟩
    | 11, _ => exact ⟨_, _, _, _, cell_new _ _ _ _, cell_new _ _ _ _, cell_new _ _ _ _, cell_new _ _ _ _, ⟨_, _, _, _, _, _, rfl, s11.below hb⟩⟩
    | 12, _ => exact ⟨_, _, _, _, cell_new _ _ _ _, cell_new _ _ _ _, cell_new _ _ _ _, cell_new _ _ _ _, ⟨_, _, _, _, _, _, rfl, s12.below hb⟩⟩
    | 13, _ => exact ⟨_, _, _, _, cell_new _ _ _ _, cell_new _ _ _ _, cell_new _ _ _ _, cell_new _ _ _ _, ⟨_, _, _, _, _, _, rfl, s13.below hb⟩⟩
theorem ex11_46 {k3 : Nat} {a : Act} {w : World} {o : Oper} (hop : o.op = .assign (.tmp 90)) (d45 : Pr k3 45 (a.tmps.getD 90 undef) w) : ∃ v w', (execOp a.eval o).run Try.prog w = .ok (.value v) w' ∧ Below w.heap.size w w' ∧ Pr k3 46 v w' := by
  have v0 : a.eval (.tmp 90) = a.tmps.getD 90 undef := rfl
  refine ⟨a.tmps.getD 90 undef, w, ?_, Below.refl _ _, d45⟩
  have hcst : ∀ v, a.eval (.const v) = v := fun v => rfl
  generalize a.eval = ρ at *
  unfold execOp
  rw [hop]
  simp [go_sem, v0]
/-- a region's operations wait only for earlier ones: so where none is ready all have come up -/
theorem waits : (List.range 47).all (fun i => ((ops11[i]?).map fun o => o.after.all fun e => decide (e.on < i)).getD false) = true := by kernel_rfl
theorem all_listed {listed : Array Bool} (hr : Region.ready .any ops11 listed = []) (hsz : listed.size = 47) : ∀ i, i < 47 → listed.getD i false = true := by
  intro i
  induction i using Nat.strongRecOn with
  | _ i ih =>
    intro hi
    have hw := List.all_eq_true.1 waits i (by simpa using hi)
    cases ho : ops11[i]? with
    | none => simp [ho] at hw
    | some o =>
      simp only [ho, Option.map_some, Option.getD_some] at hw
      by_cases hl : listed.getD i true = true
      · rw [Array.getD_eq_getD_getElem?] at hl ⊢
        rw [Array.getElem?_eq_getElem (by omega)] at hl ⊢
        simpa using hl
      · exfalso
        have hin : i ∈ Region.ready .any ops11 listed := by
          unfold Region.ready
          rw [List.mem_filter, size11]
          refine ⟨by simpa using hi, ?_⟩
          rw [ho]
          simp only [Option.map_some, Option.getD_some, Bool.and_eq_true]
          refine ⟨by simpa using hl, ?_⟩
          rw [Array.all_eq_true_iff_forall_mem] at hw ⊢
          intro e he
          have h1 : e.on < i := by simpa using hw e he
          rw [ih e.on h1 (by omega)]
          simp
        rw [hr] at hin
        cases hin
theorem region11 {Q : Exit → Act → World → Prop} {a0 : Act} {W0 : World} {k3 : Nat} {a1 : Option Addr} {n1 c1 : Nat} (hsz : a0.tmps.size = 164) (h3 : a0.tmps.getD 3 undef = .pointer (some ⟨k3, 0, none⟩))
    (hc : W0.cell? ⟨k3, 2, none⟩ = some (.slice a1 n1 c1)) (hs : ShowLists W0 (.slice a1 n1 c1) [[]])
    (hend : ∀ a w, Below W0.heap.size W0 w → a.defers = a0.defers → a.tmps.size = 164 → (∀ s, s ≠ 4 → ¬ (45 ≤ s ∧ s ≤ 90) → a.tmps.getD s undef = a0.tmps.getD s undef) → PBads (a.tmps.getD 4 undef) w → Q .normal a w) :
    (Code.region 11 ops11 true).wp Try.prog Q a0 W0 := by
  refine wp_region_inv (Inv := Inv11 k3 a0 W0) (by kernel_rfl) (fun l a w h => h.1.trans size11.symm) ?_ ?_ ?_
  · intro listed a w i hr hI
    obtain ⟨hi, _, o', ho', hall⟩ := ready_spec hr
    rw [size11] at hi
    have hI' := hI
    obtain ⟨h1, h2, h3', h4, h5, h6⟩ := hI'
    have hp3 : a.tmps.getD 3 undef = .pointer (some ⟨k3, 0, none⟩) := (h5 3 (by decide) (by decide)).trans h3
    have hcw := cell_keep h2 hc
    have hsw := hs.below h2
    match i, hi with
    | 0, hi =>
      obtain ⟨o, ho, hm⟩ := Option.map_eq_some_iff.1 op11_0
      simp only [Prod.mk.injEq] at hm
      obtain ⟨hd, hop, hg, hn⟩ := hm
      obtain rfl : o = o' := Option.some.inj (ho.symm.trans ho')
      obtain ⟨v, w', e1, e2, e3⟩ := ex11_0 (k3 := k3) hop
      exact step11 0 hi ho hd hg hI v w' e1 e2 e3
    | 1, hi =>
      obtain ⟨o, ho, hm⟩ := Option.map_eq_some_iff.1 op11_1
      simp only [Prod.mk.injEq] at hm
      obtain ⟨hd, hop, hg, hn⟩ := hm
      obtain rfl : o = o' := Option.some.inj (ho.symm.trans ho')
      obtain ⟨v, w', e1, e2, e3⟩ := ex11_1 (k3 := k3) hop
      exact step11 1 hi ho hd hg hI v w' e1 e2 e3
    | 2, hi =>
      obtain ⟨o, ho, hm⟩ := Option.map_eq_some_iff.1 op11_2
      simp only [Prod.mk.injEq] at hm
      obtain ⟨hd, hop, hg, hn⟩ := hm
      obtain rfl : o = o' := Option.some.inj (ho.symm.trans ho')
      obtain ⟨v, w', e1, e2, e3⟩ := ex11_2 (k3 := k3) hop
      exact step11 2 hi ho hd hg hI v w' e1 e2 e3
    | 3, hi =>
      obtain ⟨o, ho, hm⟩ := Option.map_eq_some_iff.1 op11_3
      simp only [Prod.mk.injEq] at hm
      obtain ⟨hd, hop, hg, hn⟩ := hm
      obtain rfl : o = o' := Option.some.inj (ho.symm.trans ho')
      simp only [List.all_cons, List.all_nil, Bool.and_true, Bool.and_eq_true] at hn
      have d0 := h6 2 (by decide) (need_of hall hn)
      obtain ⟨v, w', e1, e2, e3⟩ := ex11_3 (k3 := k3) hop d0
      exact step11 3 hi ho hd hg hI v w' e1 e2 e3
    | 4, hi =>
      obtain ⟨o, ho, hm⟩ := Option.map_eq_some_iff.1 op11_4
      simp only [Prod.mk.injEq] at hm
      obtain ⟨hd, hop, hg, hn⟩ := hm
      obtain rfl : o = o' := Option.some.inj (ho.symm.trans ho')
      obtain ⟨v, w', e1, e2, e3⟩ := ex11_4 (k3 := k3) hop hp3
      exact step11 4 hi ho hd hg hI v w' e1 e2 e3
    | 5, hi =>
      obtain ⟨o, ho, hm⟩ := Option.map_eq_some_iff.1 op11_5
      simp only [Prod.mk.injEq] at hm
      obtain ⟨hd, hop, hg, hn⟩ := hm
      obtain rfl : o = o' := Option.some.inj (ho.symm.trans ho')
      simp only [List.all_cons, List.all_nil, Bool.and_true, Bool.and_eq_true] at hn
      have d0 := h6 4 (by decide) (need_of hall hn)
      obtain ⟨v, w', e1, e2, e3⟩ := ex11_5 (k3 := k3) hop d0 a1 n1 c1 hcw hsw
      exact step11 5 hi ho hd hg hI v w' e1 e2 e3
    | 6, hi =>
      obtain ⟨o, ho, hm⟩ := Option.map_eq_some_iff.1 op11_6
      simp only [Prod.mk.injEq] at hm
      obtain ⟨hd, hop, hg, hn⟩ := hm
      obtain rfl : o = o' := Option.some.inj (ho.symm.trans ho')
      simp only [List.all_cons, List.all_nil, Bool.and_true, Bool.and_eq_true] at hn
      have d0 := h6 5 (by decide) (need_of hall hn)
      obtain ⟨v, w', e1, e2, e3⟩ := ex11_6 (k3 := k3) hop d0
      exact step11 6 hi ho hd hg hI v w' e1 e2 e3
    | 7, hi =>
      obtain ⟨o, ho, hm⟩ := Option.map_eq_some_iff.1 op11_7
      simp only [Prod.mk.injEq] at hm
      obtain ⟨hd, hop, hg, hn⟩ := hm
      obtain rfl : o = o' := Option.some.inj (ho.symm.trans ho')
      obtain ⟨v, w', e1, e2, e3⟩ := ex11_7 (k3 := k3) hop hp3
      exact step11 7 hi ho hd hg hI v w' e1 e2 e3
    | 8, hi =>
      obtain ⟨o, ho, hm⟩ := Option.map_eq_some_iff.1 op11_8
      simp only [Prod.mk.injEq] at hm
      obtain ⟨hd, hop, hg, hn⟩ := hm
      obtain rfl : o = o' := Option.some.inj (ho.symm.trans ho')
      simp only [List.all_cons, List.all_nil, Bool.and_true, Bool.and_eq_true] at hn
      have d0 := h6 7 (by decide) (need_of hall hn)
      obtain ⟨v, w', e1, e2, e3⟩ := ex11_8 (k3 := k3) hop d0 a1 n1 c1 hcw hsw
      exact step11 8 hi ho hd hg hI v w' e1 e2 e3
    | 9, hi =>
      obtain ⟨o, ho, hm⟩ := Option.map_eq_some_iff.1 op11_9
      simp only [Prod.mk.injEq] at hm
      obtain ⟨hd, hop, hg, hn⟩ := hm
      obtain rfl : o = o' := Option.some.inj (ho.symm.trans ho')
      simp only [List.all_cons, List.all_nil, Bool.and_true, Bool.and_eq_true] at hn
      have d0 := h6 8 (by decide) (need_of hall hn)
      obtain ⟨v, w', e1, e2, e3⟩ := ex11_9 (k3 := k3) hop d0
      exact step11 9 hi ho hd hg hI v w' e1 e2 e3
    | 10, hi =>
      obtain ⟨o, ho, hm⟩ := Option.map_eq_some_iff.1 op11_10
      simp only [Prod.mk.injEq] at hm
      obtain ⟨hd, hop, hg, hn⟩ := hm
      obtain rfl : o = o' := Option.some.inj (ho.symm.trans ho')
      obtain ⟨v, w', e1, e2, e3⟩ := ex11_10 (k3 := k3) hop
      exact step11 10 hi ho hd hg hI v w' e1 e2 e3
    | 11, hi =>
      obtain ⟨o, ho, hm⟩ := Option.map_eq_some_iff.1 op11_11
      simp only [Prod.mk.injEq] at hm
      obtain ⟨hd, hop, hg, hn⟩ := hm
      obtain rfl : o = o' := Option.some.inj (ho.symm.trans ho')
      simp only [List.all_cons, List.all_nil, Bool.and_true, Bool.and_eq_true] at hn
      have d0 := h6 10 (by decide) (need_of hall hn)
      obtain ⟨v, w', e1, e2, e3⟩ := ex11_11 (k3 := k3) hop d0
      exact step11 11 hi ho hd hg hI v w' e1 e2 e3
    | 12, hi =>
      obtain ⟨o, ho, hm⟩ := Option.map_eq_some_iff.1 op11_12
      simp only [Prod.mk.injEq] at hm
      obtain ⟨hd, hop, hg, hn⟩ := hm
      obtain rfl : o = o' := Option.some.inj (ho.symm.trans ho')
      simp only [List.all_cons, List.all_nil, Bool.and_true, Bool.and_eq_true] at hn
      have d0 := h6 11 (by decide) (need_of hall hn)
      obtain ⟨v, w', e1, e2, e3⟩ := ex11_12 (k3 := k3) hop d0
      exact step11 12 hi ho hd hg hI v w' e1 e2 e3
    | 13, hi =>
      obtain ⟨o, ho, hm⟩ := Option.map_eq_some_iff.1 op11_13
      simp only [Prod.mk.injEq] at hm
      obtain ⟨hd, hop, hg, hn⟩ := hm
      obtain rfl : o = o' := Option.some.inj (ho.symm.trans ho')
      obtain ⟨v, w', e1, e2, e3⟩ := ex11_13 (k3 := k3) hop
      exact step11 13 hi ho hd hg hI v w' e1 e2 e3
    | 14, hi =>
      obtain ⟨o, ho, hm⟩ := Option.map_eq_some_iff.1 op11_14
      simp only [Prod.mk.injEq] at hm
      obtain ⟨hd, hop, hg, hn⟩ := hm
      obtain rfl : o = o' := Option.some.inj (ho.symm.trans ho')
      simp only [List.all_cons, List.all_nil, Bool.and_true, Bool.and_eq_true] at hn
      have d0 := h6 13 (by decide) (need_of hall hn)
      obtain ⟨v, w', e1, e2, e3⟩ := ex11_14 (k3 := k3) hop d0
      exact step11 14 hi ho hd hg hI v w' e1 e2 e3
    | 15, hi =>
      obtain ⟨o, ho, hm⟩ := Option.map_eq_some_iff.1 op11_15
      simp only [Prod.mk.injEq] at hm
      obtain ⟨hd, hop, hg, hn⟩ := hm
      obtain rfl : o = o' := Option.some.inj (ho.symm.trans ho')
      simp only [List.all_cons, List.all_nil, Bool.and_true, Bool.and_eq_true] at hn
      have d0 := h6 14 (by decide) (need_of hall hn)
      obtain ⟨v, w', e1, e2, e3⟩ := ex11_15 (k3 := k3) hop d0
      exact step11 15 hi ho hd hg hI v w' e1 e2 e3
    | 16, hi =>
      obtain ⟨o, ho, hm⟩ := Option.map_eq_some_iff.1 op11_16
      simp only [Prod.mk.injEq] at hm
      obtain ⟨hd, hop, hg, hn⟩ := hm
      obtain rfl : o = o' := Option.some.inj (ho.symm.trans ho')
      simp only [List.all_cons, List.all_nil, Bool.and_true, Bool.and_eq_true] at hn
      have d0 := h6 15 (by decide) (need_of hall hn)
      obtain ⟨v, w', e1, e2, e3⟩ := ex11_16 (k3 := k3) hop d0
      exact step11 16 hi ho hd hg hI v w' e1 e2 e3
    | 17, hi =>
      obtain ⟨o, ho, hm⟩ := Option.map_eq_some_iff.1 op11_17
      simp only [Prod.mk.injEq] at hm
      obtain ⟨hd, hop, hg, hn⟩ := hm
      obtain rfl : o = o' := Option.some.inj (ho.symm.trans ho')
      obtain ⟨v, w', e1, e2, e3⟩ := ex11_17 (k3 := k3) hop
      exact step11 17 hi ho hd hg hI v w' e1 e2 e3
    | 18, hi =>
      obtain ⟨o, ho, hm⟩ := Option.map_eq_some_iff.1 op11_18
      simp only [Prod.mk.injEq] at hm
      obtain ⟨hd, hop, hg, hn⟩ := hm
      obtain rfl : o = o' := Option.some.inj (ho.symm.trans ho')
      simp only [List.all_cons, List.all_nil, Bool.and_true, Bool.and_eq_true] at hn
      have d0 := h6 17 (by decide) (need_of hall hn)
      obtain ⟨v, w', e1, e2, e3⟩ := ex11_18 (k3 := k3) hop d0
      exact step11 18 hi ho hd hg hI v w' e1 e2 e3
    | 19, hi =>
      obtain ⟨o, ho, hm⟩ := Option.map_eq_some_iff.1 op11_19
      simp only [Prod.mk.injEq] at hm
      obtain ⟨hd, hop, hg, hn⟩ := hm
      obtain rfl : o = o' := Option.some.inj (ho.symm.trans ho')
      simp only [List.all_cons, List.all_nil, Bool.and_true, Bool.and_eq_true] at hn
      have d0 := h6 18 (by decide) (need_of hall hn)
      obtain ⟨v, w', e1, e2, e3⟩ := ex11_19 (k3 := k3) hop d0
      exact step11 19 hi ho hd hg hI v w' e1 e2 e3
    | 20, hi =>
      obtain ⟨o, ho, hm⟩ := Option.map_eq_some_iff.1 op11_20
      simp only [Prod.mk.injEq] at hm
      obtain ⟨hd, hop, hg, hn⟩ := hm
      obtain rfl : o = o' := Option.some.inj (ho.symm.trans ho')
      simp only [List.all_cons, List.all_nil, Bool.and_true, Bool.and_eq_true] at hn
      have d0 := h6 19 (by decide) (need_of hall hn)
      obtain ⟨v, w', e1, e2, e3⟩ := ex11_20 (k3 := k3) hop d0
      exact step11 20 hi ho hd hg hI v w' e1 e2 e3
    | 21, hi =>
      obtain ⟨o, ho, hm⟩ := Option.map_eq_some_iff.1 op11_21
      simp only [Prod.mk.injEq] at hm
      obtain ⟨hd, hop, hg, hn⟩ := hm
      obtain rfl : o = o' := Option.some.inj (ho.symm.trans ho')
      obtain ⟨v, w', e1, e2, e3⟩ := ex11_21 (k3 := k3) hop
      exact step11 21 hi ho hd hg hI v w' e1 e2 e3
    | 22, hi =>
      obtain ⟨o, ho, hm⟩ := Option.map_eq_some_iff.1 op11_22
      simp only [Prod.mk.injEq] at hm
      obtain ⟨hd, hop, hg, hn⟩ := hm
      obtain rfl : o = o' := Option.some.inj (ho.symm.trans ho')
      simp only [List.all_cons, List.all_nil, Bool.and_true, Bool.and_eq_true] at hn
      have d0 := h6 21 (by decide) (need_of hall hn)
      obtain ⟨v, w', e1, e2, e3⟩ := ex11_22 (k3 := k3) hop d0
      exact step11 22 hi ho hd hg hI v w' e1 e2 e3
    | 23, hi =>
      obtain ⟨o, ho, hm⟩ := Option.map_eq_some_iff.1 op11_23
      simp only [Prod.mk.injEq] at hm
      obtain ⟨hd, hop, hg, hn⟩ := hm
      obtain rfl : o = o' := Option.some.inj (ho.symm.trans ho')
      simp only [List.all_cons, List.all_nil, Bool.and_true, Bool.and_eq_true] at hn
      have d0 := h6 22 (by decide) (need_of hall hn)
      obtain ⟨v, w', e1, e2, e3⟩ := ex11_23 (k3 := k3) hop d0
      exact step11 23 hi ho hd hg hI v w' e1 e2 e3
    | 24, hi =>
      obtain ⟨o, ho, hm⟩ := Option.map_eq_some_iff.1 op11_24
      simp only [Prod.mk.injEq] at hm
      obtain ⟨hd, hop, hg, hn⟩ := hm
      obtain rfl : o = o' := Option.some.inj (ho.symm.trans ho')
      simp only [List.all_cons, List.all_nil, Bool.and_true, Bool.and_eq_true] at hn
      have d0 := h6 23 (by decide) (need_of hall hn)
      obtain ⟨v, w', e1, e2, e3⟩ := ex11_24 (k3 := k3) hop d0
      exact step11 24 hi ho hd hg hI v w' e1 e2 e3
    | 25, hi =>
      obtain ⟨o, ho, hm⟩ := Option.map_eq_some_iff.1 op11_25
      simp only [Prod.mk.injEq] at hm
      obtain ⟨hd, hop, hg, hn⟩ := hm
      obtain rfl : o = o' := Option.some.inj (ho.symm.trans ho')
      obtain ⟨v, w', e1, e2, e3⟩ := ex11_25 (k3 := k3) hop
      exact step11 25 hi ho hd hg hI v w' e1 e2 e3
    | 26, hi =>
      obtain ⟨o, ho, hm⟩ := Option.map_eq_some_iff.1 op11_26
      simp only [Prod.mk.injEq] at hm
      obtain ⟨hd, hop, hg, hn⟩ := hm
      obtain rfl : o = o' := Option.some.inj (ho.symm.trans ho')
      simp only [List.all_cons, List.all_nil, Bool.and_true, Bool.and_eq_true] at hn
      have d0 := h6 25 (by decide) (need_of hall hn)
      obtain ⟨v, w', e1, e2, e3⟩ := ex11_26 (k3 := k3) hop d0
      exact step11 26 hi ho hd hg hI v w' e1 e2 e3
    | 27, hi =>
      obtain ⟨o, ho, hm⟩ := Option.map_eq_some_iff.1 op11_27
      simp only [Prod.mk.injEq] at hm
      obtain ⟨hd, hop, hg, hn⟩ := hm
      obtain rfl : o = o' := Option.some.inj (ho.symm.trans ho')
      simp only [List.all_cons, List.all_nil, Bool.and_true, Bool.and_eq_true] at hn
      have d0 := h6 26 (by decide) (need_of hall hn)
      obtain ⟨v, w', e1, e2, e3⟩ := ex11_27 (k3 := k3) hop d0
      exact step11 27 hi ho hd hg hI v w' e1 e2 e3
    | 28, hi =>
      obtain ⟨o, ho, hm⟩ := Option.map_eq_some_iff.1 op11_28
      simp only [Prod.mk.injEq] at hm
      obtain ⟨hd, hop, hg, hn⟩ := hm
      obtain rfl : o = o' := Option.some.inj (ho.symm.trans ho')
      simp only [List.all_cons, List.all_nil, Bool.and_true, Bool.and_eq_true] at hn
      have d0 := h6 27 (by decide) (need_of hall hn)
      obtain ⟨v, w', e1, e2, e3⟩ := ex11_28 (k3 := k3) hop d0
      exact step11 28 hi ho hd hg hI v w' e1 e2 e3
    | 29, hi =>
      obtain ⟨o, ho, hm⟩ := Option.map_eq_some_iff.1 op11_29
      simp only [Prod.mk.injEq] at hm
      obtain ⟨hd, hop, hg, hn⟩ := hm
      obtain rfl : o = o' := Option.some.inj (ho.symm.trans ho')
      obtain ⟨v, w', e1, e2, e3⟩ := ex11_29 (k3 := k3) hop
      exact step11 29 hi ho hd hg hI v w' e1 e2 e3
    | 30, hi =>
      obtain ⟨o, ho, hm⟩ := Option.map_eq_some_iff.1 op11_30
      simp only [Prod.mk.injEq] at hm
      obtain ⟨hd, hop, hg, hn⟩ := hm
      obtain rfl : o = o' := Option.some.inj (ho.symm.trans ho')
      simp only [List.all_cons, List.all_nil, Bool.and_true, Bool.and_eq_true] at hn
      have d0 := h6 29 (by decide) (need_of hall hn)
      obtain ⟨v, w', e1, e2, e3⟩ := ex11_30 (k3 := k3) hop d0
      exact step11 30 hi ho hd hg hI v w' e1 e2 e3
    | 31, hi =>
      obtain ⟨o, ho, hm⟩ := Option.map_eq_some_iff.1 op11_31
      simp only [Prod.mk.injEq] at hm
      obtain ⟨hd, hop, hg, hn⟩ := hm
      obtain rfl : o = o' := Option.some.inj (ho.symm.trans ho')
      simp only [List.all_cons, List.all_nil, Bool.and_true, Bool.and_eq_true] at hn
      have d0 := h6 30 (by decide) (need_of hall hn)
      obtain ⟨v, w', e1, e2, e3⟩ := ex11_31 (k3 := k3) hop d0
      exact step11 31 hi ho hd hg hI v w' e1 e2 e3
    | 32, hi =>
      obtain ⟨o, ho, hm⟩ := Option.map_eq_some_iff.1 op11_32
      simp only [Prod.mk.injEq] at hm
      obtain ⟨hd, hop, hg, hn⟩ := hm
      obtain rfl : o = o' := Option.some.inj (ho.symm.trans ho')
      simp only [List.all_cons, List.all_nil, Bool.and_true, Bool.and_eq_true] at hn
      have d0 := h6 31 (by decide) (need_of hall hn)
      obtain ⟨v, w', e1, e2, e3⟩ := ex11_32 (k3 := k3) hop d0
      exact step11 32 hi ho hd hg hI v w' e1 e2 e3
    | 33, hi =>
      obtain ⟨o, ho, hm⟩ := Option.map_eq_some_iff.1 op11_33
      simp only [Prod.mk.injEq] at hm
      obtain ⟨hd, hop, hg, hn⟩ := hm
      obtain rfl : o = o' := Option.some.inj (ho.symm.trans ho')
      obtain ⟨v, w', e1, e2, e3⟩ := ex11_33 (k3 := k3) hop hp3
      exact step11 33 hi ho hd hg hI v w' e1 e2 e3
    | 34, hi =>
      obtain ⟨o, ho, hm⟩ := Option.map_eq_some_iff.1 op11_34
      simp only [Prod.mk.injEq] at hm
      obtain ⟨hd, hop, hg, hn⟩ := hm
      obtain rfl : o = o' := Option.some.inj (ho.symm.trans ho')
      simp only [List.all_cons, List.all_nil, Bool.and_true, Bool.and_eq_true] at hn
      have d0 := h6 33 (by decide) (need_of hall hn)
      obtain ⟨v, w', e1, e2, e3⟩ := ex11_34 (k3 := k3) hop d0 a1 n1 c1 hcw hsw
      exact step11 34 hi ho hd hg hI v w' e1 e2 e3
    | 35, hi =>
      obtain ⟨o, ho, hm⟩ := Option.map_eq_some_iff.1 op11_35
      simp only [Prod.mk.injEq] at hm
      obtain ⟨hd, hop, hg, hn⟩ := hm
      obtain rfl : o = o' := Option.some.inj (ho.symm.trans ho')
      obtain ⟨v, w', e1, e2, e3⟩ := ex11_35 (k3 := k3) hop
      exact step11 35 hi ho hd hg hI v w' e1 e2 e3
    | 36, hi =>
      obtain ⟨o, ho, hm⟩ := Option.map_eq_some_iff.1 op11_36
      simp only [Prod.mk.injEq] at hm
      obtain ⟨hd, hop, hg, hn⟩ := hm
      obtain rfl : o = o' := Option.some.inj (ho.symm.trans ho')
      simp only [List.all_cons, List.all_nil, Bool.and_true, Bool.and_eq_true] at hn
      have d0 := h6 34 (by decide) (need_of hall hn.1)
      have d1 := h6 35 (by decide) (need_of hall hn.2)
      obtain ⟨v, w', e1, e2, e3⟩ := ex11_36 (k3 := k3) hop d0 d1
      exact step11 36 hi ho hd hg hI v w' e1 e2 e3
    | 37, hi =>
      obtain ⟨o, ho, hm⟩ := Option.map_eq_some_iff.1 op11_37
      simp only [Prod.mk.injEq] at hm
      obtain ⟨hd, hop, hg, hn⟩ := hm
      obtain rfl : o = o' := Option.some.inj (ho.symm.trans ho')
      obtain ⟨v, w', e1, e2, e3⟩ := ex11_37 (k3 := k3) hop hp3
      exact step11 37 hi ho hd hg hI v w' e1 e2 e3
    | 38, hi =>
      obtain ⟨o, ho, hm⟩ := Option.map_eq_some_iff.1 op11_38
      simp only [Prod.mk.injEq] at hm
      obtain ⟨hd, hop, hg, hn⟩ := hm
      obtain rfl : o = o' := Option.some.inj (ho.symm.trans ho')
      simp only [List.all_cons, List.all_nil, Bool.and_true, Bool.and_eq_true] at hn
      have d0 := h6 37 (by decide) (need_of hall hn)
      obtain ⟨v, w', e1, e2, e3⟩ := ex11_38 (k3 := k3) hop d0 a1 n1 c1 hcw hsw
      exact step11 38 hi ho hd hg hI v w' e1 e2 e3
    | 39, hi =>
      obtain ⟨o, ho, hm⟩ := Option.map_eq_some_iff.1 op11_39
      simp only [Prod.mk.injEq] at hm
      obtain ⟨hd, hop, hg, hn⟩ := hm
      obtain rfl : o = o' := Option.some.inj (ho.symm.trans ho')
      obtain ⟨v, w', e1, e2, e3⟩ := ex11_39 (k3 := k3) hop
      exact step11 39 hi ho hd hg hI v w' e1 e2 e3
    | 40, hi =>
      obtain ⟨o, ho, hm⟩ := Option.map_eq_some_iff.1 op11_40
      simp only [Prod.mk.injEq] at hm
      obtain ⟨hd, hop, hg, hn⟩ := hm
      obtain rfl : o = o' := Option.some.inj (ho.symm.trans ho')
      simp only [List.all_cons, List.all_nil, Bool.and_true, Bool.and_eq_true] at hn
      have d0 := h6 38 (by decide) (need_of hall hn.1)
      have d1 := h6 39 (by decide) (need_of hall hn.2)
      obtain ⟨v, w', e1, e2, e3⟩ := ex11_40 (k3 := k3) hop d0 d1
      exact step11 40 hi ho hd hg hI v w' e1 e2 e3
    | 41, hi =>
      obtain ⟨o, ho, hm⟩ := Option.map_eq_some_iff.1 op11_41
      simp only [Prod.mk.injEq] at hm
      obtain ⟨hd, hop, hg, hn⟩ := hm
      obtain rfl : o = o' := Option.some.inj (ho.symm.trans ho')
      obtain ⟨v, w', e1, e2, e3⟩ := ex11_41 (k3 := k3) hop hp3
      exact step11 41 hi ho hd hg hI v w' e1 e2 e3
    | 42, hi =>
      obtain ⟨o, ho, hm⟩ := Option.map_eq_some_iff.1 op11_42
      simp only [Prod.mk.injEq] at hm
      obtain ⟨hd, hop, hg, hn⟩ := hm
      obtain rfl : o = o' := Option.some.inj (ho.symm.trans ho')
      simp only [List.all_cons, List.all_nil, Bool.and_true, Bool.and_eq_true] at hn
      have d0 := h6 41 (by decide) (need_of hall hn)
      obtain ⟨v, w', e1, e2, e3⟩ := ex11_42 (k3 := k3) hop d0 a1 n1 c1 hcw hsw
      exact step11 42 hi ho hd hg hI v w' e1 e2 e3
    | 43, hi =>
      obtain ⟨o, ho, hm⟩ := Option.map_eq_some_iff.1 op11_43
      simp only [Prod.mk.injEq] at hm
      obtain ⟨hd, hop, hg, hn⟩ := hm
      obtain rfl : o = o' := Option.some.inj (ho.symm.trans ho')
      obtain ⟨v, w', e1, e2, e3⟩ := ex11_43 (k3 := k3) hop
      exact step11 43 hi ho hd hg hI v w' e1 e2 e3
    | 44, hi =>
      obtain ⟨o, ho, hm⟩ := Option.map_eq_some_iff.1 op11_44
      simp only [Prod.mk.injEq] at hm
      obtain ⟨hd, hop, hg, hn⟩ := hm
      obtain rfl : o = o' := Option.some.inj (ho.symm.trans ho')
      simp only [List.all_cons, List.all_nil, Bool.and_true, Bool.and_eq_true] at hn
      have d0 := h6 42 (by decide) (need_of hall hn.1)
      have d1 := h6 43 (by decide) (need_of hall hn.2)
      obtain ⟨v, w', e1, e2, e3⟩ := ex11_44 (k3 := k3) hop d0 d1
      exact step11 44 hi ho hd hg hI v w' e1 e2 e3
    | 45, hi =>
      obtain ⟨o, ho, hm⟩ := Option.map_eq_some_iff.1 op11_45
      simp only [Prod.mk.injEq] at hm
      obtain ⟨hd, hop, hg, hn⟩ := hm
      obtain rfl : o = o' := Option.some.inj (ho.symm.trans ho')
      simp only [List.all_cons, List.all_nil, Bool.and_true, Bool.and_eq_true] at hn
      have d0 := h6 0 (by decide) (need_of hall hn.1)
      have d1 := h6 1 (by decide) (need_of hall hn.2.1)
      have d2 := h6 3 (by decide) (need_of hall hn.2.2.1)
      have d3 := h6 6 (by decide) (need_of hall hn.2.2.2.1)
      have d4 := h6 9 (by decide) (need_of hall hn.2.2.2.2.1)
      have d5 := h6 12 (by decide) (need_of hall hn.2.2.2.2.2.1)
      have d6 := h6 16 (by decide) (need_of hall hn.2.2.2.2.2.2.1)
      have d7 := h6 20 (by decide) (need_of hall hn.2.2.2.2.2.2.2.1)
      have d8 := h6 24 (by decide) (need_of hall hn.2.2.2.2.2.2.2.2.1)
      have d9 := h6 28 (by decide) (need_of hall hn.2.2.2.2.2.2.2.2.2.1)
      have d10 := h6 32 (by decide) (need_of hall hn.2.2.2.2.2.2.2.2.2.2.1)
      have d11 := h6 36 (by decide) (need_of hall hn.2.2.2.2.2.2.2.2.2.2.2.1)
      have d12 := h6 40 (by decide) (need_of hall hn.2.2.2.2.2.2.2.2.2.2.2.2.1)
      have d13 := h6 44 (by decide) (need_of hall hn.2.2.2.2.2.2.2.2.2.2.2.2.2)
      obtain ⟨v, w', e1, e2, e3⟩ := ex11_45 (k3 := k3) hop d0 d1 d2 d3 d4 d5 d6 d7 d8 d9 d10 d11 d12 d13
      exact step11 45 hi ho hd hg hI v w' e1 e2 e3
    | 46, hi =>
      obtain ⟨o, ho, hm⟩ := Option.map_eq_some_iff.1 op11_46
      simp only [Prod.mk.injEq] at hm
      obtain ⟨hd, hop, hg, hn⟩ := hm
      obtain rfl : o = o' := Option.some.inj (ho.symm.trans ho')
      simp only [List.all_cons, List.all_nil, Bool.and_true, Bool.and_eq_true] at hn
      have d0 := h6 45 (by decide) (need_of hall hn)
      obtain ⟨v, w', e1, e2, e3⟩ := ex11_46 (k3 := k3) hop d0
      exact step11 46 hi ho hd hg hI v w' e1 e2 e3
  · intro listed a w hr hI
    obtain ⟨h1, h2, h3', h4, h5, h6⟩ := hI
    have hall : ∀ i, i < 47 → listed.getD i false = true := all_listed hr h1
    exact hend a w h2 h3' h4 h5 (h6 46 (by decide) (hall 46 (by decide)))
  · exact ⟨by rw [size11]; simp, ⟨rfl, rfl, rfl, Nat.le_refl _, fun _ _ => rfl⟩, rfl, hsz, fun _ _ _ => rfl, fun i hi h => by
      rw [Array.getD_eq_getD_getElem?] at h
      rw [Array.getElem?_replicate] at h
      split at h <;> cases h⟩
end Go.Proofs.Ytifkkblmcdggmaa
