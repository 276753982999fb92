/-
  Caches asked for, in a world; two of them compared; Spec of the program; the document's answers.
-/
import Derived.Test.YtondaafkpjmobaaDoorSearch
import Derived.StillTailTactics
set_option linter.unusedVariables false
set_option linter.unusedSimpArgs false
namespace Go.Proofs.YtondaafkpjmobaaDoor
open Go Go.RowKit

/-- stand still here -/
def Stop (p : Prop) : Prop := p
theorem Stop.mk {p : Prop} (h : Stop p) : p := h
abbrev Sp.arr (c : Sp) : Array Value := #[.int .i64 c.size, .int .i64 c.align, .int .i64 c.flags]
abbrev Sp.agg (c : Sp) : Value := .agg c.arr
abbrev SpAt (w : World) (K : Nat) (c : Sp) : Prop := w.heap[K]? = some (.cells c.arr 26 (0, 0))
abbrev sp0 : Obj := .cells #[.int .i64 0, .int .i64 0, .int .i64 0] 26
theorem infoC : (Tryd.prog.info? 26).map (·.size) = some 3 := by kernel_rfl
theorem underC : ∃ fs, Tryd.prog.underlying 26 = some (.struct fs) := ⟨Tryd.prog.fieldsOf 26, by kernel_rfl⟩
section
variable {w w' W : World} {K g : Nat} {c d : Sp} {S : Nat → Prop}
theorem SpAt.lt (h : SpAt w K c) : K < w.heap.size := lt_of_block h
theorem SpAt.cells (h : SpAt w K c) : w.cell? ⟨K, 0, none⟩ = some (.int .i64 c.size) ∧ w.cell? ⟨K, 1, none⟩ = some (.int .i64 c.align) ∧ w.cell? ⟨K, 2, none⟩ = some (.int .i64 c.flags) :=
  ⟨self_cell h 0 _ rfl, self_cell h 1 _ rfl, self_cell h 2 _ rfl⟩
theorem SpAt.below (h : SpAt w K c) (hb : Below w.heap.size w w') : SpAt w' K c := keep_block h hb
/-- what may change: a block that was not there -/
theorem below_one_kept (hb : Below W.heap.size W w) (h : Kept (· = g) w w') (hg : W.heap.size ≤ g) : Below W.heap.size W w' := below_kept hb h (by rintro k rfl; exact hg)
theorem wpList_storeC {ops : Array Oper} {rest : List Oper} {o : Oper} {a : Act} {Q : Exit → Act → World → Prop} (hgd : o.guard = none) (x y : Operand) (ho : o.op = .store 26 x y)
    (g : Nat) (c : Sp) (hx : a.eval x = .pointer (some ⟨g, 0, none⟩)) (hy : a.eval y = c.agg) (old : Array Value) (hg : w.heap[g]? = some (.cells old 26 (0, 0))) (hs : old.size = 3)
    (h : ∀ w', SpAt w' g c → Kept (· = g) w w' → wpList Tryd.prog ops Q rest (a.put o.dst undef) w') : wpList Tryd.prog ops Q (o :: rest) a w :=
  wpList_store_row hgd _ x y ho g c.arr hx hy _ old hg infoC hs (by simp [Value.oneCell']) (h _ (setRow_heap _ _ _ _ _ _ hg) ⟨rfl, rfl, rfl, by simp, fun k _ hn => setRow_other _ _ _ _ hn⟩)
theorem wpList_loadC {ops : Array Oper} {rest : List Oper} {o : Oper} {a : Act} {Q : Exit → Act → World → Prop} (hgd : o.guard = none) (x : Operand) (ho : o.op = .load 26 x)
    (g : Nat) (c : Sp) (hx : a.eval x = .pointer (some ⟨g, 0, none⟩)) (hg : SpAt w g c)
    (h : wpList Tryd.prog ops Q rest (a.put o.dst c.agg) w) : wpList Tryd.prog ops Q (o :: rest) a w := by
  obtain ⟨fs, hf⟩ := underC
  exact wpList_load_row hgd _ x ho g hx _ c.arr _ (.struct fs) hg hf rfl infoC h
/-! compared -/
theorem fieldsK : Tryd.prog.underlying 26 = some (.struct (Tryd.prog.fieldsOf 26)) := by kernel_rfl
theorem heldK : Tryd.prog.stoodInHeld 26 = false := by kernel_rfl
theorem guardK : Tryd.prog.eqGuardType Tryd.prog.depth 26 = false := by kernel_rfl
theorem fieldsOfK : Tryd.prog.fieldsOf 26 = #[⟨"Size", 3, 0, false, "", "", 0⟩, ⟨"Align", 3, 1, false, "", "", 8⟩, ⟨"Flags", 3, 2, false, "", "", 16⟩] := by kernel_rfl
theorem eqinK (w : World) (c d : Sp) : (Op.equalIn 10000 26 (.agg c.arr) (.agg d.arr)).run Tryd.prog w = .ok (decide (c = d)) w := by
  obtain ⟨a, b, f⟩ := c
  obtain ⟨a', b', f'⟩ := d
  rw [show (10000 : Nat) = 9999 + 1 from rfl, run_equalIn_agg _ _ _ _ _ fieldsK heldK, fieldsOfK]
  have e0 : ∀ x y w, (Op.equalIn 9999 3 (.int .i64 x) (.int .i64 y)).run Tryd.prog w = .ok (x == y) w := fun x y w => run_equalIn_int w 9998 3 .i64 .i64 x y Tryd.underlying3
  simp [Op.eqFields, go_sem, e0, part]
  by_cases h1 : a = a' <;> simp [h1]
  by_cases h2 : b = b' <;> simp [h2]
  by_cases h3 : f = f' <;> simp [h3]
theorem eqIs {q : Bool} (h : decide (c = d) = q) (w : World) : (Op.equalIn 10000 26 (.agg #[.int .i64 c.size, .int .i64 c.align, .int .i64 c.flags]) (.agg #[.int .i64 d.size, .int .i64 d.align, .int .i64 d.flags])).run Tryd.prog w = .ok q w := by rw [← h]; exact eqinK w c d
end
theorem zero_new (w : World) : SpAt (w.alloc sp0) w.heap.size zS := heap_new _ _
theorem res_spec {tmps : Array Value} {K : Nat} {w : World} {c : Sp} {e : Int} (h2 : tmps.getD 2 undef = .pointer (some ⟨K, 0, none⟩)) (h3 : tmps.getD 3 undef = .int .i64 e) (hb : SpAt w K c) :
    (results Tryd.f11 tmps).run Tryd.prog w = .ok (.tuple #[c.agg, .int .i64 e]) w := by
  obtain ⟨c0, c1, c2⟩ := hb.cells
  rw [Array.getD_eq_getD_getElem?] at h2 h3
  simp [results, Tryd.f11, h2, h3, c0, c1, c2, go_sem]
theorem res_rspec {tmps : Array Value} {K : Nat} {w : World} {c : Sp} {e : Int} (h2 : tmps.getD 2 undef = .pointer (some ⟨K, 0, none⟩)) (h3 : tmps.getD 3 undef = .int .i64 e) (hb : SpAt w K c) :
    (results Tryd.f12 tmps).run Tryd.prog w = .ok (.tuple #[c.agg, .int .i64 e]) w := by
  obtain ⟨c0, c1, c2⟩ := hb.cells
  rw [Array.getD_eq_getD_getElem?] at h2 h3
  simp [results, Tryd.f12, h2, h3, c0, c1, c2, go_sem]
theorem al_yes {s r : Int} (h0 : 0 ≤ s) (hr : s.tmod 16 = r) (h : r = 0) : alV s = 16 := by
  unfold alV
  rw [Int.tmod_eq_emod_of_nonneg h0] at hr
  rw [if_pos (by omega)]
theorem al_no {s r : Int} (h0 : 0 ≤ s) (hr : s.tmod 16 = r) (h : ¬ r = 0) : alV s = 8 := by
  unfold alV
  rw [Int.tmod_eq_emod_of_nonneg h0] at hr
  rw [if_neg (by omega)]
/-! ### Spec, of any Size -/
set_option maxHeartbeats 3000000 in
theorem cSpec (c : Int) (w : World) (ht : Tab w) :
    Calls Tryd.prog 11 #[.int .i64 c] w fun e w' => e = .returned (.tuple #[(spV c).agg, .int .i64 (siE c)]) ∧ Below w.heap.size w w' := by
  have hC := cSize c (w.alloc sp0) (ht.alloc _)
  rcases cases_in c with h | ⟨k, rfl, hk⟩
  · rw [sp_out h, (si_out h).2]
    rw [(si_out h).1, (si_out h).2] at hC
    have HC := Lib.hid hC
    clear hC h ht
    go_enter Tryd.func11, Tryd.ntmps11
    go_wp2_with fail
    refine HC.out.mono ?_
    rintro e w1 ⟨rfl, hb1⟩
    have HK1 := Lib.hid ((zero_new w).below hb1)
    have HL1 := Lib.hid (below_then (below_one (Below.refl _ _) _) hb1)
    clear hb1 HC
    go_wp2_with (refine wpList_storeC (by rfl) _ _ (by rfl) w.heap.size zS (by rfl) (by rfl) _ HK1.out rfl ?_; intro w5 h5 hk5)
    exact bodyPost_ret (res_spec rfl rfl h5) rfl ⟨rfl, below_one_kept HL1.out hk5 (Nat.le_refl _)⟩
  · rw [sp_in hk, (si_in hk).2]
    rw [(si_in hk).1, (si_in hk).2] at hC
    have hs := sz_range hk
    generalize sz k = s at *
    obtain ⟨s1, s2⟩ := hs
    obtain ⟨r, hr⟩ : ∃ r, s.tmod 16 = r := ⟨_, rfl⟩
    have HC := Lib.hid hC
    clear hC ht
    by_cases h0 : r = 0
    · have HA := Lib.hid (al_yes (by omega) hr h0)
      rw [HA.out]
      have hq : (r == 0) = true := by simpa using h0
      clear h0
      go_enter Tryd.func11, Tryd.ntmps11
      go_wp2_with fail
      refine HC.out.mono ?_
      rintro e w1 ⟨rfl, hb1⟩
      have HK1 := Lib.hid ((zero_new w).below hb1)
      have HL1 := Lib.hid (below_then (below_one (Below.refl _ _) _) hb1)
      clear hb1 HC
      go_wp2_with (refine wpList_storeC (by rfl) _ _ (by rfl) w.heap.size ⟨s, 16, 4⟩ (by rfl) (by rfl) _ HK1.out rfl ?_; intro w5 h5 hk5)
      exact bodyPost_ret (res_spec rfl rfl h5) rfl ⟨rfl, below_one_kept HL1.out hk5 (Nat.le_refl _)⟩
    · have HA := Lib.hid (al_no (by omega) hr h0)
      rw [HA.out]
      have hq : (r == 0) = false := by simpa using h0
      clear h0
      go_enter Tryd.func11, Tryd.ntmps11
      go_wp2_with fail
      refine HC.out.mono ?_
      rintro e w1 ⟨rfl, hb1⟩
      have HK1 := Lib.hid ((zero_new w).below hb1)
      have HL1 := Lib.hid (below_then (below_one (Below.refl _ _) _) hb1)
      clear hb1 HC
      go_wp2_with (refine wpList_storeC (by rfl) _ _ (by rfl) w.heap.size ⟨s, 8, 4⟩ (by rfl) (by rfl) _ HK1.out rfl ?_; intro w5 h5 hk5)
      exact bodyPost_ret (res_spec rfl rfl h5) rfl ⟨rfl, below_one_kept HL1.out hk5 (Nat.le_refl _)⟩
end Go.Proofs.YtondaafkpjmobaaDoor
