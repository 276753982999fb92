/-
  The program's lists of slabs: the map of those so far; by parts, by the shelf.
-/
import Derived.Test.YtnnfmlbgoplnaaaVw
import Derived.Maps.OwnSet
set_option linter.unusedVariables false
set_option linter.unusedSimpArgs false
namespace Go.Proofs.Ytnnfmlbgoplnaaa
open Go Go.RowKit
open Go.ChangeMaps (setBlock)

/-- Block b is a map that has these numbers. -/
def SetAt (w : World) (b : Nat) (l : List Int) : Prop := ∃ es clock, w.heap[b]? = some (.map es clock) ∧ es.toList.map (fun e => (e.key, e.val)) = l.map (fun x => (Value.int .i64 x, Value.agg #[]))
theorem kept_setBlock {w : World} {b : Nat} {es : Array MapEntry} {clock : Nat} (hb : w.heap[b]? = some (.map es clock)) (o : Obj) : Kept (· = b) w (setBlock w b o) :=
  ⟨rfl, rfl, rfl, by simp [setBlock], fun k h1 h2 => Go.ChangeMaps.heap_setBlock_other hb o h2⟩
theorem find_set (x : Int) (es : List MapEntry) (l : List Int) (i : Nat) (h : es.map (fun e => (e.key, e.val)) = l.map (fun x => (Value.int .i64 x, Value.agg #[]))) :
    (x ∉ l ∧ Instr.findNow (.int .i64) (.int .i64 x) es i = some none) ∨ (x ∈ l ∧ ∃ j, Instr.findNow (.int .i64) (.int .i64 x) es i = some (some (j, .agg #[]))) := by
  induction es generalizing l i with
  | nil =>
    cases l with
    | nil => exact .inl ⟨by simp, rfl⟩
    | cons y r => simp at h
  | cons e es ih =>
    cases l with
    | nil => simp at h
    | cons y r =>
      simp only [List.map_cons, List.cons.injEq, Prod.mk.injEq] at h
      obtain ⟨⟨hk, hv⟩, hr⟩ := h
      by_cases hxy : x = y
      · subst hxy
        refine .inr ⟨by simp, i, ?_⟩
        simp [Instr.findNow, Instr.sameNow, hk, hv]
      · rcases ih r (i + 1) hr with ⟨h1, h2⟩ | ⟨h1, j, h2⟩
        · refine .inl ⟨by simp [hxy, h1], ?_⟩
          simp [Instr.findNow, Instr.sameNow, hk, show (x == y) = false by simp [hxy], h2]
        · refine .inr ⟨by simp [h1], j, ?_⟩
          simp [Instr.findNow, Instr.sameNow, hk, show (x == y) = false by simp [hxy], h2]
theorem run_check' (em : Bool) (n : Nat) (x : Int) (w : World) : (Instr.checkKey em (n + 1) 3 (.int .i64 x)).run Try.prog w = .ok () w := by
  simp [Instr.checkKey, run_underlying Try.underlying3, Result.andThen]
theorem run_check (em : Bool) (x : Int) (w : World) : (Instr.checkKey em 10000 3 (.int .i64 x)).run Try.prog w = .ok () w := run_check' em 9999 x w
theorem zeroE (w : World) : (zeroValue 104).run Try.prog w = .ok (.agg #[]) w := by kernel_rfl
section
variable {w w' : World} {b : Nat} {l : List Int}
theorem set_made (w : World) : SetAt (w.alloc (.map #[] 0)) w.heap.size [] := ⟨_, _, heap_new _ _, rfl⟩
theorem run_findI {es : Array MapEntry} (x : Int) (w : World) (h : es.toList.map (fun e => (e.key, e.val)) = l.map (fun x => (Value.int .i64 x, Value.agg #[]))) :
    (x ∉ l ∧ (Instr.findKey 3 (.int .i64 x) es.toList).run Try.prog w = .ok none w) ∨ (x ∈ l ∧ ∃ j, (Instr.findKey 3 (.int .i64 x) es.toList).run Try.prog w = .ok (some (j, .agg #[])) w) := by
  rcases find_set x es.toList l 0 h with ⟨h1, h2⟩ | ⟨h1, j, h2⟩
  · refine .inl ⟨h1, ?_⟩
    simp [Instr.findKey, run_underlying Try.underlying3, Result.andThen, h2]
  · refine .inr ⟨h1, j, ?_⟩
    simp [Instr.findKey, run_underlying Try.underlying3, Result.andThen, h2]
theorem SetAt.look (h : SetAt w b l) (x : Int) : (Instr.lookup 103 (.map (some b)) (.int .i64 x) true).run Try.prog w = .ok (.tuple #[.agg #[], .bool (decide (x ∈ l))]) w := by
  obtain ⟨es, clock, hb, hE⟩ := h
  rcases run_findI x w hE with ⟨h1, h2⟩ | ⟨h1, j, h2⟩
  · simp [Instr.lookup, run_underlying Try.underlying103, MapKept.run_getObj_map hb, run_check, h1, h2, zeroE, Result.andThen]
  · simp [Instr.lookup, run_underlying Try.underlying103, MapKept.run_getObj_map hb, run_check, h1, h2, Result.andThen]
theorem SetAt.put (h : SetAt w b l) {x : Int} (hx : x ∉ l) : ∃ w', (Instr.mapUpdate 103 (.map (some b)) (.int .i64 x) (.agg #[])).run Try.prog w = .ok () w' ∧ SetAt w' b (l ++ [x]) ∧ Kept (· = b) w w' := by
  obtain ⟨es, clock, hb, hE⟩ := h
  rcases run_findI x w hE with ⟨h1, h2⟩ | ⟨h1, j, h2⟩
  · refine ⟨setBlock w b (.map (es.push ⟨.int .i64 x, .agg #[], clock⟩) (clock + 1)), ?_, ⟨_, _, Go.ChangeMaps.heap_setBlock_same hb _, ?_⟩, kept_setBlock hb _⟩
    · simp [Instr.mapUpdate, run_underlying Try.underlying103, MapKept.run_getObj_map hb, run_check, h2, MapKept.run_setObj_map _ hb, Result.andThen, setBlock]
    · simp [hE]
  · exact absurd h1 hx
theorem SetAt.of_block (h : SetAt w b l) (e : w'.heap[b]? = w.heap[b]?) : SetAt w' b l := by
  obtain ⟨es, clock, hb, r⟩ := h
  exact ⟨es, clock, e.trans hb, r⟩
theorem wpList_upd {ops : Array Oper} {rest : List Oper} {o : Oper} {a : Act} {Q : Exit → Act → World → Prop} (hgd : o.guard = none) (m k v : Operand) (ho : o.op = .mapUpdate 103 m k v)
    (x : Int) (hm : a.eval m = .map (some b)) (hk : a.eval k = .int .i64 x) (hv : a.eval v = .agg #[]) (h : SetAt w b l) (hx : x ∉ l)
    (hK : ∀ w', SetAt w' b (l ++ [x]) → Kept (· = b) w w' → wpList Try.prog ops Q rest (a.put o.dst undef) w') : wpList Try.prog ops Q (o :: rest) a w := by
  refine wpList_plain hgd fun K' hK' => ?_
  obtain ⟨w', hrun, r1, r2⟩ := h.put hx
  unfold Oper.wp
  simp [execOp, ho, hm, hk, hv, hrun, Result.andThen]
  exact hK' _ _ (hK w' r1 r2)
end
/-- under way: what a word says, which slabs have been -/
def slF (l : List Int) (c : Ch) (f : Int → Int × Bool) : Nat → List Int → Int → List Int × Bool
  | 0, _, _ => ([], false)
  | n + 1, seen, v => if (f v).2 = false then ([], false) else if (f v).1 = -1 then (seen, true) else if (f v).1 ∈ seen ∨ ¬ (0 ≤ (f v).1 ∧ (f v).1 < c.slabs) then ([], false) else slF l c f n (seen ++ [(f v).1]) (nxW l c (f v).1)
def slW (l : List Int) (c : Ch) (f : Int → Int × Bool) (seen : List Int) (v : Int) : List Int × Bool := slF l c f (33 - seen.length) seen v
section
variable {l seen : List Int} {c : Ch} {v : Int} {f : Int → Int × Bool}
theorem sl_no (hs : seen.length ≤ 32) (h : (f v).2 = false) : slW l c f seen v = ([], false) := by
  unfold slW
  rw [show 33 - seen.length = (32 - seen.length) + 1 by omega, slF.eq_2, if_pos h]
theorem sl_end (hs : seen.length ≤ 32) (h : (f v).2 = true) (h1 : (f v).1 = -1) : slW l c f seen v = (seen, true) := by
  unfold slW
  rw [show 33 - seen.length = (32 - seen.length) + 1 by omega, slF.eq_2, if_neg (by rw [h]; decide), if_pos h1]
theorem sl_bad (hs : seen.length ≤ 32) (h : (f v).2 = true) (h1 : (f v).1 ≠ -1) (h2 : (f v).1 ∈ seen ∨ ¬ (0 ≤ (f v).1 ∧ (f v).1 < c.slabs)) : slW l c f seen v = ([], false) := by
  unfold slW
  rw [show 33 - seen.length = (32 - seen.length) + 1 by omega, slF.eq_2, if_neg (by rw [h]; decide), if_neg h1, if_pos h2]
theorem sl_step (hs : seen.length ≤ 32) (h : (f v).2 = true) (h1 : (f v).1 ≠ -1) (h2 : ¬ ((f v).1 ∈ seen ∨ ¬ (0 ≤ (f v).1 ∧ (f v).1 < c.slabs))) : slW l c f seen v = slW l c f (seen ++ [(f v).1]) (nxW l c (f v).1) := by
  unfold slW
  rw [show 33 - seen.length = (32 - seen.length) + 1 by omega, show 33 - (seen ++ [(f v).1]).length = 32 - seen.length by simp, slF.eq_2, if_neg (by rw [h]; decide), if_neg h1, if_neg h2]
end
theorem pS_low (v : Int) : -1 ≤ pS v := by
  unfold pS
  split
  · omega
  · omega
theorem hS_low {v : Int} (h : okW v) : -1 ≤ hS v := by
  unfold hS
  split
  · have := h.1; omega
  · omega
theorem sl_pr (l : List Int) (c : Ch) (hc : 1 ≤ c.slabs) : ∀ n seen v, (∀ x ∈ seen, 0 ≤ x) → slF l c fK n seen v = ((prF l c n seen v).1, decide ((prF l c n seen v).2 = 0)) := by
  intro n
  induction n with
  | zero => intro seen v _; rfl
  | succ n ih =>
    intro seen v hs
    have hlow := pS_low v
    rw [slF.eq_2, prF.eq_2]
    unfold fK
    dsimp only
    by_cases hp : isP v
    · rw [decide_eq_true hp, if_neg (by decide)]
      by_cases h1 : pS v = -1
      · rw [if_pos h1, if_neg (by rintro (h | h | h); exact h hp; omega; have := hs _ h; omega), if_pos (by omega)]
        rfl
      · rw [if_neg h1]
        by_cases h2 : pS v ∈ seen ∨ ¬ (0 ≤ pS v ∧ pS v < c.slabs)
        · rw [if_pos h2, if_pos (by rcases h2 with h | h; exact .inr (.inr h); exact .inr (.inl (by omega)))]
          rfl
        · have h3 : 0 ≤ pS v ∧ pS v < c.slabs := Classical.byContradiction fun e => h2 (.inr e)
          rw [if_neg h2, if_neg (by rintro (h | h | h); exact h hp; omega; exact h2 (.inl h)), if_neg (by omega)]
          refine ih _ _ (fun x hx => ?_)
          rcases List.mem_append.1 hx with h | h
          · exact hs x h
          · have : x = pS v := by simpa using h
            omega
    · rw [decide_eq_false hp, if_pos rfl, if_pos (.inl hp)]
      rfl
theorem sl_sh (l : List Int) (c : Ch) (hc : 1 ≤ c.slabs) (hl : Wordy l) : ∀ n seen v, okW v → slF l c (fun v => oneV v c.slabs) n seen v = ((shF l c n seen v).1, decide ((shF l c n seen v).2 = 0)) := by
  intro n
  induction n with
  | zero => intro seen v _; rfl
  | succ n ih =>
    intro seen v hv
    obtain ⟨hv1, hv2⟩ := hv
    rw [slF.eq_2, shF.eq_2]
    by_cases h0 : v = 0
    · subst h0
      rw [show oneV 0 c.slabs = (0 - 1, true) from if_neg (by omega), if_neg (by decide), if_pos (by decide), if_pos rfl]
      rfl
    · rw [if_neg h0]
      by_cases h1 : c.slabs < v
      · rw [show oneV v c.slabs = (0, false) from if_pos h1, if_pos rfl, if_pos (.inl h1)]
        rfl
      · rw [show oneV v c.slabs = (v - 1, true) from if_neg h1, if_neg (by simp), if_neg (by dsimp only; omega)]
        dsimp only
        by_cases h2 : v - 1 ∈ seen
        · rw [if_pos (.inl h2), if_pos (.inr h2)]
          rfl
        · rw [if_neg (by rintro (h | h); exact h2 h; omega), if_neg (by rintro (h | h); exact h1 h; exact h2 h)]
          exact ih _ _ (hl _)
/-- a list, with its Boolean -/
def GivesR (w : World) (R : List Int × Bool) (e : Ending) (w' : World) : Prop := ∃ ao cp, e = .returned (.tuple #[.slice ao R.1.length cp, .bool R.2]) ∧ OwnI w.heap.size w' (.slice ao R.1.length cp) R.1 ∧ Below w.heap.size w w'
theorem givesR_no {w w' : World} (hb : Below w.heap.size w w') : GivesR w ([], false) (.returned (.tuple #[.slice none 0 0, .bool false])) w' := ⟨none, 0, rfl, OwnI.nil _ _, hb⟩
theorem gives2_of {w w' : World} {R : List Int × Bool} {r : List Int × Int} {e : Ending} (hR : R = (r.1, decide (r.2 = 0))) (h : GivesR w R e w') : Gives2 w r e w' := by subst hR; exact h
theorem rtE : RT 104 0 := ⟨by kernel_rfl, Try.prog.fieldsOf 104, by kernel_rfl⟩
theorem own_kept_low {w w' : World} {B g n k : Nat} {T : TypeId} {v : Value} {xs : List Value} (h : w.ownsRow B T k v n xs) (hk : Kept (· = g) w w') (hg : g < B) : w'.ownsRow B T k v n xs := by
  refine ⟨h.1, ?_⟩
  rcases h.2 with e | ⟨r, cp, cur, e, hb, hr, hh⟩
  · exact .inl e
  · exact .inr ⟨r, cp, cur, e, hb, (hk.block r (lt_of_block hr) (by omega)).trans hr, hh⟩
/-- under way: what has been found, its row, the map -/
structure Wm (W : World) (u : Value) (c : Ch) (seen : List Int) (n : Nat) (v : Value) (wr : World) : Prop where
  len : seen.length = n
  ok : SeenS c seen
  map : SetAt wr (W.heap.size + 1) seen
  own : OwnI (W.heap.size + 2) wr v seen
  vw : Vw W W.heap.size u c wr
  sz : W.heap.size + 2 ≤ wr.heap.size
section
variable {W w w' : World} {u v : Value} {c : Ch} {seen : List Int} {n g : Nat}
theorem SetAt.lt {b : Nat} {l : List Int} (h : SetAt w b l) : b < w.heap.size := by
  obtain ⟨es, clock, hb, _⟩ := h
  exact (Array.getElem?_eq_some_iff.1 hb).1
theorem Wm.next (h : Wm W u c seen n v w) (hb : Below w.heap.size w w') : Wm W u c seen n v w' := ⟨h.len, h.ok, h.map.of_block (hb.block _ h.map.lt), h.own.below hb, h.vw.next hb, Nat.le_trans h.sz hb.size⟩
theorem Wm.kept (h : Wm W u c seen n v w) (hk : Kept (· = g) w w') (hg : w.heap.size ≤ g) : Wm W u c seen n v w' := h.next (hk.below (Nat.le_refl _) (by rintro k rfl; exact hg))
theorem wm_new (w : World) (u : Value) (c : Ch) : Wm w u c [] 0 (.slice none 0 0) ((w.alloc (vwO u c)).alloc (.map #[] 0)) :=
  ⟨rfl, SeenS.nil c, by have := set_made (w.alloc (vwO u c)); rwa [size_alloc] at this, OwnI.nil _ _, (vw_new w u c).next (below_one (Below.refl _ _) _), by rw [size_alloc, size_alloc]; omega⟩
/-- one more in the map, then one more in the row -/
theorem Wm.put {a : Int} {w2 : World} (h : Wm W u c seen n v w) (hk : Kept (· = W.heap.size + 1) w w') (hs : SetAt w' (W.heap.size + 1) (seen ++ [a])) : OwnI (W.heap.size + 2) w' v seen ∧ Vw W W.heap.size u c w' ∧ W.heap.size + 2 ≤ w'.heap.size :=
  ⟨own_kept_low h.own hk (by omega), ⟨BlkAt.kept h.vw.at1 hk (by omega), below_kept h.vw.low hk (by rintro k rfl; omega)⟩, Nat.le_trans h.sz hk.size⟩
end
theorem givesR_way {w wr : World} {u : Value} {c : Ch} {seen : List Int} {n : Nat} {ao : Option Addr} {cp : Nat} (h : Wm w u c seen n (.slice ao n cp) wr) : GivesR w (seen, true) (.returned (.tuple #[.slice ao n cp, .bool true])) wr := by
  obtain ⟨rfl, h2, h3, h4, h5, _⟩ := h
  exact ⟨ao, cp, rfl, h4.le (by omega), h5.low⟩
set_option maxHeartbeats 8000000 in
set_option maxRecDepth 100000 in
theorem pSlabsK (u : Value) (l : List Int) (c : Ch) (hw : c.wf) (ho : c.ok) (hl : (l.length : Int) = c.n) (hy : Wordy l) (v : Int) (hv : okW v) (w : World) (hu : ShowU w u l) :
    Calls Try.prog 59 #[.agg (c.vw u), .int .u64 v, fnV 60] w (GivesR w (slW l c fK [] v)) := by
  obtain ⟨ao, cap, rfl, ⟨hc1, hc2⟩, hat⟩ := hu.form
  have HF : Hid (∀ V w1, okW V → Below w.heap.size w w1 → Calls Try.prog 60 #[.int .u64 V] w1 fun e w' => e = .returned (.tuple #[.int .i64 (fK V).1, .bool (fK V).2]) ∧ Below w1.heap.size w1 w') := Lib.hid (fun V w1 h _ => pKept V h w1)
  obtain ⟨f, hf⟩ : ∃ f : Int → Int × Bool, fK = f := ⟨_, rfl⟩
  have HF2 : Hid (∀ V, fK V = f V) := Lib.hid (fun V => by rw [← hf])
  rw [hf]
  clear hf
  obtain ⟨R, hR⟩ : ∃ R, slW l c f [] v = R := ⟨_, rfl⟩
  rw [hR]
  have HR := Lib.hid hR
  have HV := Lib.hid hv
  have HAT := Lib.hid hat
  have HY := Lib.hid hy
  have HO := Lib.hid ho
  have HN := Lib.hid (fun s w => pNext c hw s w)
  have HLN := Lib.hid hl
  have hmm := @run_makeMap Try.prog
  have HW0 := Lib.hid (wm_new w (.slice ao l.length cap) c)
  obtain ⟨_, ⟨o3, o4⟩, _⟩ := ho
  clear hu hat hR hv hy hw hl
  go_enter Try.func59, Try.ntmps59
  go_wp2
  go_loopw [1, 8] (fun x o wr => ∃ (seen : List Int) (V : Int) (ao' : Option Addr) (n cp : Nat), x = .int .u64 V ∧ o = .slice ao' n cp ∧ n ≤ 32 ∧ cp ≤ 9223372036854775807 ∧ Hid (okW V) ∧ Hid (slW l c f seen V = R) ∧ Hid (Wm w (.slice ao l.length cap) c seen n (.slice ao' n cp) wr)) (fun _ o _ => 33 - (match o with | .slice _ n _ => n | _ => 0))
  case atStart => exact ⟨[], v, none, 0, 0, rfl, rfl, by omega, by omega, HV, HR, HW0⟩
  case round =>
    clear HR HV HW0
    obtain ⟨seen, V, ao', n, cp, rfl, rfl, hn, hcp, HV, HR, HW⟩ := hrel
    have hM := HF.out V wr HV.out HW.out.vw.low
    have hlen : seen.length ≤ 32 := by rw [HW.out.len]; exact hn
    have HB0 : Hid ((f V).2 = false → R = ([], false)) := Lib.hid (fun h => by rw [← HR.out, sl_no hlen h])
    have HE : Hid ((f V).2 = true → (f V).1 = -1 → R = (seen, true)) := Lib.hid (fun h h1 => by rw [← HR.out, sl_end hlen h h1])
    have HB : Hid ((f V).2 = true → (f V).1 ≠ -1 → ((f V).1 ∈ seen ∨ ¬ (0 ≤ (f V).1 ∧ (f V).1 < c.slabs)) → R = ([], false)) := Lib.hid (fun h h1 h2 => by rw [← HR.out, sl_bad hlen h h1 h2])
    have HS : Hid ((f V).2 = true → (f V).1 ≠ -1 → ¬ ((f V).1 ∈ seen ∨ ¬ (0 ≤ (f V).1 ∧ (f V).1 < c.slabs)) → slW l c f (seen ++ [(f V).1]) (nxW l c (f V).1) = R) := Lib.hid (fun h h1 h2 => by rw [← HR.out, sl_step hlen h h1 h2])
    rw [HF2.out V] at hM
    have HM := Lib.hid hM
    clear HR hlen hM
    generalize (f V).1 = s at *
    generalize (f V).2 = b at *
    go_wp2_with fail
    refine HM.out.mono ?_
    rintro e w1 ⟨rfl, hb1⟩
    have HW1 := Lib.hid (HW.out.next hb1)
    clear hb1 HM HW
    obtain ⟨e0, e1, e2, e3, e4, e5, e6, _⟩ := HW1.out.vw.eight
    cases b with
    | false =>
      have HX := Lib.hid (HB0.out rfl)
      clear HB0 HE HB HS
      obtain rfl := HX.out
      go_wp2
      try rw [Exit.noGoto_ret]
      go_ret2
      exact givesR_no HW1.out.vw.low
    | true =>
      by_cases h1 : s = -1
      · have HX := Lib.hid (HE.out rfl h1)
        clear HB0 HE HB HS
        obtain rfl := HX.out
        subst h1
        go_wp2
        try rw [Exit.noGoto_ret]
        go_ret2
        exact givesR_way HW1.out
      · have hs1 : (s == -1) = false := by simpa using h1
        have HH1 := Lib.hid h1
        have HN2 := Lib.hid (fun w => HN.out s w)
        obtain ⟨X, hX⟩ : ∃ X, c.next s = X := ⟨_, rfl⟩
        rw [hX] at HN2
        have HX := Lib.hid hX
        clear h1 hX HB0 HE
        go_wp2_with fail
        refine (HN2.out _).mono ?_
        rintro e w2 ⟨rfl, hb2⟩
        have HW2 := Lib.hid (HW1.out.next hb2)
        clear hb2 HN2 HW1 e0 e1 e2 e3 e4 e5 e6
        have hlk := HW2.out.map.look s
        obtain ⟨q, hq⟩ : ∃ q, decide (s ∈ seen) = q := ⟨_, rfl⟩
        rw [hq] at hlk
        have HQ := Lib.hid hq
        clear hq
        have HW3 := Lib.hid (HW2.out.next (below_one (Below.refl w2.heap.size w2) (.cells #[] 104)))
        clear HW2
        cases q with
        | true =>
          have HX2 := Lib.hid (HB.out (by trivial) HH1.out (.inl (of_decide_eq_true HQ.out)))
          clear HB HS HQ
          obtain rfl := HX2.out
          go_wp2
          try rw [Exit.noGoto_ret]
          go_ret2
          exact givesR_no HW3.out.vw.low
        | false =>
          have hns := of_decide_eq_false HQ.out
          by_cases hin : 0 ≤ s ∧ s < c.slabs
          · have HX2 := Lib.hid (HS.out (by trivial) HH1.out (by rintro (h | h); exact hns h; exact h hin))
            have hadd := HW3.out.ok.add hin.1 hin.2 hns
            have HADD := Lib.hid hadd
            have hl2 := hadd.len HO.out
            rw [List.length_append, List.length_singleton, HW3.out.len] at hl2
            obtain ⟨P, hP, hPn⟩ := slab_at HO.out (s := s) hin.1 hin.2 2 (by omega)
            have hnx : c.next s = (P : Int) := by rw [next_in HO.out hin.1 hin.2]; exact hP
            have hPl : P < l.length := by have := HLN.out; omega
            obtain ⟨b1, o1, rfl, c1⟩ := HAT.out P hPl
            have hpw : nxW l c s = pk l P := by unfold nxW; rw [show c.s0 + 4 * s + 2 = (P : Int) from hP]; rfl
            rw [hpw] at HX2
            obtain rfl : X = (P : Int) := HX.out.symm.trans hnx
            have HVN := Lib.hid (HY.out P)
            have hPm : ((P : Int) == -1) = false := by simp
            have HC1 := Lib.hid c1
            have HNS := Lib.hid hns
            have hPc : (P : Int) < (l.length : Int) := by omega
            have hP0 : (0 : Int) ≤ (P : Int) := by omega
            generalize pk l P = V2 at *
            clear HB HS hns hin hadd hP hPn hnx hpw HX c1 HQ hPl
            go_wp2_with (refine wpList_upd (by rfl) _ _ _ (by rfl) s (by rfl) (by rfl) (by rfl) HW3.out.map HNS.out ?_; intro w4 h4 k4; refine Stop.mk ?_)
            unfold Stop
            have HW4 := Lib.hid (And.intro h4 (HW3.out.put (w2 := w) k4 h4))
            have HLN3 := Lib.hid HW3.out.len
            clear h4 k4 hlk HW3
            have hown := OwnI.below HW4.out.2.1 (below_one (Below.refl _ _) (.cells #[.int .i64 s] 3))
            have hlit : ShowI (w4.alloc (.cells #[.int .i64 s] 3)) (.slice (some ⟨w4.heap.size, 0, none⟩) 1 1) [s] := lit_i w4 3 [s] 1 rfl (by omega)
            have hg : w.heap.size + 2 ≤ (w4.alloc (.cells #[.int .i64 s] 3)).heap.size := by rw [size_alloc w4]; have := HW4.out.2.2.2; omega
            have hln : seen.length + [s].length ≤ 1000 := by rw [HLN3.out]; simp; omega
            have hln2 : (seen ++ [s]).length = n + 1 := by rw [List.length_append, HLN3.out]; rfl
            go_wp2_with (at_builtin; refine wpList_appendI (by rfl) _ _ (by rfl) (w.heap.size + 2) _ _ seen [s] (n + 1) (by rfl) (by rfl) hown hlit hln hg hln2 ?_; intro ao2 cp2 w5 ho5 hb5; have HO5 := Lib.hid (And.intro ho5 hb5); clear ho5 hb5 hown hlit hg hln; refine Stop.mk ?_)
            unfold Stop
            have HW5 : Hid (Wm w (.slice (some ⟨b1, o1, none⟩) l.length cap) c (seen ++ [s]) (n + 1) (.slice ao2 (n + 1) cp2) w5) := Lib.hid (by
              have hb := HO5.out.2
              have hz := (below_one (Below.refl w4.heap.size w4) (.cells #[.int .i64 s] 3)).mono HW4.out.2.2.2 |>.trans hb
              exact ⟨hln2, HADD.out, HW4.out.1.of_block (hz.block _ (by omega)), HO5.out.1, ⟨(hz.block _ (by omega)).trans HW4.out.2.2.1.at1, HW4.out.2.2.1.low.trans (hz.mono (by omega))⟩, Nat.le_trans HW4.out.2.2.2 hz.size⟩)
            clear HO5 HW4 HADD hln2 HLN3 HNS
            obtain ⟨e0, e1, e2, e3, e4, e5, e6, _⟩ := HW5.out.vw.eight
            have d1 := cell_keep HW5.out.vw.low HC1.out
            have hcp2 : cp2 ≤ 9223372036854775807 := by
              obtain ⟨_, _, hsl, _, hm⟩ := own_shape HW5.out.own
              obtain ⟨_, _, hc⟩ := Value.slice.inj hsl
              rw [hc]
              exact hm
            clear HC1
            generalize seen ++ [s] = seen2 at *
            go_wp2
            go_roundw
            case rel => exact ⟨seen2, V2, ao2, n + 1, cp2, rfl, rfl, by omega, hcp2, HVN, HX2, HW5⟩
            case measure => simp; omega
          · have HX2 := Lib.hid (HB.out (by trivial) HH1.out (.inr hin))
            obtain rfl : X = -1 := by rw [← HX.out]; unfold Ch.next; rw [show inB s c.slabs = false from decide_eq_false hin, Ch.at_false]
            clear HB HS HQ hns hin HX
            obtain rfl := HX2.out
            go_wp2
            try rw [Exit.noGoto_ret]
            go_ret2
            exact givesR_no HW3.out.vw.low
set_option maxHeartbeats 8000000 in
set_option maxRecDepth 100000 in
theorem pSlabsS (u : Value) (l : List Int) (c : Ch) (hw : c.wf) (ho : c.ok) (hl : (l.length : Int) = c.n) (hy : Wordy l) (v : Int) (hv : okW v) (K : Nat) (w : World) (hu : ShowU w u l) (hcK : w.cell? ⟨K, 2, none⟩ = some (.int .i64 c.slabs)) :
    Calls Try.prog 59 #[.agg (c.vw u), .int .u64 v, .func (.func 61) #[] #[.pointer (some ⟨K, 0, none⟩)]] w (GivesR w (slW l c (fun v => oneV v c.slabs) [] v)) := by
  obtain ⟨ao, cap, rfl, ⟨hc1, hc2⟩, hat⟩ := hu.form
  have HF : Hid (∀ V w1, okW V → Below w.heap.size w w1 → Calls Try.prog 61 #[.int .u64 V, .pointer (some ⟨K, 0, none⟩)] w1 fun e w' => e = .returned (.tuple #[.int .i64 (oneV V c.slabs).1, .bool (oneV V c.slabs).2]) ∧ Below w1.heap.size w1 w') := Lib.hid (fun V w1 h hb => pShf V c.slabs h (by have := ho.2.1; omega) K w1 (cell_keep hb hcK))
  obtain ⟨f, hf⟩ : ∃ f : Int → Int × Bool, (fun v => oneV v c.slabs) = f := ⟨_, rfl⟩
  have HF2 : Hid (∀ V, oneV V c.slabs = f V) := Lib.hid (fun V => by rw [← hf])
  rw [hf]
  clear hf
  obtain ⟨R, hR⟩ : ∃ R, slW l c f [] v = R := ⟨_, rfl⟩
  rw [hR]
  have HR := Lib.hid hR
  have HV := Lib.hid hv
  have HAT := Lib.hid hat
  have HY := Lib.hid hy
  have HO := Lib.hid ho
  have HN := Lib.hid (fun s w => pNext c hw s w)
  have HLN := Lib.hid hl
  have hmm := @run_makeMap Try.prog
  have HW0 := Lib.hid (wm_new w (.slice ao l.length cap) c)
  obtain ⟨_, ⟨o3, o4⟩, _⟩ := ho
  clear hu hat hR hv hy hw hl hcK
  go_enter Try.func59, Try.ntmps59
  go_wp2
  go_loopw [1, 8] (fun x o wr => ∃ (seen : List Int) (V : Int) (ao' : Option Addr) (n cp : Nat), x = .int .u64 V ∧ o = .slice ao' n cp ∧ n ≤ 32 ∧ cp ≤ 9223372036854775807 ∧ Hid (okW V) ∧ Hid (slW l c f seen V = R) ∧ Hid (Wm w (.slice ao l.length cap) c seen n (.slice ao' n cp) wr)) (fun _ o _ => 33 - (match o with | .slice _ n _ => n | _ => 0))
  case atStart => exact ⟨[], v, none, 0, 0, rfl, rfl, by omega, by omega, HV, HR, HW0⟩
  case round =>
    clear HR HV HW0
    obtain ⟨seen, V, ao', n, cp, rfl, rfl, hn, hcp, HV, HR, HW⟩ := hrel
    have hM := HF.out V wr HV.out HW.out.vw.low
    have hlen : seen.length ≤ 32 := by rw [HW.out.len]; exact hn
    have HB0 : Hid ((f V).2 = false → R = ([], false)) := Lib.hid (fun h => by rw [← HR.out, sl_no hlen h])
    have HE : Hid ((f V).2 = true → (f V).1 = -1 → R = (seen, true)) := Lib.hid (fun h h1 => by rw [← HR.out, sl_end hlen h h1])
    have HB : Hid ((f V).2 = true → (f V).1 ≠ -1 → ((f V).1 ∈ seen ∨ ¬ (0 ≤ (f V).1 ∧ (f V).1 < c.slabs)) → R = ([], false)) := Lib.hid (fun h h1 h2 => by rw [← HR.out, sl_bad hlen h h1 h2])
    have HS : Hid ((f V).2 = true → (f V).1 ≠ -1 → ¬ ((f V).1 ∈ seen ∨ ¬ (0 ≤ (f V).1 ∧ (f V).1 < c.slabs)) → slW l c f (seen ++ [(f V).1]) (nxW l c (f V).1) = R) := Lib.hid (fun h h1 h2 => by rw [← HR.out, sl_step hlen h h1 h2])
    rw [HF2.out V] at hM
    have HM := Lib.hid hM
    clear HR hlen hM
    generalize (f V).1 = s at *
    generalize (f V).2 = b at *
    go_wp2_with fail
    refine HM.out.mono ?_
    rintro e w1 ⟨rfl, hb1⟩
    have HW1 := Lib.hid (HW.out.next hb1)
    clear hb1 HM HW
    obtain ⟨e0, e1, e2, e3, e4, e5, e6, _⟩ := HW1.out.vw.eight
    cases b with
    | false =>
      have HX := Lib.hid (HB0.out rfl)
      clear HB0 HE HB HS
      obtain rfl := HX.out
      go_wp2
      try rw [Exit.noGoto_ret]
      go_ret2
      exact givesR_no HW1.out.vw.low
    | true =>
      by_cases h1 : s = -1
      · have HX := Lib.hid (HE.out rfl h1)
        clear HB0 HE HB HS
        obtain rfl := HX.out
        subst h1
        go_wp2
        try rw [Exit.noGoto_ret]
        go_ret2
        exact givesR_way HW1.out
      · have hs1 : (s == -1) = false := by simpa using h1
        have HH1 := Lib.hid h1
        have HN2 := Lib.hid (fun w => HN.out s w)
        obtain ⟨X, hX⟩ : ∃ X, c.next s = X := ⟨_, rfl⟩
        rw [hX] at HN2
        have HX := Lib.hid hX
        clear h1 hX HB0 HE
        go_wp2_with fail
        refine (HN2.out _).mono ?_
        rintro e w2 ⟨rfl, hb2⟩
        have HW2 := Lib.hid (HW1.out.next hb2)
        clear hb2 HN2 HW1 e0 e1 e2 e3 e4 e5 e6
        have hlk := HW2.out.map.look s
        obtain ⟨q, hq⟩ : ∃ q, decide (s ∈ seen) = q := ⟨_, rfl⟩
        rw [hq] at hlk
        have HQ := Lib.hid hq
        clear hq
        have HW3 := Lib.hid (HW2.out.next (below_one (Below.refl w2.heap.size w2) (.cells #[] 104)))
        clear HW2
        cases q with
        | true =>
          have HX2 := Lib.hid (HB.out (by trivial) HH1.out (.inl (of_decide_eq_true HQ.out)))
          clear HB HS HQ
          obtain rfl := HX2.out
          go_wp2
          try rw [Exit.noGoto_ret]
          go_ret2
          exact givesR_no HW3.out.vw.low
        | false =>
          have hns := of_decide_eq_false HQ.out
          by_cases hin : 0 ≤ s ∧ s < c.slabs
          · have HX2 := Lib.hid (HS.out (by trivial) HH1.out (by rintro (h | h); exact hns h; exact h hin))
            have hadd := HW3.out.ok.add hin.1 hin.2 hns
            have HADD := Lib.hid hadd
            have hl2 := hadd.len HO.out
            rw [List.length_append, List.length_singleton, HW3.out.len] at hl2
            obtain ⟨P, hP, hPn⟩ := slab_at HO.out (s := s) hin.1 hin.2 2 (by omega)
            have hnx : c.next s = (P : Int) := by rw [next_in HO.out hin.1 hin.2]; exact hP
            have hPl : P < l.length := by have := HLN.out; omega
            obtain ⟨b1, o1, rfl, c1⟩ := HAT.out P hPl
            have hpw : nxW l c s = pk l P := by unfold nxW; rw [show c.s0 + 4 * s + 2 = (P : Int) from hP]; rfl
            rw [hpw] at HX2
            obtain rfl : X = (P : Int) := HX.out.symm.trans hnx
            have HVN := Lib.hid (HY.out P)
            have hPm : ((P : Int) == -1) = false := by simp
            have HC1 := Lib.hid c1
            have HNS := Lib.hid hns
            have hPc : (P : Int) < (l.length : Int) := by omega
            have hP0 : (0 : Int) ≤ (P : Int) := by omega
            generalize pk l P = V2 at *
            clear HB HS hns hin hadd hP hPn hnx hpw HX c1 HQ hPl
            go_wp2_with (refine wpList_upd (by rfl) _ _ _ (by rfl) s (by rfl) (by rfl) (by rfl) HW3.out.map HNS.out ?_; intro w4 h4 k4; refine Stop.mk ?_)
            unfold Stop
            have HW4 := Lib.hid (And.intro h4 (HW3.out.put (w2 := w) k4 h4))
            have HLN3 := Lib.hid HW3.out.len
            clear h4 k4 hlk HW3
            have hown := OwnI.below HW4.out.2.1 (below_one (Below.refl _ _) (.cells #[.int .i64 s] 3))
            have hlit : ShowI (w4.alloc (.cells #[.int .i64 s] 3)) (.slice (some ⟨w4.heap.size, 0, none⟩) 1 1) [s] := lit_i w4 3 [s] 1 rfl (by omega)
            have hg : w.heap.size + 2 ≤ (w4.alloc (.cells #[.int .i64 s] 3)).heap.size := by rw [size_alloc w4]; have := HW4.out.2.2.2; omega
            have hln : seen.length + [s].length ≤ 1000 := by rw [HLN3.out]; simp; omega
            have hln2 : (seen ++ [s]).length = n + 1 := by rw [List.length_append, HLN3.out]; rfl
            go_wp2_with (at_builtin; refine wpList_appendI (by rfl) _ _ (by rfl) (w.heap.size + 2) _ _ seen [s] (n + 1) (by rfl) (by rfl) hown hlit hln hg hln2 ?_; intro ao2 cp2 w5 ho5 hb5; have HO5 := Lib.hid (And.intro ho5 hb5); clear ho5 hb5 hown hlit hg hln; refine Stop.mk ?_)
            unfold Stop
            have HW5 : Hid (Wm w (.slice (some ⟨b1, o1, none⟩) l.length cap) c (seen ++ [s]) (n + 1) (.slice ao2 (n + 1) cp2) w5) := Lib.hid (by
              have hb := HO5.out.2
              have hz := (below_one (Below.refl w4.heap.size w4) (.cells #[.int .i64 s] 3)).mono HW4.out.2.2.2 |>.trans hb
              exact ⟨hln2, HADD.out, HW4.out.1.of_block (hz.block _ (by omega)), HO5.out.1, ⟨(hz.block _ (by omega)).trans HW4.out.2.2.1.at1, HW4.out.2.2.1.low.trans (hz.mono (by omega))⟩, Nat.le_trans HW4.out.2.2.2 hz.size⟩)
            clear HO5 HW4 HADD hln2 HLN3 HNS
            obtain ⟨e0, e1, e2, e3, e4, e5, e6, _⟩ := HW5.out.vw.eight
            have d1 := cell_keep HW5.out.vw.low HC1.out
            have hcp2 : cp2 ≤ 9223372036854775807 := by
              obtain ⟨_, _, hsl, _, hm⟩ := own_shape HW5.out.own
              obtain ⟨_, _, hc⟩ := Value.slice.inj hsl
              rw [hc]
              exact hm
            clear HC1
            generalize seen ++ [s] = seen2 at *
            go_wp2
            go_roundw
            case rel => exact ⟨seen2, V2, ao2, n + 1, cp2, rfl, rfl, by omega, hcp2, HVN, HX2, HW5⟩
            case measure => simp; omega
          · have HX2 := Lib.hid (HB.out (by trivial) HH1.out (.inr hin))
            obtain rfl : X = -1 := by rw [← HX.out]; unfold Ch.next; rw [show inB s c.slabs = false from decide_eq_false hin, Ch.at_false]
            clear HB HS HQ hns hin HX
            obtain rfl := HX2.out
            go_wp2
            try rw [Exit.noGoto_ret]
            go_ret2
            exact givesR_no HW3.out.vw.low
theorem pParts (u : Value) (l : List Int) (c : Ch) (hw : c.wf) (ho : c.ok) (hl : (l.length : Int) = c.n) (hy : Wordy l) (v : Int) (hv : okW v) (w : World) (hu : ShowU w u l) :
    Calls Try.prog 59 #[.agg (c.vw u), .int .u64 v, fnV 60] w (Gives2 w (prW l c [] v)) :=
  (pSlabsK u l c hw ho hl hy v hv w hu).mono (fun e w' h => gives2_of (sl_pr l c ho.2.1.1 33 [] v (by simp)) h)
theorem pShelfs (u : Value) (l : List Int) (c : Ch) (hw : c.wf) (ho : c.ok) (hl : (l.length : Int) = c.n) (hy : Wordy l) (v : Int) (hv : okW v) (K : Nat) (w : World) (hu : ShowU w u l) (hcK : w.cell? ⟨K, 2, none⟩ = some (.int .i64 c.slabs)) :
    Calls Try.prog 59 #[.agg (c.vw u), .int .u64 v, .func (.func 61) #[] #[.pointer (some ⟨K, 0, none⟩)]] w (Gives2 w (shW l c [] v)) :=
  (pSlabsS u l c hw ho hl hy v hv K w hu hcK).mono (fun e w' h => gives2_of (sl_sh l c ho.2.1.1 hy 33 [] v hv) h)
end Go.Proofs.Ytnnfmlbgoplnaaa
