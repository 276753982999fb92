/-
  A map of numbers whose elements hold nothing, written out: laid, looked up; isAlign of the program.
-/
import Derived.Test.YtpaanlamjncajaaSp
import Derived.Maps.OwnSet
set_option linter.unusedVariables false
set_option linter.unusedSimpArgs false
namespace Go.Proofs.Ytpaanlamjncajaa
open Go Go.RowKit
open Go.ChangeMaps (setBlock)

/-- Block b is a map that has these numbers. -/
def SetAt (w : World) (b : Nat) (l : List Int) : Prop := ∃ es clock, w.heap[b]? = some (.map es clock) ∧ es.toList.map (fun e => (e.key, e.val)) = l.map (fun x => (Value.int .i64 x, Value.agg #[]))
theorem kept_setBlock {w : World} {b : Nat} {es : Array MapEntry} {clock : Nat} (hb : w.heap[b]? = some (.map es clock)) (o : Obj) : Kept (· = b) w (setBlock w b o) :=
  ⟨rfl, rfl, rfl, by simp [setBlock], fun k h1 h2 => Go.ChangeMaps.heap_setBlock_other hb o h2⟩
theorem find_set (x : Int) (es : List MapEntry) (l : List Int) (i : Nat) (h : es.map (fun e => (e.key, e.val)) = l.map (fun x => (Value.int .i64 x, Value.agg #[]))) :
    (x ∉ l ∧ Instr.findNow (.int .i64) (.int .i64 x) es i = some none) ∨ (x ∈ l ∧ ∃ j, Instr.findNow (.int .i64) (.int .i64 x) es i = some (some (j, .agg #[]))) := by
  induction es generalizing l i with
  | nil =>
    cases l with
    | nil => exact .inl ⟨by simp, rfl⟩
    | cons y r => simp at h
  | cons e es ih =>
    cases l with
    | nil => simp at h
    | cons y r =>
      simp only [List.map_cons, List.cons.injEq, Prod.mk.injEq] at h
      obtain ⟨⟨hk, hv⟩, hr⟩ := h
      by_cases hxy : x = y
      · subst hxy
        refine .inr ⟨by simp, i, ?_⟩
        simp [Instr.findNow, Instr.sameNow, hk, hv]
      · rcases ih r (i + 1) hr with ⟨h1, h2⟩ | ⟨h1, j, h2⟩
        · refine .inl ⟨by simp [hxy, h1], ?_⟩
          simp [Instr.findNow, Instr.sameNow, hk, show (x == y) = false by simp [hxy], h2]
        · refine .inr ⟨by simp [h1], j, ?_⟩
          simp [Instr.findNow, Instr.sameNow, hk, show (x == y) = false by simp [hxy], h2]
theorem run_check' (em : Bool) (n : Nat) (x : Int) (w : World) : (Instr.checkKey em (n + 1) 3 (.int .i64 x)).run Try.prog w = .ok () w := by
  simp [Instr.checkKey, run_underlying Try.underlying3, Result.andThen]
theorem run_check (em : Bool) (x : Int) (w : World) : (Instr.checkKey em 10000 3 (.int .i64 x)).run Try.prog w = .ok () w := run_check' em 9999 x w
theorem zeroE (w : World) : (zeroValue 40).run Try.prog w = .ok (.agg #[]) w := by kernel_rfl
section
variable {w w' : World} {b : Nat} {l : List Int}
theorem set_made (w : World) : SetAt (w.alloc (.map #[] 0)) w.heap.size [] := ⟨_, _, heap_new _ _, rfl⟩
theorem run_findI {es : Array MapEntry} (x : Int) (w : World) (h : es.toList.map (fun e => (e.key, e.val)) = l.map (fun x => (Value.int .i64 x, Value.agg #[]))) :
    (x ∉ l ∧ (Instr.findKey 3 (.int .i64 x) es.toList).run Try.prog w = .ok none w) ∨ (x ∈ l ∧ ∃ j, (Instr.findKey 3 (.int .i64 x) es.toList).run Try.prog w = .ok (some (j, .agg #[])) w) := by
  rcases find_set x es.toList l 0 h with ⟨h1, h2⟩ | ⟨h1, j, h2⟩
  · refine .inl ⟨h1, ?_⟩
    simp [Instr.findKey, run_underlying Try.underlying3, Result.andThen, h2]
  · refine .inr ⟨h1, j, ?_⟩
    simp [Instr.findKey, run_underlying Try.underlying3, Result.andThen, h2]
theorem SetAt.look (h : SetAt w b l) (x : Int) : (Instr.lookup 42 (.map (some b)) (.int .i64 x) true).run Try.prog w = .ok (.tuple #[.agg #[], .bool (decide (x ∈ l))]) w := by
  obtain ⟨es, clock, hb, hE⟩ := h
  rcases run_findI x w hE with ⟨h1, h2⟩ | ⟨h1, j, h2⟩
  · simp [Instr.lookup, run_underlying Try.underlying42, MapKept.run_getObj_map hb, run_check, h1, h2, zeroE, Result.andThen]
  · simp [Instr.lookup, run_underlying Try.underlying42, MapKept.run_getObj_map hb, run_check, h1, h2, Result.andThen]
theorem SetAt.put (h : SetAt w b l) {x : Int} (hx : x ∉ l) : ∃ w', (Instr.mapUpdate 42 (.map (some b)) (.int .i64 x) (.agg #[])).run Try.prog w = .ok () w' ∧ SetAt w' b (l ++ [x]) ∧ Kept (· = b) w w' := by
  obtain ⟨es, clock, hb, hE⟩ := h
  rcases run_findI x w hE with ⟨h1, h2⟩ | ⟨h1, j, h2⟩
  · refine ⟨setBlock w b (.map (es.push ⟨.int .i64 x, .agg #[], clock⟩) (clock + 1)), ?_, ⟨_, _, Go.ChangeMaps.heap_setBlock_same hb _, ?_⟩, kept_setBlock hb _⟩
    · simp [Instr.mapUpdate, run_underlying Try.underlying42, MapKept.run_getObj_map hb, run_check, h2, MapKept.run_setObj_map _ hb, Result.andThen, setBlock]
    · simp [hE]
  · exact absurd h1 hx
theorem SetAt.of_block (h : SetAt w b l) (e : w'.heap[b]? = w.heap[b]?) : SetAt w' b l := by
  obtain ⟨es, clock, hb, r⟩ := h
  exact ⟨es, clock, e.trans hb, r⟩
theorem wpList_ins {ops : Array Oper} {rest : List Oper} {o : Oper} {a : Act} {Q : Exit → Act → World → Prop} (hgd : o.guard = none) (m k v : Operand) (ho : o.op = .insert 42 m k v)
    (x : Int) (hm : a.eval m = .map (some b)) (hk : a.eval k = .int .i64 x) (hv : a.eval v = .agg #[]) (h : SetAt w b l) (hx : x ∉ l)
    (hK : ∀ w', SetAt w' b (l ++ [x]) → Kept (· = b) w w' → wpList Try.prog ops Q rest (a.put o.dst undef) w') : wpList Try.prog ops Q (o :: rest) a w := by
  refine wpList_plain hgd fun K' hK' => ?_
  obtain ⟨w', hrun, r1, r2⟩ := h.put hx
  unfold Oper.wp
  simp [execOp, ho, hm, hk, hv, hrun, Result.andThen]
  exact hK' _ _ (hK w' r1 r2)
end
theorem al_mem (x : Int) : decide (x ∈ ([] ++ [(8 : Int)] ++ [16] ++ [32] ++ [64])) = alB x := by simp [alB]
set_option maxHeartbeats 2000000 in
theorem cIsAlign (x : Int) (w : World) :
    Calls Try.prog 20 #[.int .i64 x] w fun e w' => e = .returned (.bool (alB x)) ∧ Below w.heap.size w w' := by
  have hmm := @run_makeMap Try.prog
  go_enter Try.func20, Try.ntmps20
  go_wp2_with (refine wpList_ins (by rfl) _ _ _ (by rfl) 8 (by rfl) (by rfl) (by rfl) (set_made w) (by decide) ?_; intro w1 h1 k1; refine Stop.mk ?_)
  unfold Stop
  go_wp2_with (refine wpList_ins (by rfl) _ _ _ (by rfl) 16 (by rfl) (by rfl) (by rfl) h1 (by decide) ?_; intro w2 h2 k2; refine Stop.mk ?_)
  unfold Stop
  go_wp2_with (refine wpList_ins (by rfl) _ _ _ (by rfl) 32 (by rfl) (by rfl) (by rfl) h2 (by decide) ?_; intro w3 h3 k3; refine Stop.mk ?_)
  unfold Stop
  go_wp2_with (refine wpList_ins (by rfl) _ _ _ (by rfl) 64 (by rfl) (by rfl) (by rfl) h3 (by decide) ?_; intro w4 h4 k4; refine Stop.mk ?_)
  unfold Stop
  have HB := Lib.hid (below_kept (below_one (Below.refl w.heap.size w) _) (((k1.trans k2).trans k3).trans k4) (by rintro k rfl; exact Nat.le_refl _))
  have hl := h4.look x
  rw [al_mem] at hl
  clear h1 h2 h3 h4 k1 k2 k3 k4
  go_wp2
  go_ret
  exact ⟨rfl, below_one HB.out _⟩
end Go.Proofs.Ytpaanlamjncajaa
