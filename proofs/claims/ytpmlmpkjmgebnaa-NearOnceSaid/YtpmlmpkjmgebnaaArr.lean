/-
  The law's array: a new one; which pages are marked in it; pages near processors beside it.
-/
import Derived.Test.YtpmlmpkjmgebnaaCount
import Derived.Test.YtpmlmpkjmgebnaaLast
set_option linter.unusedVariables false
set_option linter.unusedSimpArgs false
namespace Go.Proofs.Ytpmlmpkjmgebnaa
open Go Go.RowKit

theorem infoA : (Try.prog.info? 39).map (fun i => (i.zero, i.size, i.bytes)) = some (some (.agg (Array.replicate 1024 (.int .i64 0))), 1024, 8192) := by kernel_rfl
theorem run_zero {t : TypeId} {Z : Array Value} {s b : Nat} (h : (Try.prog.info? t).map (fun i => (i.zero, i.size, i.bytes)) = some (some (.agg Z), s, b)) (w : World) : (zeroValue t).run Try.prog w = .ok (.agg Z) w := by
  obtain ⟨i0, hi, hz0, hz1, hz2⟩ := info_parts h
  simp [zeroValue, typeInfo, hi, hz0, go_sem]
def cellP (P : Nat → Bool) (x : Nat) : Value := .int .i64 ((one (P x) : Nat) : Int)
theorem makeArr : ∃ Z : Array Value, (∀ w : World, (zeroValue 39).run Try.prog w = .ok (.agg Z) w) ∧ ∀ w : World, (w.alloc (.cells Z 39)).rowIs w.heap.size 39 1024 (cellP (fun _ => false)) :=
  ⟨_, run_zero infoA, fun w => ⟨_, heap_new w _, by simp, fun i hi => by simp [hi, cellP, one]⟩⟩
structure Ps (W w : World) (B g : Nat) (vs : Nat → Value) (n lim : Nat) (f : F) (D : Nat) (P : Nat → Bool) : Prop where
  o : One W w B g vs n lim f
  arr : w.rowIs D 39 1024 (cellP P)
  off : ¬ Own n B g vs D
  ge : W.heap.size ≤ D
section
variable {W w w' : World} {B g n lim D : Nat} {vs vs' : Nat → Value} {f f' : F} {P : Nat → Bool} {v : Value} {l : List Int}
theorem Ps.goes (h : Ps W w B g vs n lim f D P) (ho : One W w' B g vs' n lim f') (hG : Goes w w' n B g vs vs') : Ps W w' B g vs' n lim f' D P :=
  ⟨ho, row_kept h.arr hG.1 h.off, fun o => by
    rcases hG.2 D o with o | o
    · exact h.off o
    · have := h.arr.lt; omega, h.ge⟩
theorem Ps.below (h : Ps W w B g vs n lim f D P) (hb : Below w.heap.size w w') : Ps W w' B g vs n lim f D P := h.goes (h.o.below hb) (Goes.of_below hb)
theorem Ps.gone (h : Ps W w B g vs n lim f D P) (ho : Out w w' n B g vs vs' v l) : Res w' v l (fun k => k ≠ D) :=
  ho.mono fun k e ek => by
    subst ek
    rcases e.2 with e | e
    · exact h.off e
    · have := h.arr.lt; omega
theorem Ps.at (h : Ps W w B g vs n lim f D P) {x : Nat} (hx : x < 1024) : w.cell? ⟨D, x, none⟩ = some (.int .i64 ((one (P x) : Nat) : Int)) ∧ w.frozen? ⟨D, x, none⟩ = false := ⟨h.arr.cell hx, h.arr.frozen x⟩
theorem Ps.set (h : Ps W w B g vs n lim f D P) (x : Nat) (b : Bool) (z : Int) (hz : z = (one b : Nat)) : Ps W (w.setCell ⟨D, x, none⟩ (.int .i64 z)) B g vs n lim f D (setP P x b) := by
  subst hz
  have hset : Kept (· = D) w (w.setCell ⟨D, x, none⟩ (.int .i64 ((one b : Nat) : Int))) := Kept.setCell (S := (· = D)) (p := ⟨D, x, none⟩) (Kept.refl _ w) rfl _
  refine ⟨⟨h.o.a.kept hset (fun k o e => h.off (e ▸ o)), h.o.fine, below_kept h.o.low hset (fun k e => by rw [e]; exact h.ge), h.o.ge⟩, (h.arr.set x _).congr fun i hi => ?_, h.off, h.ge⟩
  unfold cellP setP
  by_cases e : i = x
  · rw [if_pos e, if_pos e]
  · rw [if_neg e, if_neg e]
theorem res_set (h : Res w v l (fun k => k ≠ D)) (x : Nat) (u : Value) : Res (w.setCell ⟨D, x, none⟩ u) v l (fun k => k ≠ D) :=
  h.kept (S := (· = D)) (Kept.setCell (S := (· = D)) (p := ⟨D, x, none⟩) (Kept.refl _ w) rfl u) fun k e => e
theorem pPut (h : Ps W w B g vs n lim f D P) {cpu page er : Int} {out : List Int} (hr : PutIs n lim f cpu page out er f') :
    Calls Try.prog 15 #[.pointer (some ⟨B, 0, none⟩), .int .i64 cpu, .int .i64 page] w fun e w' => ∃ v vs', e = .returned (.tuple #[v, .int .i64 er]) ∧ Ps W w' B g vs' n lim f' D P ∧ Res w' v out (fun k => k ≠ D) :=
  (cPut h.o.a h.o.fine hr).mono fun e w' ⟨v, vs', h1, h2, h3, h4⟩ => ⟨v, vs', h1, h.goes (h.o.goes h2 h3 (hr.fine h.o.fine)) h3, h.gone h4⟩
theorem pTake (h : Ps W w B g vs n lim f D P) {cpu x : Int} {q : Bool} (hr : TakeIs n f cpu x q f') :
    Calls Try.prog 16 #[.pointer (some ⟨B, 0, none⟩), .int .i64 cpu] w fun e w' => ∃ vs', e = .returned (.tuple #[.int .i64 x, .bool q]) ∧ Ps W w' B g vs' n lim f' D P :=
  (cTake h.o.a hr).mono fun e w' ⟨vs', h1, h2, h3⟩ => ⟨vs', h1, h.goes (h.o.goes h2 h3 (hr.fine h.o.fine)) h3⟩
theorem pDrain (h : Ps W w B g vs n lim f D P) {cpu : Int} (hr : DrainIs n f cpu l f') :
    Calls Try.prog 17 #[.pointer (some ⟨B, 0, none⟩), .int .i64 cpu] w fun e w' => ∃ v vs', e = .returned v ∧ Ps W w' B g vs' n lim f' D P ∧ Res w' v l (fun k => k ≠ D) :=
  (cDrain h.o.a hr).mono fun e w' ⟨v, vs', h1, h2, h3, h4⟩ => ⟨v, vs', h1, h.goes (h.o.goes h2 h3 (hr.fine h.o.fine)) h3, h.gone h4⟩
theorem pHas (h : Ps W w B g vs n lim f D P) {x : Int} {q : Bool} (hq : hasB f n x = q) :
    Calls Try.prog 18 #[.pointer (some ⟨B, 0, none⟩), .int .i64 x] w fun e w' => e = .returned (.bool q) ∧ Ps W w' B g vs n lim f D P ∧ Below w.heap.size w w' :=
  (cHas h.o.a x q hq).mono fun e w' ⟨h1, h2⟩ => ⟨h1, h.below h2, h2⟩
theorem pList (h : Ps W w B g vs n lim f D P) {c : Nat} (hc : c < n) :
    Calls Try.prog 10 #[.pointer (some ⟨B, 0, none⟩), .int .i64 c] w fun e w' => ∃ v, e = .returned v ∧ Ps W w' B g vs n lim f D P ∧ ShowI w' v (f c) :=
  (cList h.o.a c).mono fun e w' ⟨v, h1, h2, h3⟩ => ⟨v, h1, h.below h3, by rw [listOf_yes f hc] at h2; exact Res.shows h2⟩
theorem Ps.start {Z : Array Value} (h : One W w B g noV n lim noF) (hZ : ∀ w : World, (w.alloc (.cells Z 39)).rowIs w.heap.size 39 1024 (cellP (fun _ => false))) : Ps W (w.alloc (.cells Z 39)) B g noV n lim noF w.heap.size (fun _ => false) :=
  ⟨h.below (below_one (Below.refl _ _) _), hZ w, fun o => by have := h.a.own_lt o; omega, h.low.size⟩
end
theorem drop_pk (l : List Int) (j : Nat) (h : j < l.length) : l.drop j = pk l j :: l.drop (j + 1) := by
  rw [← pk_at l j h]
  exact List.drop_eq_getElem_cons h
theorem pk_mem {l : List Int} {j : Nat} (h : j < l.length) : pk l j ∈ l := by
  rw [← pk_at l j h]
  exact List.getElem_mem h
end Go.Proofs.Ytpmlmpkjmgebnaa
