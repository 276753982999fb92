/-
  The program's pages and the document's answer in one world.
-/
import Derived.Test.YtpmlmpkjmgebnaaLast
set_option linter.unusedVariables false
set_option linter.unusedSimpArgs false
namespace Go.Proofs.Ytpmlmpkjmgebnaa
open Go Go.RowKit

structure St2 (W w : World) (B g : Nat) (vs : Nat → Value) (f : F) (B2 g2 : Nat) (vs2 : Nat → Value) (f2 : F) (n lim : Nat) : Prop where
  a : NearG w 48 B g vs n lim f
  r : NearG w 50 B2 g2 vs2 n lim f2
  fa : Fine n lim f
  fr : Fine n lim f2
  low : Below W.heap.size W w
  ge : ∀ k, Own n B g vs k → W.heap.size ≤ k
  ge2 : ∀ k, Own n B2 g2 vs2 k → W.heap.size ≤ k
  dis : ∀ k, Own n B g vs k → ¬ Own n B2 g2 vs2 k
/-- a list that lies in the blocks of neither -/
def Off2 (W w : World) (n B g : Nat) (vs : Nat → Value) (B2 g2 : Nat) (vs2 : Nat → Value) (v : Value) (l : List Int) : Prop := Res w v l (fun k => ¬ Own n B g vs k ∧ ¬ Own n B2 g2 vs2 k ∧ W.heap.size ≤ k)
section
variable {W w w' : World} {B g B2 g2 n lim : Nat} {vs vs' vs2 vs2' : Nat → Value} {f f' f2 : F} {v : Value} {l : List Int}
theorem St2.left (h : St2 W w B g vs f B2 g2 vs2 f2 n lim) (ha : NearG w' 48 B g vs' n lim f') (hG : Goes w w' n B g vs vs') (hf : Fine n lim f') : St2 W w' B g vs' f' B2 g2 vs2 f2 n lim :=
  ⟨ha, h.r.kept hG.1 (fun k o2 o1 => h.dis k o1 o2), hf, h.fr, below_kept h.low hG.1 h.ge, fun k o => by
    rcases hG.2 k o with o | o
    · exact h.ge k o
    · exact Nat.le_trans h.low.size o, h.ge2, fun k o o2 => by
    rcases hG.2 k o with o | o
    · exact h.dis k o o2
    · have := h.r.own_lt o2; omega⟩
theorem St2.right (h : St2 W w B g vs f B2 g2 vs2 f2 n lim) (hr : NearG w' 50 B2 g2 vs2' n lim f') (hG : Goes w w' n B2 g2 vs2 vs2') (hf : Fine n lim f') : St2 W w' B g vs f B2 g2 vs2' f' n lim :=
  ⟨h.a.kept hG.1 (fun k o1 o2 => h.dis k o1 o2), hr, h.fa, hf, below_kept h.low hG.1 h.ge2, h.ge, fun k o => by
    rcases hG.2 k o with o | o
    · exact h.ge2 k o
    · exact Nat.le_trans h.low.size o, fun k o o2 => by
    rcases hG.2 k o2 with o2 | o2
    · exact h.dis k o o2
    · have := h.a.own_lt o; omega⟩
theorem St2.below (h : St2 W w B g vs f B2 g2 vs2 f2 n lim) (hb : Below w.heap.size w w') : St2 W w' B g vs f B2 g2 vs2 f2 n lim := h.left (h.a.below hb) (Goes.of_below hb) h.fa
theorem St2.out (h : St2 W w B g vs f B2 g2 vs2 f2 n lim) (o : Out w w' n B g vs vs' v l) : Off2 W w' n B g vs' B2 g2 vs2 v l :=
  o.mono fun k ⟨h1, h2⟩ => by
    rcases h2 with h2 | h2
    · exact ⟨h1, h.dis k h2, h.ge k h2⟩
    · exact ⟨h1, fun o2 => by have := h.r.own_lt o2; omega, Nat.le_trans h.low.size h2⟩
theorem St2.outR (h : St2 W w B g vs f B2 g2 vs2 f2 n lim) (o : Out w w' n B2 g2 vs2 vs2' v l) : Off2 W w' n B g vs B2 g2 vs2' v l :=
  o.mono fun k ⟨h1, h2⟩ => by
    rcases h2 with h2 | h2
    · exact ⟨fun o => h.dis k o h2, h1, h.ge2 k h2⟩
    · exact ⟨fun o => by have := h.a.own_lt o; omega, h1, Nat.le_trans h.low.size h2⟩
theorem Off2.left (h : Off2 W w n B g vs B2 g2 vs2 v l) (hG : Goes w w' n B g vs vs') : Off2 W w' n B g vs' B2 g2 vs2 v l :=
  ((Res.and_lt h).kept hG.1 (fun k e => e.1.1)).mono fun k e => ⟨fun o => by
    rcases hG.2 k o with o | o
    · exact e.1.1 o
    · have := e.2; omega, e.1.2⟩
theorem Off2.right (h : Off2 W w n B g vs B2 g2 vs2 v l) (hG : Goes w w' n B2 g2 vs2 vs2') : Off2 W w' n B g vs B2 g2 vs2' v l :=
  ((Res.and_lt h).kept hG.1 (fun k e => e.1.2.1)).mono fun k e => ⟨e.1.1, fun o => by
    rcases hG.2 k o with o | o
    · exact e.1.2.1 o
    · have := e.2; omega, e.1.2.2⟩
theorem Off2.below (h : Off2 W w n B g vs B2 g2 vs2 v l) (hb : Below w.heap.size w w') : Off2 W w' n B g vs B2 g2 vs2 v l := Res.below h hb
theorem St2.fresh (h : St2 W w B g vs f B2 g2 vs2 f2 n lim) (hr : Fresh w w' v l) : Off2 W w' n B g vs B2 g2 vs2 v l :=
  hr.mono fun k (e : w.heap.size ≤ k) => ⟨fun o => by have := h.a.own_lt o; omega, fun o => by have := h.r.own_lt o; omega, Nat.le_trans h.low.size e⟩
theorem sPut (h : St2 W w B g vs f B2 g2 vs2 f2 n lim) {cpu page er : Int} {out : List Int} (hr : PutIs n lim f cpu page out er f') :
    Calls Try.prog 15 #[.pointer (some ⟨B, 0, none⟩), .int .i64 cpu, .int .i64 page] w fun e w' => ∃ v vs', e = .returned (.tuple #[v, .int .i64 er]) ∧ St2 W w' B g vs' f' B2 g2 vs2 f2 n lim ∧ Goes w w' n B g vs vs' ∧ Off2 W w' n B g vs' B2 g2 vs2 v out :=
  (cPut h.a h.fa hr).mono fun e w' ⟨v, vs', h1, h2, h3, h4⟩ => ⟨v, vs', h1, h.left h2 h3 (hr.fine h.fa), h3, h.out h4⟩
theorem srPut (h : St2 W w B g vs f B2 g2 vs2 f2 n lim) {cpu page er : Int} {out : List Int} (hr : PutIs n lim f2 cpu page out er f') :
    Calls Try.prog 19 #[.pointer (some ⟨B2, 0, none⟩), .int .i64 cpu, .int .i64 page] w fun e w' => ∃ v vs2', e = .returned (.tuple #[v, .int .i64 er]) ∧ St2 W w' B g vs f B2 g2 vs2' f' n lim ∧ Goes w w' n B2 g2 vs2 vs2' ∧ Off2 W w' n B g vs B2 g2 vs2' v out :=
  (rPut h.r h.fr hr).mono fun e w' ⟨v, vs', h1, h2, h3, h4⟩ => ⟨v, vs', h1, h.right h2 h3 (hr.fine h.fr), h3, h.outR h4⟩
theorem sTake (h : St2 W w B g vs f B2 g2 vs2 f2 n lim) {cpu x : Int} {q : Bool} (hr : TakeIs n f cpu x q f') :
    Calls Try.prog 16 #[.pointer (some ⟨B, 0, none⟩), .int .i64 cpu] w fun e w' => ∃ vs', e = .returned (.tuple #[.int .i64 x, .bool q]) ∧ St2 W w' B g vs' f' B2 g2 vs2 f2 n lim ∧ Goes w w' n B g vs vs' :=
  (cTake h.a hr).mono fun e w' ⟨vs', h1, h2, h3⟩ => ⟨vs', h1, h.left h2 h3 (hr.fine h.fa), h3⟩
theorem srTake (h : St2 W w B g vs f B2 g2 vs2 f2 n lim) {cpu x : Int} {q : Bool} (hr : TakeIs n f2 cpu x q f') :
    Calls Try.prog 20 #[.pointer (some ⟨B2, 0, none⟩), .int .i64 cpu] w fun e w' => ∃ vs2', e = .returned (.tuple #[.int .i64 x, .bool q]) ∧ St2 W w' B g vs f B2 g2 vs2' f' n lim ∧ Goes w w' n B2 g2 vs2 vs2' :=
  (rTake h.r hr).mono fun e w' ⟨vs', h1, h2, h3⟩ => ⟨vs', h1, h.right h2 h3 (hr.fine h.fr), h3⟩
theorem sDrain (h : St2 W w B g vs f B2 g2 vs2 f2 n lim) {cpu : Int} (hr : DrainIs n f cpu l f') :
    Calls Try.prog 17 #[.pointer (some ⟨B, 0, none⟩), .int .i64 cpu] w fun e w' => ∃ v vs', e = .returned v ∧ St2 W w' B g vs' f' B2 g2 vs2 f2 n lim ∧ Goes w w' n B g vs vs' ∧ Off2 W w' n B g vs' B2 g2 vs2 v l :=
  (cDrain h.a hr).mono fun e w' ⟨v, vs', h1, h2, h3, h4⟩ => ⟨v, vs', h1, h.left h2 h3 (hr.fine h.fa), h3, h.out h4⟩
theorem srDrain (h : St2 W w B g vs f B2 g2 vs2 f2 n lim) {cpu : Int} (hr : DrainIs n f2 cpu l f') :
    Calls Try.prog 21 #[.pointer (some ⟨B2, 0, none⟩), .int .i64 cpu] w fun e w' => ∃ v vs2', e = .returned v ∧ St2 W w' B g vs f B2 g2 vs2' f' n lim ∧ Goes w w' n B2 g2 vs2 vs2' ∧ Off2 W w' n B g vs B2 g2 vs2' v l :=
  (rDrain h.r hr).mono fun e w' ⟨v, vs', h1, h2, h3, h4⟩ => ⟨v, vs', h1, h.right h2 h3 (hr.fine h.fr), h3, h.outR h4⟩
/-- what is written into a list that was answered -/
structure Wiped (w0 w : World) (r N : Nat) : Prop where
  k : Kept (· = r) w0 w
  c : ∃ cur, w.heap[r]? = some (.cells cur 3 (0, 0)) ∧ N ≤ cur.size
theorem Wiped.set {w0 : World} {r N i : Nat} (h : Wiped w0 w r N) (u : Value) : Wiped w0 (w.setCell ⟨r, i, none⟩ u) r N := by
  obtain ⟨cur, h1, h2⟩ := h.c
  exact ⟨Kept.setCell (S := (· = r)) (p := ⟨r, i, none⟩) h.k rfl u, _, cells_set h1 i u, by simpa using h2⟩
theorem Wiped.at {w0 : World} {r N i : Nat} (h : Wiped w0 w r N) (hi : i < N) : (∃ u, w.cell? ⟨r, i, none⟩ = some u) ∧ w.frozen? ⟨r, i, none⟩ = false := by
  obtain ⟨cur, h1, h2⟩ := h.c
  exact ⟨⟨_, self_cell h1 i _ (Array.getElem?_eq_getElem (by omega))⟩, self_free h1 i⟩
theorem Res.wiped {A : Nat → Prop} (h : Res w v l A) : (v = .slice none 0 0 ∧ l = []) ∨ ∃ r cap, v = .slice (some ⟨r, 0, none⟩) l.length cap ∧ l.length ≤ cap ∧ cap ≤ 9223372036854775807 ∧ A r ∧ Wiped w w r l.length := by
  rcases h with h | ⟨r, cap, cur, e, h1, h2, h3, hb, hc⟩
  · exact .inl h
  · refine .inr ⟨r, cap, e, h1, by unfold maxLen at h2; omega, h3, Kept.refl _ _, cur, hb, ?_⟩
    by_cases h0 : l.length = 0
    · omega
    · have := hc (l.length - 1) (by omega)
      have := (Array.getElem?_eq_some_iff.1 this).1
      omega
theorem St2.wiped {r N : Nat} (h : St2 W w B g vs f B2 g2 vs2 f2 n lim) (hA : ¬ Own n B g vs r ∧ ¬ Own n B2 g2 vs2 r ∧ W.heap.size ≤ r) (hw : Wiped w w' r N) : St2 W w' B g vs f B2 g2 vs2 f2 n lim :=
  ⟨h.a.kept hw.k (fun k o e => hA.1 (e ▸ o)), h.r.kept hw.k (fun k o e => hA.2.1 (e ▸ o)), h.fa, h.fr, below_kept h.low hw.k (fun k e => by rw [e]; exact hA.2.2), h.ge, h.ge2, h.dis⟩
end
end Go.Proofs.Ytpmlmpkjmgebnaa
