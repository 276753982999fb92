/-
  The blocks of a table, gone through by a range function.
-/
import Derived.Test.YtpohfecbogppkaaStart1
import Derived.RangeFuncBox
import Derived.RangeFuncLeaves
import Derived.RangeFuncNested
import Derived.RangeFuncBound
import Derived.RangeFuncCalls
import Derived.Shelf.Abstract
import Derived.Shelf.RegionOpen
import Derived.OwnWalkIn
import Derived.TacticsInMore
import Derived.LoopNIn
import Derived.LoopIn
set_option linter.unusedVariables false
set_option linter.unusedSimpArgs false
namespace Go.Proofs.Ytpohfecbogppkaa
open Go Go.RowKit Go.Shelf

attribute [local go_sem] Oper.semAt_some

abbrev Bk (l : List Pg) := {x : Nat // x < l.length ∧ Starts l x}
abbrev vals {l : List Pg} (ys : List (Bk l)) : List Nat := ys.map (·.1)
/-- Of the blocks of cells only B changes. -/
structure KeptC (B : Nat) (W W' : World) : Prop where
  size : W.heap.size ≤ W'.heap.size
  block : ∀ (j : Nat) (o : Obj), W.heap[j]? = some o → o.isCells = true → j ≠ B → W'.heap[j]? = some o
section
variable {B : Nat} {W W' W2 : World}
theorem KeptC.refl (B : Nat) (W : World) : KeptC B W W := ⟨Nat.le_refl _, fun _ _ h _ _ => h⟩
theorem KeptC.trans (h : KeptC B W W') (k : KeptC B W' W2) : KeptC B W W2 := ⟨Nat.le_trans h.size k.size, fun j o h1 h2 h3 => k.block j o (h.block j o h1 h2 h3) h2 h3⟩
theorem KeptC.ofBelow (h : Below W.heap.size W W') : KeptC B W W' := ⟨h.size, fun j o h1 _ _ => (h.block j (Array.getElem?_eq_some_iff.1 h1).1).trans h1⟩
theorem KeptC.setCell (W : World) (j : Nat) (v : Value) : KeptC B W (W.setCell ⟨B, j, none⟩ v) := ⟨(KeepsWalks.setCell W _ v).size, fun i o h1 _ h3 => (Below.heap_setCell _ _ _ i h3).trans h1⟩
theorem KeptC.putObj (W : World) {l : Nat} {o : Obj} (o' : Obj) (h : W.heap[l]? = some o) (ho : o.isCells = false) : KeptC B W (W.putObj l o') :=
  ⟨by simp, fun j o2 h1 h2 _ => (World.putObj_heap_other (fun e => by subst e; rw [h] at h1; cases h1; rw [ho] at h2; cases h2)).trans h1⟩
theorem KeptC.cell {p : Addr} {u : Value} (h : KeptC B W W') (hc : W.cell? p = some u) (hne : p.block ≠ B) : W'.cell? p = some u := by
  have hlt := World.block_lt_of_cell? W _ hc
  have ho : W.heap[p.block]? = some W.heap[p.block] := Array.getElem?_eq_getElem hlt
  generalize W.heap[p.block] = o at ho
  have hi : o.isCells = true := by
    obtain ⟨b, i, s⟩ := p
    dsimp only at ho
    unfold World.cell? at hc
    dsimp only at hc
    rw [ho] at hc
    cases o <;> first | rfl | (cases s <;> simp at hc)
  have h2 := h.block _ o ho hi hne
  obtain ⟨b, i, s⟩ := p
  dsimp only at ho h2
  unfold World.cell? at hc ⊢
  dsimp only at hc ⊢
  rw [h2]
  rw [ho] at hc
  exact hc
theorem ShowP.keptC {l : List Pg} {ao : Option Addr} {n cap : Nat} (h : ShowP W (.slice ao n cap) l) (hk : KeptC B W W') (hne : ∀ b o, ao = some ⟨b, o, none⟩ → b ≠ B) : ShowP W' (.slice ao n cap) l := by
  obtain ⟨hl, ao', cap', hv, hc, hs⟩ := h
  cases hv
  refine ⟨hl, ao, cap, rfl, hc, fun hn => ?_⟩
  obtain ⟨b, o, ha, hx⟩ := hs hn
  refine ⟨b, o, ha, fun j hj => ?_⟩
  have h1 := hx j hj
  have h2 : (pgs l)[j]? = some ((pgs l)[j]'(by omega)) := List.getElem?_eq_getElem (by omega)
  rw [h2] at h1
  rw [h2, hk.cell h1 (hne b o ha)]
end
theorem grown_of_below {B : Nat} {w w' : World} {row : Option Nat} (h : Below B w w') (hB : w.heap.size ≤ B) : w.grownBy w' row := ⟨h.os, h.tape, h.output, h.size, fun k hk _ => h.block k (by omega)⟩
theorem keptC_b {B : Nat} {w : World} (W : World) (l : Nat) (o o' : Obj) (hl : w.heap.size ≤ l) (h : W.heap[l]? = some o) (ho : o.isCells = false) (_ : o.isWalk = false) : KeptC B W (W.putObj l o') := KeptC.putObj W o' h ho
theorem startYes (u : Value) (l : List Pg) (a : Nat) (hl : l.length ≤ 1024) (ha : a < l.length) (w : World) (hs : ShowP w u l) (h : Starts l a) (v : Value) (hv : blkV l a = v) :
    Calls Try.prog 48 #[u, .int .i64 a] w fun e w' => e = .returned (.tuple #[v, .bool true]) ∧ Below w.heap.size w w' := by
  subst hv
  refine (cStarting u l a hl ha w hs).mono ?_
  rintro e w' ⟨h1 | h1, hb⟩
  · exact ⟨h1.2, hb⟩
  · exact absurd h h1.1
theorem startNo (u : Value) (l : List Pg) (a : Nat) (hl : l.length ≤ 1024) (ha : a < l.length) (w : World) (hs : ShowP w u l) (h : ¬ Starts l a) :
    Calls Try.prog 48 #[u, .int .i64 a] w fun e w' => e = .returned (.tuple #[.agg #[.int .i64 0, .int .i64 0, .int .i64 0, .int .i64 0, .int .i64 0], .bool false]) ∧ Below w.heap.size w w' := by
  refine (cStarting u l a hl ha w hs).mono ?_
  rintro e w' ⟨h1 | h1, hb⟩
  · exact absurd h1.1 h
  · exact ⟨h1.2, hb⟩
/-- all blocks, or those ahead of the first page at which none starts -/
def AllOf (l : List Pg) (ys : List (Bk l)) : Prop := ∃ e, Chain l (vals ys) e ∧ (e < l.length → ¬ Starts l e)
/-- some blocks, from the first on, and one more -/
def SomeOf (l : List Pg) (pre : List (Bk l)) : Prop := ∃ (ys : List (Bk l)) (x : Bk l), pre = ys ++ [x] ∧ Chain l (vals ys) x.1

set_option maxHeartbeats 4000000 in
set_option maxRecDepth 100000 in
theorem blocks1_in (n : Nat) (hn : 2 ≤ n) (r Bs B : Nat) (ao : Option Addr) (cap : Nat) (l : List Pg) (hl : l.length ≤ 1024) (J Jx : List (Bk l) → World → Prop)
    (hJ : ∀ s X Y, J s X → Below X.heap.size X Y → J s Y)
    (hJx : ∀ s X Y, Jx s X → Below X.heap.size X Y → Jx s Y)
    (hY : ∀ pre (x : Bk l) W, J pre W → pre.length < l.length → YieldAt Fence.wide (n - 1) Try.prog r #[blkV l x.1] W fun e W' =>
      (e = .returned (.bool true) ∧ J (pre ++ [x]) W' ∧ KeptC B W W') ∨ (e = .returned (.bool false) ∧ Jx (pre ++ [x]) W'))
    (W : World) (hBs : W.cell? ⟨Bs, 0, none⟩ = some (.slice ao l.length cap)) (hne : Bs ≠ B) (hs : ShowP W (.slice ao l.length cap) l) (hao : ∀ b o, ao = some ⟨b, o, none⟩ → b ≠ B) (hBW : B < W.heap.size) (h0 : J [] W) :
    CallsIn Fence.wide n Try.prog 47 #[.func (.yield r) #[] #[], .pointer (some ⟨Bs, 0, none⟩)] W fun e W' => (∃ v, e = .returned v) ∧
      ((∃ ys, AllOf l ys ∧ J ys W') ∨ (∃ pre, SomeOf l pre ∧ Jx pre W')) := by
  have hro : Fence.wide.round = none := rfl
  have hn1 : 1 ≤ n := by omega
  have hf : Fence.wide.fn 47 := trivial
  have HS := Lib.hid hs
  have hcapl := hs.form
  obtain ⟨_, _, hsl, hcap, _⟩ := hcapl
  cases hsl
  clear hs
  refine callsIn_of_wp Try.func47 rfl hf ?_ hro
  simp only [Try.ntmps47, List.size_toArray, List.length_cons, List.length_nil, Nat.reduceAdd, Nat.reduceSub, Array.replicate_succ, Array.replicate_zero, List.push_toArray, List.append_toArray, List.nil_append, List.cons_append]
  gi_wp2
  gi_loopw [3] (fun i wr => ∃ (k : Nat) (ys : List (Bk l)), k ≤ l.length ∧ i = .int .i64 k ∧ Hid (Chain l (vals ys) k) ∧ J ys wr ∧ wr.cell? ⟨Bs, 0, none⟩ = some (.slice ao l.length cap) ∧ Hid (ShowP wr (.slice ao l.length cap) l) ∧ B < wr.heap.size)
    (fun i _ => l.length - (intOf i).toNat)
  case atStart => exact ⟨0, [], Nat.zero_le _, rfl, Lib.hid Chain.nil, h0, hBs, HS, hBW⟩
  case round =>
    obtain ⟨k, ys, hk, rfl, HC, hJs, hcs, HS2, hBr⟩ := hrel
    clear h0 hBs HS hBW
    by_cases hlt : k < l.length
    · by_cases hst : Starts l k
      · have hfit := hst.fits
        have hpos := (pg l k).sz_pos
        obtain ⟨T, hT⟩ : ∃ T, k + (pg l k).sz = T := ⟨_, rfl⟩
        have hT1 : k < T ∧ T ≤ l.length := by omega
        have HV : Hid (blkV l k = .agg #[.int .i64 (pg l k).kind, .int .i64 (pg l k).order, .int .i64 (pg l k).cache, .int .i64 (k : Int), .int .i64 (T : Int)]) := Lib.hid (by unfold blkV; rw [hT])
        have HN : Hid (Chain l (vals (ys ++ [⟨k, hlt, hst⟩])) T) := Lib.hid (by have := Chain.snoc _ _ HC.out hlt hst; rw [hT] at this; simpa [vals] using this)
        have HY := Lib.hid (hY ys ⟨k, hlt, hst⟩)
        have hlen : ys.length < l.length := by have := HC.out.le.2; simp at this; omega
        clear hT hfit hpos
        gi_wp2_with fail
        refine ⟨trivial, ?_⟩
        refine (callsIn_wide.2 (startYes _ l k hl hlt _ HS2.out hst _ HV.out)).mono ?_
        rintro e w1 ⟨rfl, hb⟩
        have hc1 := cell_keep hb hcs
        have hyy := HY.out (w1.alloc (.cells #[.int .i64 (pg l k).kind, .int .i64 (pg l k).order, .int .i64 (pg l k).cache, .int .i64 (k : Int), .int .i64 (T : Int)] 70)) (hJ _ _ _ hJs (below_one hb _)) hlen
        rw [HV.out] at hyy
        obtain ⟨fn, tmps, assign, body, hy, hR⟩ := hyy
        gi_wp2
        refine hR.mono ?_
        rintro e W3 (⟨rfl, hJ3, hk3⟩ | ⟨rfl, hJx3⟩)
        · have hb1 := (hk3.block _ _ (heap_new w1 _) rfl (by have := hb.size; omega))
          have hKw : KeptC B wr W3 := (KeptC.ofBelow (below_one hb _)).trans hk3
          obtain ⟨_, _, _, _, x4⟩ := self5 hb1
          have hc3 := hKw.cell hcs hne
          have HS3 : Hid (ShowP W3 (.slice ao l.length cap) l) := Lib.hid (ShowP.keptC (n := l.length) HS2.out hKw hao)
          have hB3 : B < W3.heap.size := by have := hKw.size; omega
          clear hb1 hc1 hcs
          gi_wp2
          go_roundw
          case rel => exact ⟨T, _, hT1.2, rfl, HN, hJ3, hc3, HS3, hB3⟩
          case measure => simp [intOf]; omega
        · gi_wp2
          refine bodyPost_ret (results_none rfl _ _ _) rfl ?_
          exact ⟨⟨_, rfl⟩, .inr ⟨_, ⟨ys, ⟨k, hlt, hst⟩, rfl, HC.out⟩, hJx3⟩⟩
      · have HN : Hid (AllOf l ys) := Lib.hid ⟨k, HC.out, fun _ => hst⟩
        gi_wp2_with fail
        refine ⟨trivial, ?_⟩
        refine (callsIn_wide.2 (startNo _ l k hl hlt _ HS2.out hst)).mono ?_
        rintro e w1 ⟨rfl, hb⟩
        have HJ1 := Lib.hid (hJ _ _ _ hJs (below_one hb (.cells #[.int .i64 0, .int .i64 0, .int .i64 0, .int .i64 0, .int .i64 0] 70)))
        gi_wp2
        refine ⟨fun _ h => (by cases h), ?_⟩
        gi_wp2
        refine bodyPost_ret (results_none rfl _ _ _) rfl ?_
        exact ⟨⟨_, rfl⟩, .inl ⟨ys, HN.out, HJ1.out⟩⟩
    · have HN : Hid (AllOf l ys) := Lib.hid ⟨k, HC.out, fun h => absurd h hlt⟩
      gi_wp2
      go_end0
      exact ⟨⟨_, rfl⟩, .inl ⟨ys, HN.out, hJs⟩⟩
end Go.Proofs.Ytpohfecbogppkaa
