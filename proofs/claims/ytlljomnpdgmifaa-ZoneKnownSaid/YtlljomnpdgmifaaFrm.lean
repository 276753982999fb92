/-
  Blocks, Check, Free of the program's tables.
-/
import Derived.Test.YtlljomnpdgmifaaMem
import Derived.RangeFuncBox
import Derived.RangeFuncLeaves
import Derived.RangeFuncNested
import Derived.RangeFuncBound
import Derived.RangeFuncCalls
import Derived.Shelf.Abstract
import Derived.Shelf.RegionOpen
import Derived.OwnWalkIn
import Derived.TacticsInMore
import Derived.LoopNIn
import Derived.LoopIn
set_option linter.unusedVariables false
set_option linter.unusedSimpArgs false
namespace Go.Proofs.Ytlljomnpdgmifaa
open Go Go.RowKit

attribute [local go_sem] Oper.semAt_some

abbrev Bk (l : List Pg) := {x : Nat // x < l.length ∧ Starts l x}
abbrev vals {l : List Pg} (ys : List (Bk l)) : List Nat := ys.map (·.1)
/-- Of the blocks of cells only B changes. -/
structure KeptC (B : Nat) (W W' : World) : Prop where
  size : W.heap.size ≤ W'.heap.size
  block : ∀ (j : Nat) (o : Obj), W.heap[j]? = some o → o.isCells = true → j ≠ B → W'.heap[j]? = some o
section
variable {B : Nat} {W W' W2 : World}
theorem KeptC.refl (B : Nat) (W : World) : KeptC B W W := ⟨Nat.le_refl _, fun _ _ h _ _ => h⟩
theorem KeptC.trans (h : KeptC B W W') (k : KeptC B W' W2) : KeptC B W W2 := ⟨Nat.le_trans h.size k.size, fun j o h1 h2 h3 => k.block j o (h.block j o h1 h2 h3) h2 h3⟩
theorem KeptC.ofBelow (h : Below W.heap.size W W') : KeptC B W W' := ⟨h.size, fun j o h1 _ _ => (h.block j (Array.getElem?_eq_some_iff.1 h1).1).trans h1⟩
theorem KeptC.setCell (W : World) (j : Nat) (v : Value) : KeptC B W (W.setCell ⟨B, j, none⟩ v) := ⟨(KeepsWalks.setCell W _ v).size, fun i o h1 _ h3 => (Below.heap_setCell _ _ _ i h3).trans h1⟩
theorem KeptC.putObj (W : World) {l : Nat} {o : Obj} (o' : Obj) (h : W.heap[l]? = some o) (ho : o.isCells = false) : KeptC B W (W.putObj l o') :=
  ⟨by simp, fun j o2 h1 h2 _ => (World.putObj_heap_other (fun e => by subst e; rw [h] at h1; cases h1; rw [ho] at h2; cases h2)).trans h1⟩
theorem KeptC.cell {p : Addr} {u : Value} (h : KeptC B W W') (hc : W.cell? p = some u) (hne : p.block ≠ B) : W'.cell? p = some u := by
  have hlt := World.block_lt_of_cell? W _ hc
  have ho : W.heap[p.block]? = some W.heap[p.block] := Array.getElem?_eq_getElem hlt
  generalize W.heap[p.block] = o at ho
  have hi : o.isCells = true := by
    obtain ⟨b, i, s⟩ := p
    dsimp only at ho
    unfold World.cell? at hc
    dsimp only at hc
    rw [ho] at hc
    cases o <;> first | rfl | (cases s <;> simp at hc)
  have h2 := h.block _ o ho hi hne
  obtain ⟨b, i, s⟩ := p
  dsimp only at ho h2
  unfold World.cell? at hc ⊢
  dsimp only at hc ⊢
  rw [h2]
  rw [ho] at hc
  exact hc
theorem ShowP.keptC {l : List Pg} {ao : Option Addr} {n cap : Nat} (h : ShowP W (.slice ao n cap) l) (hk : KeptC B W W') (hne : ∀ b o, ao = some ⟨b, o, none⟩ → b ≠ B) : ShowP W' (.slice ao n cap) l := by
  obtain ⟨hl, ao', cap', hv, hc, hs⟩ := h
  cases hv
  refine ⟨hl, ao, cap, rfl, hc, fun hn => ?_⟩
  obtain ⟨b, o, ha, hx⟩ := hs hn
  refine ⟨b, o, ha, fun j hj => ?_⟩
  have h1 := hx j hj
  have h2 : (pgs l)[j]? = some ((pgs l)[j]'(by omega)) := List.getElem?_eq_getElem (by omega)
  rw [h2] at h1
  rw [h2, hk.cell h1 (hne b o ha)]
end
theorem grown_of_below {B : Nat} {w w' : World} {row : Option Nat} (h : Below B w w') (hB : w.heap.size ≤ B) : w.grownBy w' row := ⟨h.os, h.tape, h.output, h.size, fun k hk _ => h.block k (by omega)⟩
theorem keptC_b {B : Nat} {w : World} (W : World) (l : Nat) (o o' : Obj) (hl : w.heap.size ≤ l) (h : W.heap[l]? = some o) (ho : o.isCells = false) (_ : o.isWalk = false) : KeptC B W (W.putObj l o') := KeptC.putObj W o' h ho
theorem startYes (u : Value) (l : List Pg) (a : Nat) (hl : l.length ≤ 1024) (ha : a < l.length) (w : World) (hs : ShowP w u l) (h : Starts l a) (v : Value) (hv : blkV l a = v) :
    Calls Try.prog 93 #[u, .int .i64 a] w fun e w' => e = .returned (.tuple #[v, .bool true]) ∧ Below w.heap.size w w' := by
  subst hv
  refine (cStarting u l a hl ha w hs).mono ?_
  rintro e w' ⟨h1 | h1, hb⟩
  · exact ⟨h1.2, hb⟩
  · exact absurd h h1.1
theorem startNo (u : Value) (l : List Pg) (a : Nat) (hl : l.length ≤ 1024) (ha : a < l.length) (w : World) (hs : ShowP w u l) (h : ¬ Starts l a) :
    Calls Try.prog 93 #[u, .int .i64 a] w fun e w' => e = .returned (.tuple #[.agg #[.int .i64 0, .int .i64 0, .int .i64 0, .int .i64 0, .int .i64 0], .bool false]) ∧ Below w.heap.size w w' := by
  refine (cStarting u l a hl ha w hs).mono ?_
  rintro e w' ⟨h1 | h1, hb⟩
  · exact absurd h1.1 h
  · exact ⟨h1.2, hb⟩
/-- all blocks, or those ahead of the first page at which none starts -/
def AllOf (l : List Pg) (ys : List (Bk l)) : Prop := ∃ e, Chain l (vals ys) e ∧ (e < l.length → ¬ Starts l e)
/-- some blocks, from the first on, and one more -/
def SomeOf (l : List Pg) (pre : List (Bk l)) : Prop := ∃ (ys : List (Bk l)) (x : Bk l), pre = ys ++ [x] ∧ Chain l (vals ys) x.1

set_option maxHeartbeats 4000000 in
set_option maxRecDepth 100000 in
theorem blocks1_in (n : Nat) (hn : 2 ≤ n) (r Bs B : Nat) (ao : Option Addr) (cap : Nat) (l : List Pg) (hl : l.length ≤ 1024) (J Jx : List (Bk l) → World → Prop)
    (hJ : ∀ s X Y, J s X → Below X.heap.size X Y → J s Y)
    (hJx : ∀ s X Y, Jx s X → Below X.heap.size X Y → Jx s Y)
    (hY : ∀ pre (x : Bk l) W, J pre W → pre.length < l.length → YieldAt Fence.wide (n - 1) Try.prog r #[blkV l x.1] W fun e W' =>
      (e = .returned (.bool true) ∧ J (pre ++ [x]) W' ∧ KeptC B W W') ∨ (e = .returned (.bool false) ∧ Jx (pre ++ [x]) W'))
    (W : World) (hBs : W.cell? ⟨Bs, 0, none⟩ = some (.slice ao l.length cap)) (hne : Bs ≠ B) (hs : ShowP W (.slice ao l.length cap) l) (hao : ∀ b o, ao = some ⟨b, o, none⟩ → b ≠ B) (hBW : B < W.heap.size) (h0 : J [] W) :
    CallsIn Fence.wide n Try.prog 92 #[.func (.yield r) #[] #[], .pointer (some ⟨Bs, 0, none⟩)] W fun e W' => (∃ v, e = .returned v) ∧
      ((∃ ys, AllOf l ys ∧ J ys W') ∨ (∃ pre, SomeOf l pre ∧ Jx pre W')) := by
  have hro : Fence.wide.round = none := rfl
  have hn1 : 1 ≤ n := by omega
  have hf : Fence.wide.fn 92 := trivial
  have HS := Lib.hid hs
  have hcapl := hs.form
  obtain ⟨_, _, hsl, hcap, _⟩ := hcapl
  cases hsl
  clear hs
  refine callsIn_of_wp Try.func92 rfl hf ?_ hro
  simp only [Try.ntmps92, List.size_toArray, List.length_cons, List.length_nil, Nat.reduceAdd, Nat.reduceSub, Array.replicate_succ, Array.replicate_zero, List.push_toArray, List.append_toArray, List.nil_append, List.cons_append]
  gi_wp2
  gi_loopw [3] (fun i wr => ∃ (k : Nat) (ys : List (Bk l)), k ≤ l.length ∧ i = .int .i64 k ∧ Hid (Chain l (vals ys) k) ∧ J ys wr ∧ wr.cell? ⟨Bs, 0, none⟩ = some (.slice ao l.length cap) ∧ Hid (ShowP wr (.slice ao l.length cap) l) ∧ B < wr.heap.size)
    (fun i _ => l.length - (intOf i).toNat)
  case atStart => exact ⟨0, [], Nat.zero_le _, rfl, Lib.hid Chain.nil, h0, hBs, HS, hBW⟩
  case round =>
    obtain ⟨k, ys, hk, rfl, HC, hJs, hcs, HS2, hBr⟩ := hrel
    clear h0 hBs HS hBW
    by_cases hlt : k < l.length
    · by_cases hst : Starts l k
      · have hfit := hst.fits
        have hpos := (pg l k).sz_pos
        obtain ⟨T, hT⟩ : ∃ T, k + (pg l k).sz = T := ⟨_, rfl⟩
        have hT1 : k < T ∧ T ≤ l.length := by omega
        have HV : Hid (blkV l k = .agg #[.int .i64 (pg l k).kind, .int .i64 (pg l k).order, .int .i64 (pg l k).cache, .int .i64 (k : Int), .int .i64 (T : Int)]) := Lib.hid (by unfold blkV; rw [hT])
        have HN : Hid (Chain l (vals (ys ++ [⟨k, hlt, hst⟩])) T) := Lib.hid (by have := Chain.snoc _ _ HC.out hlt hst; rw [hT] at this; simpa [vals] using this)
        have HY := Lib.hid (hY ys ⟨k, hlt, hst⟩)
        have hlen : ys.length < l.length := by have := HC.out.le.2; simp at this; omega
        clear hT hfit hpos
        gi_wp2_with fail
        refine ⟨trivial, ?_⟩
        refine (callsIn_wide.2 (startYes _ l k hl hlt _ HS2.out hst _ HV.out)).mono ?_
        rintro e w1 ⟨rfl, hb⟩
        have hc1 := cell_keep hb hcs
        have hyy := HY.out (w1.alloc (.cells #[.int .i64 (pg l k).kind, .int .i64 (pg l k).order, .int .i64 (pg l k).cache, .int .i64 (k : Int), .int .i64 (T : Int)] 116)) (hJ _ _ _ hJs (below_one hb _)) hlen
        rw [HV.out] at hyy
        obtain ⟨fn, tmps, assign, body, hy, hR⟩ := hyy
        gi_wp2
        refine hR.mono ?_
        rintro e W3 (⟨rfl, hJ3, hk3⟩ | ⟨rfl, hJx3⟩)
        · have hb1 := (hk3.block _ _ (heap_new w1 _) rfl (by have := hb.size; omega))
          have hKw : KeptC B wr W3 := (KeptC.ofBelow (below_one hb _)).trans hk3
          obtain ⟨_, _, _, _, x4⟩ := self5 hb1
          have hc3 := hKw.cell hcs hne
          have HS3 : Hid (ShowP W3 (.slice ao l.length cap) l) := Lib.hid (ShowP.keptC (n := l.length) HS2.out hKw hao)
          have hB3 : B < W3.heap.size := by have := hKw.size; omega
          clear hb1 hc1 hcs
          gi_wp2
          go_roundw
          case rel => exact ⟨T, _, hT1.2, rfl, HN, hJ3, hc3, HS3, hB3⟩
          case measure => simp [intOf]; omega
        · gi_wp2
          refine bodyPost_ret (results_none rfl _ _ _) rfl ?_
          exact ⟨⟨_, rfl⟩, .inr ⟨_, ⟨ys, ⟨k, hlt, hst⟩, rfl, HC.out⟩, hJx3⟩⟩
      · have HN : Hid (AllOf l ys) := Lib.hid ⟨k, HC.out, fun _ => hst⟩
        gi_wp2_with fail
        refine ⟨trivial, ?_⟩
        refine (callsIn_wide.2 (startNo _ l k hl hlt _ HS2.out hst)).mono ?_
        rintro e w1 ⟨rfl, hb⟩
        have HJ1 := Lib.hid (hJ _ _ _ hJs (below_one hb (.cells #[.int .i64 0, .int .i64 0, .int .i64 0, .int .i64 0, .int .i64 0] 116)))
        gi_wp2
        refine ⟨fun _ h => (by cases h), ?_⟩
        gi_wp2
        refine bodyPost_ret (results_none rfl _ _ _) rfl ?_
        exact ⟨⟨_, rfl⟩, .inl ⟨ys, HN.out, HJ1.out⟩⟩
    · have HN : Hid (AllOf l ys) := Lib.hid ⟨k, HC.out, fun h => absurd h hlt⟩
      gi_wp2
      go_end0
      exact ⟨⟨_, rfl⟩, .inl ⟨ys, HN.out, hJs⟩⟩

attribute [local go_sem] Oper.semAt_some

set_option maxHeartbeats 1000000 in
theorem blocks_in (n : Nat) (a : Option Addr) (len cap : Nat) (w : World) :
    CallsIn Fence.wide n Try.prog 85 #[.slice a len cap] w fun e w' => e = .returned (.func (.func 92) #[] #[.pointer (some ⟨w.heap.size, 0, none⟩)]) ∧ w' = w.alloc (.cells #[.slice a len cap] 75) := by
  refine callsIn_of_wp Try.func85 rfl trivial ?_ rfl
  simp only [Try.ntmps85, List.size_toArray, List.length_cons, List.length_nil, Nat.reduceAdd, Nat.reduceSub, Array.replicate_succ, Array.replicate_zero, List.push_toArray, List.append_toArray, List.nil_append, List.cons_append]
  gi_wp2
  go_ret
  exact ⟨rfl, rfl⟩
theorem blocks_stops (n : Nat) (hn : 2 ≤ n) (Bs B : Nat) (ao : Option Addr) (cap : Nat) (l : List Pg) (hl : l.length ≤ 1024) (w : World) (hBw : B < w.heap.size) (hBs : w.cell? ⟨Bs, 0, none⟩ = some (.slice ao l.length cap)) (hne : Bs ≠ B) (hs : ShowP w (.slice ao l.length cap) l) (hao : ∀ b o, ao = some ⟨b, o, none⟩ → b ≠ B) :
    SeqStopsK Fence.wide n Try.prog 92 #[.pointer (some ⟨Bs, 0, none⟩)] (fun x : Bk l => #[blkV l x.1]) (KeptC B) (AllOf l) (SomeOf l) l.length w := fun r J Jx W hW hJ hJx hY h0 =>
  blocks1_in n hn r Bs B ao cap l hl J Jx (fun s X Y h hb => hJ s X Y none h (grown_of_below hb (Nat.le_refl _)) (fun r e => by cases e)) (fun s X Y h hb => hJx s X Y none h (grown_of_below hb (Nat.le_refl _)) (fun r e => by cases e)) hY W
    (cell_keep hW hBs) hne (hs.below hW) hao (by have := hW.size; omega) h0
/-- a block in its box -/
def Box5 (l : List Pg) (x : Nat) (B : Nat) (W : World) : Prop := W.heap[B]? = some (.cells #[.int .i64 (pg l x).kind, .int .i64 (pg l x).order, .int .i64 (pg l x).cache, .int .i64 (x : Int), .int .i64 ((x + (pg l x).sz : Nat) : Int)] 116)
theorem Box5.own (l : List Pg) (x B m : Nat) : OwnFrom m (fun (_ : Unit) W => Box5 l x B W) := fun _ X Y row h hg hr =>
  (hg.block B (lt_of_block h) (fun e => by obtain ⟨_, o, ho, hc⟩ := hr B e.symm; rw [show X.heap[B]? = _ from h] at ho; cases ho; cases hc)).trans h
theorem Box5.new (l : List Pg) (x : Nat) (W : World) : Box5 l x W.heap.size (W.alloc (.cells #[.int .i64 (pg l x).kind, .int .i64 (pg l x).order, .int .i64 (pg l x).cache, .int .i64 (x : Int), .int .i64 ((x + (pg l x).sz : Nat) : Int)] 116)) := heap_new _ _
theorem AllOf.valid {l : List Pg} {ys : List (Bk l)} (h : AllOf l ys) : endOf l (vals ys) ≤ l.length ∧ (Good l 0 ↔ ¬ endOf l (vals ys) < l.length) := by
  obtain ⟨e, hc, hn⟩ := h
  have hle := hc.le.1
  rw [hc.endOf]
  refine ⟨hle, hc.good.trans ⟨fun h hlt => hn hlt (h.starts hlt), fun h => ?_⟩⟩
  obtain rfl : e = l.length := by omega
  exact Good.done

set_option maxHeartbeats 4000000 in
set_option maxRecDepth 100000 in
theorem Check_in (u : Value) (l : List Pg) (hl1 : 1 ≤ l.length) (hl : l.length ≤ 1024) (c : Int) (hc : chkF l = c) (w : World) (hs : ShowP w u l) :
    CallsIn Fence.wide 8 Try.prog 84 #[u] w fun e W' => e = .returned (.int .i64 c) ∧ Below w.heap.size w W' := by
  obtain ⟨ao, cap, rfl, hcap, hat⟩ := hs.form
  obtain ⟨b0, o0, rfl, c0, _, _⟩ := hat 0 (by omega)
  have hb0 : b0 < w.heap.size := World.block_lt_of_cell? w _ c0
  have HS := Lib.hid hs
  have HC := Lib.hid hc
  clear hat hs c0 hc
  have h1 : 1 ≤ 8 := by omega
  have hd1 : decide ((l.length : Int) < 1) = false := decide_eq_false (by omega)
  have hd2 : decide ((1024 : Int) < (l.length : Int)) = false := decide_eq_false (by omega)
  have hro : Fence.wide.round = none := rfl
  refine callsIn_of_wp_marks Try.func84 rfl trivial ?_ hro
  simp only [Try.ntmps84, List.size_toArray, List.length_cons, List.length_nil, Nat.reduceAdd, Nat.reduceSub, Array.replicate_succ, Array.replicate_zero, List.push_toArray, List.append_toArray, List.nil_append, List.cons_append]
  gi_wp2_with fail
  refine ⟨trivial, ?_⟩
  refine (blocks_in _ _ _ _ _).mono ?_
  rintro e w' ⟨rfl, rfl⟩
  gi_wp2
  have bE := (Boxed.new w 3 (.int .i64 0)).alloc (.cells #[.slice (some ⟨b0, o0, none⟩) l.length cap] 75)
  have bN := Boxed.new (w.alloc (.cells #[.int .i64 0] 3)) 75 (.slice (some ⟨b0, o0, none⟩) l.length cap)
  rw [World.size_alloc] at bN
  have hB0 : Below w.heap.size w ((w.alloc (.cells #[.int .i64 0] 3)).alloc (.cells #[.slice (some ⟨b0, o0, none⟩) l.length cap] 75)) := ((Below.refl _ w).alloc (Nat.le_refl _) _).alloc (by simp) _
  have hsz : ((w.alloc (.cells #[.int .i64 0] 3)).alloc (.cells #[.slice (some ⟨b0, o0, none⟩) l.length cap] 75)).heap.size = w.heap.size + 2 := by simp
  obtain ⟨W0, hW0⟩ : ∃ W0, (w.alloc (.cells #[.int .i64 0] 3)).alloc (.cells #[.slice (some ⟨b0, o0, none⟩) l.length cap] 75) = W0 := ⟨_, rfl⟩
  rw [hW0] at bE bN hB0 hsz ⊢
  clear hW0
  refine wpIn_rangeFunc_ownH hro h1 (gf := 92) (lb := #[.pointer (some ⟨w.heap.size + 1, 0, none⟩)]) rfl trivial (enters_of Try.func92 (by kernel_rfl) rfl)
    (blocks_stops (8 - 1) (by omega) (w.heap.size + 1) w.heap.size _ cap l hl W0 (by omega) bN.cell (by omega) (HS.out.below hB0) (fun b o e => by cases e; omega)) KeptC.trans (keptC_b) (Below.refl _ _) (fun _ => rfl)
    (fun pre W => Boxed W w.heap.size 3 (.int .i64 (endOf l (vals pre))) ∧ Below w.heap.size w W)
    (fun _ _ _ => False)
    (OwnFrom.and (Own.from (boxed_own _ _ _) _) (ownFrom_below (Nat.le_refl _) (by omega)))
    (fun _ _ _ _ _ hs _ _ => hs)
    ⟨bE, hB0⟩
    (fun x a' W => ∃ Bx, w.heap.size < Bx ∧ Box5 l x.1 Bx W ∧ a' = { tmps := #[.slice (some ⟨b0, o0, none⟩) l.length cap, undef, .int .i64 0, .pointer (some ⟨w.heap.size, 0, none⟩), .pointer (some ⟨Bx, 0, none⟩), .slice (some ⟨b0, o0, none⟩) l.length cap, .int .i64 l.length, .bool false, .bool false, .slice (some ⟨b0, o0, none⟩) l.length cap, .int .i64 l.length, .bool false, .bool false, .slice (some ⟨b0, o0, none⟩) l.length cap, .func (.func 92) #[] #[.pointer (some ⟨w.heap.size + 1, 0, none⟩)], blkV l x.1, undef, undef, undef, undef, undef, undef], defers := [] })
    (fun x a' _ X Y row hs hg hr => by obtain ⟨Bx, e1, e2, e3⟩ := hs; exact ⟨Bx, e1, Box5.own l x.1 Bx _ () X Y row e2 hg hr, e3⟩)
    ?assign ?body ?done ?stop
  case assign =>
    rintro r pre x W K ⟨bE1, hB1⟩ hK
    unfold blkV at *
    gi_wp2
    exact hK _ _ ((KeepsOthers.alloc _ _).from _) (KeptC.ofBelow (below_one (Below.refl _ _) _)) ⟨bE1.alloc _, hB1.alloc hB1.size _⟩ ⟨W.heap.size, bE1.lt, Box5.new l x.1 W, rfl⟩
  case body =>
    rintro r pre x a' W hlW hr ⟨bE1, hB1⟩ ⟨Bx, hBx, bX, rfl⟩ hlt
    have cE := bE1.cell
    have fE := bE1.frozen
    obtain ⟨x0, x1, x2, x3, x4⟩ := self5 bX
    have HE : Hid (endOf l (vals (pre ++ [x])) = x.1 + (pg l x.1).sz) := Lib.hid (by simp only [vals, List.map_append, List.map_cons, List.map_nil]; exact endOf_snoc _ _ _)
    gi_wp2
    refine ⟨(KeepsOthers.setCell _ _ _).from _, KeptC.setCell _ _ _, ?_, hB1.setCell (p := ⟨w.heap.size, 0, none⟩) (Nat.le_refl _) _⟩
    have := bE1.set (.int .i64 ((x.1 : Int) + ((pg l x.1).sz : Int)))
    rw [HE.out]
    simpa using this
  case done =>
    rintro D ys W hD hall ⟨bE1, hB1⟩ hK
    have cE := bE1.cell
    obtain ⟨hle, hgood⟩ := hall.valid
    have HG := Lib.hid hgood
    clear hgood hall
    generalize endOf l (vals ys) = E at bE1 cE hle HG
    by_cases hlt : E < l.length
    · have HR : Hid (c = 50) := Lib.hid (by rw [← HC.out]; exact chk_no (fun h => (HG.out.1 h.2.2) hlt))
      gi_wp2
      refine ⟨by simp, .inl ⟨_, _, rfl, run_takeDeferred hK, ?_⟩⟩
      exact ⟨_, results_tmp (t := 2) rfl _ _ _, by rw [HR.out]; rfl, hB1.trans (belowK_b (w := w) (Nat.le_refl _) W D _ _ (by omega) hK rfl rfl)⟩
    · have HR : Hid (c = 0) := Lib.hid (by rw [← HC.out]; exact chk_ok ⟨hl1, hl, HG.out.2 hlt⟩)
      gi_wp2
      refine ⟨by simp, .inl ⟨_, _, rfl, run_takeDeferred hK, ?_⟩⟩
      exact ⟨_, results_tmp (t := 2) rfl _ _ _, by rw [HR.out]; rfl, hB1.trans (belowK_b (w := w) (Nat.le_refl _) W D _ _ (by omega) hK rfl rfl)⟩
  case stop =>
    rintro D c pre W _ _ h _
    exact h.elim
set_option maxHeartbeats 1000000 in
theorem cCheck (u : Value) (l : List Pg) (c : Int) (hc : chkF l = c) (w : World) (hs : ShowP w u l) :
    Calls Try.prog 84 #[u] w fun e W' => e = .returned (.int .i64 c) ∧ Below w.heap.size w W' := by
  by_cases h1 : 1 ≤ l.length
  · by_cases h2 : l.length ≤ 1024
    · exact callsIn_wide.1 (Check_in u l h1 h2 c hc w hs)
    · have HC : Hid (c = 50) := Lib.hid (by rw [← hc]; exact chk_no (fun h => h2 h.2.1))
      obtain ⟨ao, cap, rfl, hcap, _⟩ := hs.form
      clear hc hs
      go_enter Try.func84, Try.ntmps84
      go_wp2
      go_ret
      exact ⟨by rw [HC.out]; rfl, Below.refl _ _⟩
  · have HC : Hid (c = 50) := Lib.hid (by rw [← hc]; exact chk_no (fun h => h1 h.1))
    obtain ⟨ao, cap, rfl, hcap, _⟩ := hs.form
    clear hc hs
    go_enter Try.func84, Try.ntmps84
    go_wp2
    go_ret
    exact ⟨by rw [HC.out]; rfl, Below.refl _ _⟩

attribute [local go_sem] Oper.semAt_some

theorem freeIn_le (l : List Pg) (ys : List (Bk l)) : freeIn l (vals ys) ≤ ys.length * 1024 := by
  have key : ∀ zs : List (Bk l), freeOf l (zs.map (·.1)) ≤ zs.length * 1024 := by
    intro zs
    induction zs with
    | nil => simp [freeOf]
    | cons x r ih =>
      have h1 := Pg.sz_le x.2.2.head
      simp only [List.map_cons, freeOf, List.length_cons, Nat.succ_mul]
      have h2 : (if (pg l x.1).kind = 0 then (pg l x.1).sz else 0) ≤ 1024 := by
        split
        · exact h1
        · exact Nat.zero_le _
      exact Nat.add_le_add ih h2
  have := key ys.reverse
  simpa [freeIn, vals, List.map_reverse] using this
theorem AllOf.free {l : List Pg} {ys : List (Bk l)} (h : AllOf l ys) (hg : Good l 0) : freeIn l (vals ys) = freeTo l l.length := by
  have hv := h.valid
  obtain ⟨e, hc, hn⟩ := h
  rw [hc.endOf] at hv
  have := hv.2.1 hg
  obtain rfl : e = l.length := by omega
  exact hc.free
set_option maxHeartbeats 4000000 in
set_option maxRecDepth 100000 in
theorem Free_in (u : Value) (l : List Pg) (hv : Valid l) (c : Nat) (hc : freeF l = c) (w : World) (hs : ShowP w u l) :
    CallsIn Fence.wide 8 Try.prog 62 #[u] w fun e W' => e = .returned (.int .i64 c) ∧ Below w.heap.size w W' := by
  obtain ⟨hl1, hl, hg⟩ := id hv
  have HV := Lib.hid hv
  have HCK := Lib.hid (chk_ok hv)
  clear hv hg
  obtain ⟨ao, cap, rfl, hcap, hat⟩ := hs.form
  obtain ⟨b0, o0, rfl, c0, _, _⟩ := hat 0 (by omega)
  have hb0 : b0 < w.heap.size := World.block_lt_of_cell? w _ c0
  have HS := Lib.hid hs
  have HC := Lib.hid hc
  clear hat hs c0 hc
  have h1 : 1 ≤ 8 := by omega
  have hro : Fence.wide.round = none := rfl
  refine callsIn_of_wp_marks Try.func62 rfl trivial ?_ hro
  simp only [Try.ntmps62, List.size_toArray, List.length_cons, List.length_nil, Nat.reduceAdd, Nat.reduceSub, Array.replicate_succ, Array.replicate_zero, List.push_toArray, List.append_toArray, List.nil_append, List.cons_append]
  gi_wp2_with fail
  refine ⟨trivial, ?_⟩
  refine (callsIn_wide.2 (cCheck _ l 0 HCK.out _ HS.out)).mono ?_
  rintro e w1 ⟨rfl, hb1⟩
  have hs1 := HS.out.below hb1
  have HS1 := Lib.hid hs1
  have HB1 := Lib.hid hb1
  have hz1 := hb1.size
  have hb2 : b0 < w1.heap.size := by omega
  clear hs1 hb1 HS HCK
  gi_wp2_with fail
  refine ⟨trivial, ?_⟩
  refine (blocks_in _ _ _ _ _).mono ?_
  rintro e w' ⟨rfl, rfl⟩
  gi_wp2
  have bE := (Boxed.new w1 3 (.int .i64 0)).alloc (.cells #[.slice (some ⟨b0, o0, none⟩) l.length cap] 75)
  have bN := Boxed.new (w1.alloc (.cells #[.int .i64 0] 3)) 75 (.slice (some ⟨b0, o0, none⟩) l.length cap)
  rw [World.size_alloc] at bN
  have hB0 : Below w1.heap.size w1 ((w1.alloc (.cells #[.int .i64 0] 3)).alloc (.cells #[.slice (some ⟨b0, o0, none⟩) l.length cap] 75)) := ((Below.refl _ w1).alloc (Nat.le_refl _) _).alloc (by simp) _
  have hsz : ((w1.alloc (.cells #[.int .i64 0] 3)).alloc (.cells #[.slice (some ⟨b0, o0, none⟩) l.length cap] 75)).heap.size = w1.heap.size + 2 := by simp
  obtain ⟨W0, hW0⟩ : ∃ W0, (w1.alloc (.cells #[.int .i64 0] 3)).alloc (.cells #[.slice (some ⟨b0, o0, none⟩) l.length cap] 75) = W0 := ⟨_, rfl⟩
  rw [hW0] at bE bN hB0 hsz ⊢
  clear hW0
  refine wpIn_rangeFunc_ownH hro h1 (gf := 92) (lb := #[.pointer (some ⟨w1.heap.size + 1, 0, none⟩)]) rfl trivial (enters_of Try.func92 (by kernel_rfl) rfl)
    (blocks_stops (8 - 1) (by omega) (w1.heap.size + 1) w1.heap.size _ cap l hl W0 (by omega) bN.cell (by omega) (HS1.out.below hB0) (fun b o e => by cases e; omega)) KeptC.trans (keptC_b) (Below.refl _ _) (fun _ => rfl)
    (fun pre W => Boxed W w1.heap.size 3 (.int .i64 (freeIn l (vals pre))) ∧ Below w1.heap.size w1 W)
    (fun _ _ _ => False)
    (OwnFrom.and (Own.from (boxed_own _ _ _) _) (ownFrom_below (Nat.le_refl _) (by omega)))
    (fun _ _ _ _ _ hs _ _ => hs)
    ⟨bE, hB0⟩
    (fun x a' W => ∃ Bx, w1.heap.size < Bx ∧ Box5 l x.1 Bx W ∧ a' = { tmps := #[.slice (some ⟨b0, o0, none⟩) l.length cap, undef, .int .i64 0, .pointer (some ⟨w1.heap.size, 0, none⟩), .pointer (some ⟨Bx, 0, none⟩), .slice (some ⟨b0, o0, none⟩) l.length cap, .int .i64 0, .bool false, .slice (some ⟨b0, o0, none⟩) l.length cap, .func (.func 92) #[] #[.pointer (some ⟨w1.heap.size + 1, 0, none⟩)], blkV l x.1, undef, undef, undef, undef, undef, undef, undef, undef, undef, undef, undef, undef], defers := [] })
    (fun x a' _ X Y row hs hg hr => by obtain ⟨Bx, e1, e2, e3⟩ := hs; exact ⟨Bx, e1, Box5.own l x.1 Bx _ () X Y row e2 hg hr, e3⟩)
    ?assign ?body ?done ?stop
  case assign =>
    rintro r pre x W K ⟨bE1, hB1⟩ hK
    unfold blkV at *
    gi_wp2
    exact hK _ _ ((KeepsOthers.alloc _ _).from _) (KeptC.ofBelow (below_one (Below.refl _ _) _)) ⟨bE1.alloc _, hB1.alloc hB1.size _⟩ ⟨W.heap.size, bE1.lt, Box5.new l x.1 W, rfl⟩
  case body =>
    rintro r pre x a' W hlW hr ⟨bE1, hB1⟩ ⟨Bx, hBx, bX, rfl⟩ hlt
    have cE := bE1.cell
    have fE := bE1.frozen
    obtain ⟨x0, x1, x2, x3, x4⟩ := self5 bX
    have HE : Hid (freeIn l (vals (pre ++ [x])) = freeIn l (vals pre) + (if (pg l x.1).kind = 0 then (pg l x.1).sz else 0)) := Lib.hid (by simp only [vals, List.map_append, List.map_cons, List.map_nil]; exact freeIn_snoc _ _ _)
    have hF := freeIn_le l pre
    have hF2 : pre.length * 1024 ≤ 1024 * 1024 := Nat.mul_le_mul_right 1024 (by omega)
    have hF3 : freeIn l (vals pre) ≤ 1048576 := by omega
    have hx1 := x.2.1
    have hsz1 := Pg.sz_le x.2.2.head
    generalize freeIn l (vals pre) = fr at bE1 cE HE hF hF3
    generalize (pg l x.1).sz = S at x4 HE hsz1
    clear hF hF2
    by_cases hk0 : (pg l x.1).kind = 0
    · have HE1 : Hid (freeIn l (vals (pre ++ [x])) = fr + S) := Lib.hid (by rw [HE.out, if_pos hk0])
      rw [hk0] at x0
      clear HE hk0
      gi_wp2
      refine ⟨(KeepsOthers.setCell _ _ _).from _, KeptC.setCell _ _ _, ?_, hB1.setCell (p := ⟨w1.heap.size, 0, none⟩) (Nat.le_refl _) _⟩
      rw [HE1.out]
      have e : (fr : Int) + (((x.1 : Int) + (S : Int)) - (x.1 : Int)) = (((fr + S : Nat)) : Int) := by omega
      rw [e]
      exact bE1.set _
    · have HE1 : Hid (freeIn l (vals (pre ++ [x])) = fr) := Lib.hid (by rw [HE.out, if_neg hk0]; rfl)
      clear HE
      gi_wp2
      refine ⟨KeepsFrom.refl _ _, KeptC.refl _ _, ?_, hB1⟩
      rw [HE1.out]
      exact bE1
  case done =>
    rintro D ys W hD hall ⟨bE1, hB1⟩ hK
    have cE := bE1.cell
    have HF : Hid (freeIn l (vals ys) = c) := Lib.hid (by rw [← HC.out, free_yes HV.out]; exact hall.free HV.out.2.2)
    have hBT := HB1.out.trans (hB1.mono hz1)
    generalize freeIn l (vals ys) = E at bE1 cE HF
    gi_wp2
    refine ⟨by simp, .inl ⟨_, _, rfl, run_takeDeferred hK, ?_⟩⟩
    exact ⟨_, results_tmp (t := 2) rfl _ _ _, by rw [← HF.out]; rfl, hBT.trans (belowK_b (w := w) (Nat.le_refl _) W D _ _ (by omega) hK rfl rfl)⟩
  case stop =>
    rintro D c pre W _ _ h _
    exact h.elim
set_option maxHeartbeats 1000000 in
theorem cFree (u : Value) (l : List Pg) (c : Nat) (hc : freeF l = c) (w : World) (hs : ShowP w u l) :
    Calls Try.prog 62 #[u] w fun e W' => e = .returned (.int .i64 (c : Int)) ∧ Below w.heap.size w W' := by
  by_cases h1 : Valid l
  · exact callsIn_wide.1 (Free_in u l h1 c hc w hs)
  · have HC : Hid (c = 0) := Lib.hid (by rw [← hc]; exact free_no h1)
    have HK := Lib.hid (chk_no h1)
    clear hc h1
    go_enter Try.func62, Try.ntmps62
    go_wp2_with (go_at_call 84; refine (cCheck _ l 50 HK.out _ hs).mono ?_; rintro e w1 ⟨rfl, hb⟩)
    go_ret
    exact ⟨by rw [HC.out]; rfl, hb⟩
end Go.Proofs.Ytlljomnpdgmifaa
