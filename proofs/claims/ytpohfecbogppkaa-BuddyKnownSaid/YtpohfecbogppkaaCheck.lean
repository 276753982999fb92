/-
  Check, of the program: the blocks gone through, to where the last one ends.
-/
import Derived.Test.YtpohfecbogppkaaBlocks
set_option linter.unusedVariables false
set_option linter.unusedSimpArgs false
namespace Go.Proofs.Ytpohfecbogppkaa
open Go Go.RowKit Go.Shelf

attribute [local go_sem] Oper.semAt_some

set_option maxHeartbeats 1000000 in
theorem blocks_in (n : Nat) (a : Option Addr) (len cap : Nat) (w : World) :
    CallsIn Fence.wide n Try.prog 41 #[.slice a len cap] w fun e w' => e = .returned (.func (.func 47) #[] #[.pointer (some ⟨w.heap.size, 0, none⟩)]) ∧ w' = w.alloc (.cells #[.slice a len cap] 37) := by
  refine callsIn_of_wp Try.func41 rfl trivial ?_ rfl
  simp only [Try.ntmps41, List.size_toArray, List.length_cons, List.length_nil, Nat.reduceAdd, Nat.reduceSub, Array.replicate_succ, Array.replicate_zero, List.push_toArray, List.append_toArray, List.nil_append, List.cons_append]
  gi_wp2
  go_ret
  exact ⟨rfl, rfl⟩
theorem blocks_stops (n : Nat) (hn : 2 ≤ n) (Bs B : Nat) (ao : Option Addr) (cap : Nat) (l : List Pg) (hl : l.length ≤ 1024) (w : World) (hBw : B < w.heap.size) (hBs : w.cell? ⟨Bs, 0, none⟩ = some (.slice ao l.length cap)) (hne : Bs ≠ B) (hs : ShowP w (.slice ao l.length cap) l) (hao : ∀ b o, ao = some ⟨b, o, none⟩ → b ≠ B) :
    SeqStopsK Fence.wide n Try.prog 47 #[.pointer (some ⟨Bs, 0, none⟩)] (fun x : Bk l => #[blkV l x.1]) (KeptC B) (AllOf l) (SomeOf l) l.length w := fun r J Jx W hW hJ hJx hY h0 =>
  blocks1_in n hn r Bs B ao cap l hl J Jx (fun s X Y h hb => hJ s X Y none h (grown_of_below hb (Nat.le_refl _)) (fun r e => by cases e)) (fun s X Y h hb => hJx s X Y none h (grown_of_below hb (Nat.le_refl _)) (fun r e => by cases e)) hY W
    (cell_keep hW hBs) hne (hs.below hW) hao (by have := hW.size; omega) h0
/-- a block in its box -/
def Box5 (l : List Pg) (x : Nat) (B : Nat) (W : World) : Prop := W.heap[B]? = some (.cells #[.int .i64 (pg l x).kind, .int .i64 (pg l x).order, .int .i64 (pg l x).cache, .int .i64 (x : Int), .int .i64 ((x + (pg l x).sz : Nat) : Int)] 70)
theorem Box5.own (l : List Pg) (x B m : Nat) : OwnFrom m (fun (_ : Unit) W => Box5 l x B W) := fun _ X Y row h hg hr =>
  (hg.block B (lt_of_block h) (fun e => by obtain ⟨_, o, ho, hc⟩ := hr B e.symm; rw [show X.heap[B]? = _ from h] at ho; cases ho; cases hc)).trans h
theorem Box5.new (l : List Pg) (x : Nat) (W : World) : Box5 l x W.heap.size (W.alloc (.cells #[.int .i64 (pg l x).kind, .int .i64 (pg l x).order, .int .i64 (pg l x).cache, .int .i64 (x : Int), .int .i64 ((x + (pg l x).sz : Nat) : Int)] 70)) := heap_new _ _
theorem AllOf.valid {l : List Pg} {ys : List (Bk l)} (h : AllOf l ys) : endOf l (vals ys) ≤ l.length ∧ (Good l 0 ↔ ¬ endOf l (vals ys) < l.length) := by
  obtain ⟨e, hc, hn⟩ := h
  have hle := hc.le.1
  rw [hc.endOf]
  refine ⟨hle, hc.good.trans ⟨fun h hlt => hn hlt (h.starts hlt), fun h => ?_⟩⟩
  obtain rfl : e = l.length := by omega
  exact Good.done

set_option maxHeartbeats 4000000 in
set_option maxRecDepth 100000 in
theorem Check_in (u : Value) (l : List Pg) (hl1 : 1 ≤ l.length) (hl : l.length ≤ 1024) (c : Int) (hc : chkF l = c) (w : World) (hs : ShowP w u l) :
    CallsIn Fence.wide 8 Try.prog 20 #[u] w fun e W' => e = .returned (.int .i64 c) ∧ Below w.heap.size w W' := by
  obtain ⟨ao, cap, rfl, hcap, hat⟩ := hs.form
  obtain ⟨b0, o0, rfl, c0, _, _⟩ := hat 0 (by omega)
  have hb0 : b0 < w.heap.size := World.block_lt_of_cell? w _ c0
  have HS := Lib.hid hs
  have HC := Lib.hid hc
  clear hat hs c0 hc
  have h1 : 1 ≤ 8 := by omega
  have hd1 : decide ((l.length : Int) < 1) = false := decide_eq_false (by omega)
  have hd2 : decide ((1024 : Int) < (l.length : Int)) = false := decide_eq_false (by omega)
  have hro : Fence.wide.round = none := rfl
  refine callsIn_of_wp_marks Try.func20 rfl trivial ?_ hro
  simp only [Try.ntmps20, List.size_toArray, List.length_cons, List.length_nil, Nat.reduceAdd, Nat.reduceSub, Array.replicate_succ, Array.replicate_zero, List.push_toArray, List.append_toArray, List.nil_append, List.cons_append]
  gi_wp2_with fail
  refine ⟨trivial, ?_⟩
  refine (blocks_in _ _ _ _ _).mono ?_
  rintro e w' ⟨rfl, rfl⟩
  gi_wp2
  have bE := (Boxed.new w 3 (.int .i64 0)).alloc (.cells #[.slice (some ⟨b0, o0, none⟩) l.length cap] 37)
  have bN := Boxed.new (w.alloc (.cells #[.int .i64 0] 3)) 37 (.slice (some ⟨b0, o0, none⟩) l.length cap)
  rw [World.size_alloc] at bN
  have hB0 : Below w.heap.size w ((w.alloc (.cells #[.int .i64 0] 3)).alloc (.cells #[.slice (some ⟨b0, o0, none⟩) l.length cap] 37)) := ((Below.refl _ w).alloc (Nat.le_refl _) _).alloc (by simp) _
  have hsz : ((w.alloc (.cells #[.int .i64 0] 3)).alloc (.cells #[.slice (some ⟨b0, o0, none⟩) l.length cap] 37)).heap.size = w.heap.size + 2 := by simp
  obtain ⟨W0, hW0⟩ : ∃ W0, (w.alloc (.cells #[.int .i64 0] 3)).alloc (.cells #[.slice (some ⟨b0, o0, none⟩) l.length cap] 37) = W0 := ⟨_, rfl⟩
  rw [hW0] at bE bN hB0 hsz ⊢
  clear hW0
  refine wpIn_rangeFunc_ownH hro h1 (gf := 47) (lb := #[.pointer (some ⟨w.heap.size + 1, 0, none⟩)]) rfl trivial (enters_of Try.func47 (by kernel_rfl) rfl)
    (blocks_stops (8 - 1) (by omega) (w.heap.size + 1) w.heap.size _ cap l hl W0 (by omega) bN.cell (by omega) (HS.out.below hB0) (fun b o e => by cases e; omega)) KeptC.trans (keptC_b) (Below.refl _ _) (fun _ => rfl)
    (fun pre W => Boxed W w.heap.size 3 (.int .i64 (endOf l (vals pre))) ∧ Below w.heap.size w W)
    (fun _ _ _ => False)
    (OwnFrom.and (Own.from (boxed_own _ _ _) _) (ownFrom_below (Nat.le_refl _) (by omega)))
    (fun _ _ _ _ _ hs _ _ => hs)
    ⟨bE, hB0⟩
    (fun x a' W => ∃ Bx, w.heap.size < Bx ∧ Box5 l x.1 Bx W ∧ a' = { tmps := #[.slice (some ⟨b0, o0, none⟩) l.length cap, undef, .int .i64 0, .pointer (some ⟨w.heap.size, 0, none⟩), .pointer (some ⟨Bx, 0, none⟩), .slice (some ⟨b0, o0, none⟩) l.length cap, .int .i64 l.length, .bool false, .bool false, .slice (some ⟨b0, o0, none⟩) l.length cap, .int .i64 l.length, .bool false, .bool false, .slice (some ⟨b0, o0, none⟩) l.length cap, .func (.func 47) #[] #[.pointer (some ⟨w.heap.size + 1, 0, none⟩)], blkV l x.1, undef, undef, undef, undef, undef, undef], defers := [] })
    (fun x a' _ X Y row hs hg hr => by obtain ⟨Bx, e1, e2, e3⟩ := hs; exact ⟨Bx, e1, Box5.own l x.1 Bx _ () X Y row e2 hg hr, e3⟩)
    ?assign ?body ?done ?stop
  case assign =>
    rintro r pre x W K ⟨bE1, hB1⟩ hK
    unfold blkV at *
    gi_wp2
    exact hK _ _ ((KeepsOthers.alloc _ _).from _) (KeptC.ofBelow (below_one (Below.refl _ _) _)) ⟨bE1.alloc _, hB1.alloc hB1.size _⟩ ⟨W.heap.size, bE1.lt, Box5.new l x.1 W, rfl⟩
  case body =>
    rintro r pre x a' W hlW hr ⟨bE1, hB1⟩ ⟨Bx, hBx, bX, rfl⟩ hlt
    have cE := bE1.cell
    have fE := bE1.frozen
    obtain ⟨x0, x1, x2, x3, x4⟩ := self5 bX
    have HE : Hid (endOf l (vals (pre ++ [x])) = x.1 + (pg l x.1).sz) := Lib.hid (by simp only [vals, List.map_append, List.map_cons, List.map_nil]; exact endOf_snoc _ _ _)
    gi_wp2
    refine ⟨(KeepsOthers.setCell _ _ _).from _, KeptC.setCell _ _ _, ?_, hB1.setCell (p := ⟨w.heap.size, 0, none⟩) (Nat.le_refl _) _⟩
    have := bE1.set (.int .i64 ((x.1 : Int) + ((pg l x.1).sz : Int)))
    rw [HE.out]
    simpa using this
  case done =>
    rintro D ys W hD hall ⟨bE1, hB1⟩ hK
    have cE := bE1.cell
    obtain ⟨hle, hgood⟩ := hall.valid
    have HG := Lib.hid hgood
    clear hgood hall
    generalize endOf l (vals ys) = E at bE1 cE hle HG
    by_cases hlt : E < l.length
    · have HR : Hid (c = 50) := Lib.hid (by rw [← HC.out]; exact chk_no (fun h => (HG.out.1 h.2.2) hlt))
      gi_wp2
      refine ⟨by simp, .inl ⟨_, _, rfl, run_takeDeferred hK, ?_⟩⟩
      exact ⟨_, results_tmp (t := 2) rfl _ _ _, by rw [HR.out]; rfl, hB1.trans (belowK_b (w := w) (Nat.le_refl _) W D _ _ (by omega) hK rfl rfl)⟩
    · have HR : Hid (c = 0) := Lib.hid (by rw [← HC.out]; exact chk_ok ⟨hl1, hl, HG.out.2 hlt⟩)
      gi_wp2
      refine ⟨by simp, .inl ⟨_, _, rfl, run_takeDeferred hK, ?_⟩⟩
      exact ⟨_, results_tmp (t := 2) rfl _ _ _, by rw [HR.out]; rfl, hB1.trans (belowK_b (w := w) (Nat.le_refl _) W D _ _ (by omega) hK rfl rfl)⟩
  case stop =>
    rintro D c pre W _ _ h _
    exact h.elim
set_option maxHeartbeats 1000000 in
theorem cCheck (u : Value) (l : List Pg) (c : Int) (hc : chkF l = c) (w : World) (hs : ShowP w u l) :
    Calls Try.prog 20 #[u] w fun e W' => e = .returned (.int .i64 c) ∧ Below w.heap.size w W' := by
  by_cases h1 : 1 ≤ l.length
  · by_cases h2 : l.length ≤ 1024
    · exact callsIn_wide.1 (Check_in u l h1 h2 c hc w hs)
    · have HC : Hid (c = 50) := Lib.hid (by rw [← hc]; exact chk_no (fun h => h2 h.2.1))
      obtain ⟨ao, cap, rfl, hcap, _⟩ := hs.form
      clear hc hs
      go_enter Try.func20, Try.ntmps20
      go_wp2
      go_ret
      exact ⟨by rw [HC.out]; rfl, Below.refl _ _⟩
  · have HC : Hid (c = 50) := Lib.hid (by rw [← hc]; exact chk_no (fun h => h1 h.1))
    obtain ⟨ao, cap, rfl, hcap, _⟩ := hs.form
    clear hc hs
    go_enter Try.func20, Try.ntmps20
    go_wp2
    go_ret
    exact ⟨by rw [HC.out]; rfl, Below.refl _ _⟩
end Go.Proofs.Ytpohfecbogppkaa
