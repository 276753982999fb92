/-
  around: the block of a table in which a page is; Head.
-/
import Derived.Test.YtpohfecbogppkaaFree
set_option linter.unusedVariables false
set_option linter.unusedSimpArgs false
namespace Go.Proofs.Ytpohfecbogppkaa
open Go Go.RowKit Go.Shelf

attribute [local go_sem] Oper.semAt_some

theorem resAround : Try.f43.results = #[.cell 4 70] := rfl
theorem res_around (w : World) (tmps : Array Value) (K : Nat) (a b c d e : Int) (h4 : tmps[4]?.getD undef = .pointer (some ⟨K, 0, none⟩)) (h : w.heap[K]? = some (.cells #[.int .i64 a, .int .i64 b, .int .i64 c, .int .i64 d, .int .i64 e] 70)) :
    (results Try.f43 tmps).run Try.prog w = .ok (.agg #[.int .i64 a, .int .i64 b, .int .i64 c, .int .i64 d, .int .i64 e]) w := by
  obtain ⟨r0, r1, r2, r3, r4⟩ := self5 h
  simp [results, resAround, go_sem, h4, r0, r1, r2, r3, r4]
def Box0 (B : Nat) (W : World) : Prop := W.heap[B]? = some (.cells #[.int .i64 0, .int .i64 0, .int .i64 0, .int .i64 0, .int .i64 0] 70)
theorem Box0.own {β : Type} (B m : Nat) : OwnFrom m (fun (_ : β) W => Box0 B W) := fun _ X Y row h hg hr =>
  (hg.block B (lt_of_block h) (fun e => by obtain ⟨_, o, ho, hc⟩ := hr B e.symm; rw [show X.heap[B]? = _ from h] at ho; cases ho; cases hc)).trans h
/-- the page is behind all these blocks -/
def Past (l : List Pg) (p : Nat) (ys : List (Bk l)) : Prop := ∀ y ∈ ys, y.1 + (pg l y.1).sz ≤ p
theorem Past.nil (l : List Pg) (p : Nat) : Past l p [] := fun y h => by cases h
theorem Past.snoc {l : List Pg} {p : Nat} {ys : List (Bk l)} {x : Bk l} (h : Past l p ys) (hx : x.1 + (pg l x.1).sz ≤ p) : Past l p (ys ++ [x]) := fun y hy => by
  rcases List.mem_append.1 hy with h1 | h1
  · exact h y h1
  · simp at h1
    rw [h1]
    exact hx
theorem Past.end {l : List Pg} {p : Nat} {ys : List (Bk l)} (h : Past l p ys) : endOf l (vals ys) ≤ p := by
  unfold endOf
  cases hg : (vals ys).getLast? with
  | none => exact Nat.zero_le _
  | some x =>
    have hm := List.mem_of_getLast? hg
    obtain ⟨y, hy, e⟩ := List.mem_map.1 hm
    rw [← e]
    exact h y hy
/-- the block was found -/
def Found (l : List Pg) (p : Nat) (pre : List (Bk l)) (B : Nat) (W : World) : Prop := ∃ (ys : List (Bk l)) (x : Bk l), pre = ys ++ [x] ∧ Past l p ys ∧ p < x.1 + (pg l x.1).sz ∧ Box5 l x.1 B W
theorem Found.own (l : List Pg) (p B m : Nat) : OwnFrom m (fun pre W => Found l p pre B W) := fun pre X Y row h hg hr => by
  obtain ⟨ys, x, e, h1, h2, h3⟩ := h
  exact ⟨ys, x, e, h1, h2, Box5.own l x.1 B m () X Y row h3 hg hr⟩
theorem Found.beg {l : List Pg} {p : Nat} {pre : List (Bk l)} {B : Nat} {W : World} (h : Found l p pre B W) (hs : SomeOf l pre) : Box5 l (beg l p) B W := by
  obtain ⟨ys, x, e, h1, h2, h3⟩ := h
  obtain ⟨ys', x', e', hc⟩ := hs
  obtain ⟨rfl, ex⟩ := List.append_inj' (e.symm.trans e') rfl
  cases ex
  have h4 := h1.end
  rw [hc.endOf] at h4
  rw [beg_in x.2.2 h4 h2]
  exact h3
theorem AllOf.not_past {l : List Pg} {p : Nat} {ys : List (Bk l)} (h : AllOf l ys) (hg : Good l 0) (hp : p < l.length) (hpast : Past l p ys) : False := by
  have h1 := h.valid.2.1 hg
  have h2 := hpast.end
  omega

set_option maxHeartbeats 4000000 in
set_option maxRecDepth 100000 in
theorem around_in (u : Value) (l : List Pg) (p : Nat) (hv : Valid l) (hp : p < l.length) (k o c a t : Int) (hk : blkV l (beg l p) = .agg #[.int .i64 k, .int .i64 o, .int .i64 c, .int .i64 a, .int .i64 t]) (w : World) (hs : ShowP w u l) :
    CallsIn Fence.wide 8 Try.prog 43 #[u, .int .i64 p] w fun e W' => e = .returned (.agg #[.int .i64 k, .int .i64 o, .int .i64 c, .int .i64 a, .int .i64 t]) ∧ Below w.heap.size w W' := by
  obtain ⟨hl1, hl, hg⟩ := id hv
  have HG := Lib.hid hg
  have HK := Lib.hid hk
  clear hv hg hk
  obtain ⟨ao, cap, rfl, hcap, hat⟩ := hs.form
  obtain ⟨b0, o0, rfl, c0, _, _⟩ := hat 0 (by omega)
  have hb0 : b0 < w.heap.size := World.block_lt_of_cell? w _ c0
  have HS := Lib.hid hs
  clear hat hs c0
  have h1 : 1 ≤ 8 := by omega
  have hro : Fence.wide.round = none := rfl
  refine callsIn_of_wp_marks Try.func43 rfl trivial ?_ hro
  simp only [Try.ntmps43, List.size_toArray, List.length_cons, List.length_nil, Nat.reduceAdd, Nat.reduceSub, Array.replicate_succ, Array.replicate_zero, List.push_toArray, List.append_toArray, List.nil_append, List.cons_append]
  gi_wp2_with fail
  refine ⟨trivial, ?_⟩
  refine (blocks_in _ _ _ _ _).mono ?_
  rintro e w' ⟨rfl, rfl⟩
  gi_wp2
  have bP := ((Boxed.new w 3 (.int .i64 p)).alloc (.cells #[.int .i64 0, .int .i64 0, .int .i64 0, .int .i64 0, .int .i64 0] 70)).alloc (.cells #[.slice (some ⟨b0, o0, none⟩) l.length cap] 37)
  have bR : Box0 (w.heap.size + 1) (((w.alloc (.cells #[.int .i64 p] 3)).alloc (.cells #[.int .i64 0, .int .i64 0, .int .i64 0, .int .i64 0, .int .i64 0] 70)).alloc (.cells #[.slice (some ⟨b0, o0, none⟩) l.length cap] 37)) := (Below.heap_alloc _ _ _ (by simp)).trans (heap_new2 _ _ _)
  have bN := Boxed.new ((w.alloc (.cells #[.int .i64 p] 3)).alloc (.cells #[.int .i64 0, .int .i64 0, .int .i64 0, .int .i64 0, .int .i64 0] 70)) 37 (.slice (some ⟨b0, o0, none⟩) l.length cap)
  simp only [World.size_alloc] at bN
  have hB0 : Below w.heap.size w (((w.alloc (.cells #[.int .i64 p] 3)).alloc (.cells #[.int .i64 0, .int .i64 0, .int .i64 0, .int .i64 0, .int .i64 0] 70)).alloc (.cells #[.slice (some ⟨b0, o0, none⟩) l.length cap] 37)) := (((Below.refl _ w).alloc (Nat.le_refl _) _).alloc (by simp) _).alloc (by simp; omega) _
  have hsz : (((w.alloc (.cells #[.int .i64 p] 3)).alloc (.cells #[.int .i64 0, .int .i64 0, .int .i64 0, .int .i64 0, .int .i64 0] 70)).alloc (.cells #[.slice (some ⟨b0, o0, none⟩) l.length cap] 37)).heap.size = w.heap.size + 3 := by simp
  obtain ⟨W0, hW0⟩ : ∃ W0, ((w.alloc (.cells #[.int .i64 p] 3)).alloc (.cells #[.int .i64 0, .int .i64 0, .int .i64 0, .int .i64 0, .int .i64 0] 70)).alloc (.cells #[.slice (some ⟨b0, o0, none⟩) l.length cap] 37) = W0 := ⟨_, rfl⟩
  rw [hW0] at bP bR bN hB0 hsz ⊢
  clear hW0
  refine wpIn_rangeFunc_ownH hro h1 (gf := 47) (lb := #[.pointer (some ⟨w.heap.size + 1 + 1, 0, none⟩)]) rfl trivial (enters_of Try.func47 (by kernel_rfl) rfl)
    (blocks_stops (8 - 1) (by omega) (w.heap.size + 1 + 1) w.heap.size _ cap l hl W0 (by omega) bN.cell (by omega) (HS.out.below hB0) (fun b o e => by cases e; omega)) KeptC.trans (keptC_b) (Below.refl _ _) (fun _ => rfl)
    (fun pre W => ((Past l p pre ∧ Boxed W w.heap.size 3 (.int .i64 p)) ∧ Box0 (w.heap.size + 1) W) ∧ Below w.heap.size w W)
    (fun c pre W => (c = .ret ∧ Found l p pre (w.heap.size + 1) W) ∧ Below w.heap.size w W)
    (OwnFrom.and (OwnFrom.and (OwnFrom.and (ownFrom_pure _ _) (Own.from (boxed_own _ _ _) _)) (Box0.own _ _)) (ownFrom_below (Nat.le_refl _) (by omega)))
    (fun c => OwnFrom.and (OwnFrom.and (ownFrom_pure _ _) (Found.own l p _ _)) (ownFrom_below (Nat.le_refl _) (by omega)))
    ⟨⟨⟨Past.nil l p, bP⟩, bR⟩, hB0⟩
    (fun x a' W => ∃ Bx, w.heap.size + 1 < Bx ∧ Box5 l x.1 Bx W ∧ a' = { tmps := #[.slice (some ⟨b0, o0, none⟩) l.length cap, .int .i64 p, undef, .pointer (some ⟨w.heap.size, 0, none⟩), .pointer (some ⟨w.heap.size + 1, 0, none⟩), .pointer (some ⟨Bx, 0, none⟩), .slice (some ⟨b0, o0, none⟩) l.length cap, .func (.func 47) #[] #[.pointer (some ⟨w.heap.size + 1 + 1, 0, none⟩)], blkV l x.1, undef, undef, undef, undef, undef, undef], defers := [] })
    (fun x a' _ X Y row hs hg hr => by obtain ⟨Bx, e1, e2, e3⟩ := hs; exact ⟨Bx, e1, Box5.own l x.1 Bx _ () X Y row e2 hg hr, e3⟩)
    ?assign ?body ?done ?stop
  case assign =>
    rintro r pre x W K ⟨⟨⟨hp1, bP1⟩, bR1⟩, hB1⟩ hK
    unfold blkV at *
    gi_wp2
    exact hK _ _ ((KeepsOthers.alloc _ _).from _) (KeptC.ofBelow (below_one (Below.refl _ _) _)) ⟨⟨⟨hp1, bP1.alloc _⟩, (Below.heap_alloc _ _ _ (lt_of_block bR1)).trans bR1⟩, hB1.alloc hB1.size _⟩ ⟨W.heap.size, lt_of_block bR1, Box5.new l x.1 W, rfl⟩
  case body =>
    rintro r pre x a' W hlW hr ⟨⟨⟨hp1, bP1⟩, bR1⟩, hB1⟩ ⟨Bx, hBx, bX, rfl⟩ hlt
    have cP := bP1.cell
    obtain ⟨x0, x1, x2, x3, x4⟩ := self5 bX
    have HX := Lib.hid bX
    have HR1 := Lib.hid bR1
    have HP1 := Lib.hid hp1
    have f0 := self_free bR1 0
    have f1 := self_free bR1 1
    have f2 := self_free bR1 2
    have f3 := self_free bR1 3
    have f4 := self_free bR1 4
    obtain ⟨y0, y1, y2, y3, y4⟩ := self5 bR1
    clear bX bR1 hp1
    obtain ⟨T, hT⟩ : ∃ T, x.1 + (pg l x.1).sz = T := ⟨_, rfl⟩
    have HT := Lib.hid hT
    rw [hT] at x4
    clear hT
    by_cases hpT : p < T
    · gi_wp2
      refine ⟨(((((KeepsOthers.setCell W ⟨w.heap.size + 1, 0, none⟩ _).trans (KeepsOthers.setCell _ ⟨w.heap.size + 1, 1, none⟩ _)).trans (KeepsOthers.setCell _ ⟨w.heap.size + 1, 2, none⟩ _)).trans (KeepsOthers.setCell _ ⟨w.heap.size + 1, 3, none⟩ _)).trans (KeepsOthers.setCell _ ⟨w.heap.size + 1, 4, none⟩ _)).from _, ⟨rfl, pre, x, rfl, HP1.out, by rw [HT.out]; exact hpT, ?_⟩, below_sets hB1 (Nat.le_succ _)⟩
      unfold Box5
      rw [HT.out]
      exact sets_block HR1.out
    · gi_wp2
      exact ⟨KeepsFrom.refl _ _, KeptC.refl _ _, ⟨⟨HP1.out.snoc (by rw [HT.out]; omega), bP1⟩, HR1.out⟩, hB1⟩
  case done =>
    rintro D ys W hD hall ⟨⟨⟨hp1, bP1⟩, bR1⟩, hB1⟩ hK
    exact (hall.not_past HG.out hp hp1).elim
  case stop =>
    rintro D c' pre W hD hsome ⟨⟨rfl, hfound⟩, hB1⟩ hK
    have hbeg := hfound.beg hsome
    have hcs : (#[.int .i64 (pg l (beg l p)).kind, .int .i64 (pg l (beg l p)).order, .int .i64 (pg l (beg l p)).cache, .int .i64 ((beg l p : Nat) : Int), .int .i64 ((beg l p + (pg l (beg l p)).sz : Nat) : Int)] : Array Value) = #[.int .i64 k, .int .i64 o, .int .i64 c, .int .i64 a, .int .i64 t] := by
      have HH := HK.out
      unfold blkV at HH
      injection HH
    unfold Box5 at hbeg
    rw [hcs] at hbeg
    gi_wp2
    refine ⟨by simp, .inl ⟨_, _, rfl, run_takeDeferred hK, ?_⟩⟩
    refine ⟨_, res_around _ _ (w.heap.size + 1) k o c a t rfl ?_, rfl, hB1.trans (belowK_b (w := w) (Nat.le_refl _) W D _ _ (by omega) hK rfl rfl)⟩
    exact (World.putObj_heap_other (by omega)).trans hbeg
theorem fieldsB : Try.prog.underlying 70 = some (.struct #[⟨"head", 51, 0, false, "", "wainscot/frame", 0⟩, ⟨"from", 3, 3, false, "", "wainscot/frame", 24⟩, ⟨"to", 3, 4, false, "", "wainscot/frame", 32⟩]) := by kernel_rfl
theorem field_from (k o c a t : Int) (w : World) : (Instr.field 70 (.agg #[.int .i64 k, .int .i64 o, .int .i64 c, .int .i64 a, .int .i64 t]) 1).run Try.prog w = .ok (.int .i64 a) w := by
  simp [Instr.field, go_sem, asAgg, run_underlying fieldsB, part]
theorem field_head (k o c a t : Int) (w : World) : (Instr.field 70 (.agg #[.int .i64 k, .int .i64 o, .int .i64 c, .int .i64 a, .int .i64 t]) 0).run Try.prog w = .ok (.agg #[.int .i64 k, .int .i64 o, .int .i64 c]) w := by
  simp [Instr.field, go_sem, asAgg, run_underlying fieldsB, part]
theorem field_order (k o c : Int) (w : World) : (Instr.field 51 (.agg #[.int .i64 k, .int .i64 o, .int .i64 c]) 1).run Try.prog w = .ok (.int .i64 o) w := by
  simp [Instr.field, go_sem, asAgg, run_underlying fieldsP, fieldsOfP, part]
theorem cAround (u : Value) (l : List Pg) (p : Nat) (hv : Valid l) (hp : p < l.length) (k o c a t : Int) (hk : blkV l (beg l p) = .agg #[.int .i64 k, .int .i64 o, .int .i64 c, .int .i64 a, .int .i64 t]) (w : World) (hs : ShowP w u l) :
    Calls Try.prog 43 #[u, .int .i64 p] w fun e W' => e = .returned (.agg #[.int .i64 k, .int .i64 o, .int .i64 c, .int .i64 a, .int .i64 t]) ∧ Below w.heap.size w W' :=
  callsIn_wide.1 (around_in u l p hv hp k o c a t hk w hs)
set_option maxHeartbeats 1000000 in
theorem cHead (u : Value) (l : List Pg) (page : Int) (a c : Int) (h : headF l page = (a, c)) (w : World) (hs : ShowP w u l) :
    Calls Try.prog 25 #[u, .int .i64 page] w fun e W' => e = .returned (.tuple #[.int .i64 a, .int .i64 c]) ∧ Below w.heap.size w W' := by
  obtain ⟨ao, cap, rfl, hcap, _⟩ := id hs.form
  by_cases hv : Valid l
  rotate_left
  · rw [head_no hv] at h
    cases h
    have HK := Lib.hid (chk_no hv)
    clear hv
    go_enter Try.func25, Try.ntmps25
    go_wp2_with (go_at_call 20; refine (cCheck _ l 50 HK.out _ hs).mono ?_; rintro e w1 ⟨rfl, hb⟩)
    go_ret2
    exact ⟨rfl, hb⟩
  have HK := Lib.hid (chk_ok hv)
  by_cases hin : 0 ≤ page ∧ page < l.length
  rotate_left
  · rw [head_out hv hin] at h
    cases h
    have hor : page < 0 ∨ (0 ≤ page ∧ (l.length : Int) ≤ page) := by omega
    clear hv hin
    rcases hor with h1 | ⟨h1, h2⟩
    · go_enter Try.func25, Try.ntmps25
      go_wp2_with (go_at_call 20; refine (cCheck _ l 0 HK.out _ hs).mono ?_; rintro e w1 ⟨rfl, hb⟩)
      go_ret2
      exact ⟨rfl, hb⟩
    · go_enter Try.func25, Try.ntmps25
      go_wp2_with (go_at_call 20; refine (cCheck _ l 0 HK.out _ hs).mono ?_; rintro e w1 ⟨rfl, hb⟩)
      go_ret2
      exact ⟨rfl, hb⟩
  obtain ⟨p, rfl⟩ : ∃ p : Nat, page = (p : Int) := ⟨page.toNat, by omega⟩
  have hp : p < l.length := by omega
  rw [head_in hv hp] at h
  cases h
  have HV := Lib.hid hv
  have HB : Hid (blkV l (beg l p) = .agg #[.int .i64 (pg l (beg l p)).kind, .int .i64 (pg l (beg l p)).order, .int .i64 (pg l (beg l p)).cache, .int .i64 ((beg l p : Nat) : Int), .int .i64 ((beg l p + (pg l (beg l p)).sz : Nat) : Int)]) := Lib.hid rfl
  generalize (pg l (beg l p)).kind = kk at HB
  generalize (pg l (beg l p)).order = oo at HB
  generalize (pg l (beg l p)).cache = cc at HB
  generalize beg l p + (pg l (beg l p)).sz = tt at HB
  clear hv hin
  go_enter Try.func25, Try.ntmps25
  go_wp2_with fail
  refine (cCheck _ l 0 HK.out _ hs).mono ?_
  rintro e w1 ⟨rfl, hb⟩
  have hs1 := hs.below hb
  go_wp2_with fail
  refine (cAround _ l p HV.out hp kk oo cc _ tt HB.out _ hs1).mono ?_
  rintro e w2 ⟨rfl, hb2⟩
  have hfd := fun w => field_from kk oo cc (beg l p) tt w
  have hb3 := below_then hb hb2
  go_wp2
  go_ret2
  exact ⟨rfl, hb3⟩
end Go.Proofs.Ytpohfecbogppkaa
