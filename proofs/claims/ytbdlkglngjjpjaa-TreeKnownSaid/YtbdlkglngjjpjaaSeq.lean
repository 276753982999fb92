/-
  Depth, Below, Heir of the program: what goes through a path.
-/
import Derived.Test.YtbdlkglngjjpjaaPath
set_option linter.unusedVariables false
set_option linter.unusedSimpArgs false
namespace Go.Proofs.Ytbdlkglngjjpjaa
open Go Go.RowKit Go.Shelf

attribute [local go_sem] Oper.semAt_some

theorem boxT (w : World) (p : Option Addr) (x : Int) {t : Tr} (h : TQ w p t) : TB ((w.alloc (.cells #[.pointer p] 23)).alloc (.cells #[.int .i64 x] 3)) p w.heap.size t ∧ ((w.alloc (.cells #[.pointer p] 23)).alloc (.cells #[.int .i64 x] 3)).cell? ⟨w.heap.size + 1, 0, none⟩ = some (.int .i64 x) ∧
    Below w.heap.size w ((w.alloc (.cells #[.pointer p] 23)).alloc (.cells #[.int .i64 x] 3)) ∧ ((w.alloc (.cells #[.pointer p] 23)).alloc (.cells #[.int .i64 x] 3)).heap.size = w.heap.size + 2 := by
  have hb : Below w.heap.size w ((w.alloc (.cells #[.pointer p] 23)).alloc (.cells #[.int .i64 x] 3)) := ((Below.refl _ w).alloc (Nat.le_refl _) _).alloc (by simp) _
  exact ⟨⟨h.below hb, heap_low2 _ _ _⟩, self_cell (heap_new2 _ _ _) 0 _ rfl, hb, by simp⟩
theorem boxed_typ {W : World} {B : Nat} {T : TypeId} {v : Value} {Ts : List TypeId} (h : Boxed W B T v) (hT : T ∈ Ts) : ∀ k, k = B → Typ W Ts k := by
  rintro k rfl
  exact ⟨_, _, _, h, hT⟩
theorem keep_set {W : World} {B : Nat} {T : TypeId} {v u : Value} {p : Option Addr} {Bt : Nat} {t : Tr} (h : Boxed W B T v) (hT : T = 3 ∨ T = 4) : KeepT p Bt t W (W.setCell ⟨B, 0, none⟩ u) := fun e =>
  e.kept (S := (· = B)) (Ts := [T]) (Kept.setCell (S := (· = B)) (p := ⟨B, 0, none⟩) (Kept.refl _ W) rfl u) (boxed_typ h (by simp)) (by rcases hT with rfl | rfl <;> decide)
set_option maxHeartbeats 4000000 in
set_option maxRecDepth 100000 in
theorem Depth_in (p : Option Addr) (x : Int) (t : Tr) (d : Nat) (hd : (path t (nu t.n x)).length = d) (w : World) (h : TQ w p t) :
    CallsIn Fence.wide 8 Try.prog 20 #[.pointer p, .int .i64 x] w fun e W' => e = .returned (.int .i64 d) ∧ Below w.heap.size w W' := by
  have HS := Lib.hid h
  have HD := Lib.hid hd
  clear h hd
  have h1 : 1 ≤ 8 := by omega
  have hro : Fence.wide.round = none := rfl
  refine callsIn_of_wp_marks Try.func20 rfl trivial ?_ hro
  simp only [Try.ntmps20, List.size_toArray, List.length_cons, List.length_nil, Nat.reduceAdd, Nat.reduceSub, Array.replicate_succ, Array.replicate_zero, List.push_toArray, List.append_toArray, List.nil_append, List.cons_append]
  gi_wp2_with fail
  refine ⟨trivial, ?_⟩
  refine (path_in _ _ _ _).mono ?_
  rintro e w' ⟨rfl, rfl⟩
  gi_wp2
  have b0 : Below w.heap.size w (w.alloc (.cells #[.int .i64 0] 3)) := below_one (Below.refl _ _) _
  obtain ⟨hT, hg, hb, _⟩ := boxT (w.alloc (.cells #[.int .i64 0] 3)) p x (HS.out.below b0)
  have bD := ((Boxed.new w 3 (.int .i64 0)).alloc (.cells #[.pointer p] 23)).alloc (.cells #[.int .i64 x] 3)
  have hB0 := below_then b0 hb
  rw [World.size_alloc] at hT hg
  obtain ⟨W0, hW0⟩ : ∃ W0, ((w.alloc (.cells #[.int .i64 0] 3)).alloc (.cells #[.pointer p] 23)).alloc (.cells #[.int .i64 x] 3) = W0 := ⟨_, rfl⟩
  have hz : W0.heap.size = w.heap.size + 3 := by rw [← hW0]; simp
  rw [hW0] at hT hg hB0 bD ⊢
  clear hW0 hb b0
  refine wpIn_rangeFunc_ownG hro h1 (gf := 39) (lb := #[.pointer (some ⟨w.heap.size + 1 + 1, 0, none⟩), .pointer (some ⟨w.heap.size + 1, 0, none⟩)]) rfl trivial (enters_of Try.func39 (by kernel_rfl) rfl)
    (path_stops (8 - 1) (by omega) _ _ p t x W0 hg hT) KeepT.trans keepT_b (Below.refl _ _) (fun _ => rfl)
    (fun pre W => Boxed W w.heap.size 3 (.int .i64 (pre.length : Int)) ∧ Below w.heap.size w W)
    (fun _ _ _ => False)
    (OwnFrom.and (Own.from (boxed_own _ _ _) _) (ownFrom_below (Nat.le_refl _) (by omega)))
    (fun _ _ _ _ _ hs _ _ => hs)
    ⟨bD, hB0⟩
    (fun c : Nat => { tmps := #[.pointer p, .int .i64 x, undef, undef, .int .i64 0, .pointer (some ⟨w.heap.size, 0, none⟩), .pointer p, .int .i64 x, .func (.func 39) #[] #[.pointer (some ⟨w.heap.size + 1 + 1, 0, none⟩), .pointer (some ⟨w.heap.size + 1, 0, none⟩)], .int .i64 (c : Int), undef, undef, undef], defers := [] }) ?assign ?body ?done ?stop
  case assign =>
    intro r c W K hK
    gi_wp2
    simpa using hK
  case body =>
    rintro r pre c W ⟨bD, hB⟩ hlt
    have cD := bD.cell
    have fD := bD.frozen
    gi_wp2
    refine ⟨(KeepsOthers.setCell _ _ _).from _, keep_set bD (.inl rfl), ?_, hB.setCell (p := ⟨w.heap.size, 0, none⟩) (Nat.le_refl _) _⟩
    have := bD.set (.int .i64 ((pre.length : Int) + 1))
    rw [List.length_append, List.length_singleton]
    simpa using this
  case done =>
    rintro D ys W hD rfl ⟨bD, hB⟩ hK
    have cD := bD.cell
    rw [HD.out] at cD
    gi_wp2
    refine ⟨by simp, .inl ⟨_, _, rfl, run_takeDeferred hK, ?_⟩⟩
    exact ⟨_, results_tmp (t := 4) rfl _ _ _, rfl, hB.trans (belowK_b (w := w) (Nat.le_refl _) W D _ _ (by omega) hK rfl rfl)⟩
  case stop =>
    rintro D c pre W _ _ h _
    exact h.elim
theorem cDepth {p : Option Addr} {x : Int} {t : Tr} {d : Nat} (hd : (path t (nu t.n x)).length = d) {w : World} (h : TQ w p t) :
    Calls Try.prog 20 #[.pointer p, .int .i64 x] w fun e W' => e = .returned (.int .i64 d) ∧ Below w.heap.size w W' := callsIn_wide.1 (Depth_in p x t d hd w h)
theorem resBelow : Try.f22.results = #[.cell 6 4] := rfl
theorem res_below (w : World) (tmps : Array Value) (K : Nat) (v : Value) (h6 : tmps[6]?.getD undef = .pointer (some ⟨K, 0, none⟩)) (h : w.heap[K]? = some (.cells #[v] 4)) (q : Bool) (hq : v = .bool q) :
    (results Try.f22 tmps).run Try.prog w = .ok (.bool q) w := by
  subst hq
  have r0 := self_cell h 0 _ rfl
  simp [results, resBelow, go_sem, h6, r0]
theorem resHeir : Try.f23.results = #[.cell 4 3] := rfl
theorem res_heir (w : World) (tmps : Array Value) (K : Nat) (x : Int) (h4 : tmps[4]?.getD undef = .pointer (some ⟨K, 0, none⟩)) (h : w.heap[K]? = some (.cells #[.int .i64 x] 3)) :
    (results Try.f23 tmps).run Try.prog w = .ok (.int .i64 x) w := by
  have r0 := self_cell h 0 _ rfl
  simp [results, resHeir, go_sem, h4, r0]
theorem pth_mem (t : Tr) : ∀ k g, ∀ x ∈ pth t k g, 1 ≤ x ∧ x ≤ t.n := by
  intro k
  induction k with
  | zero => intro g x hx; cases hx
  | succ k ih =>
    intro g x hx
    unfold pth at hx
    split at hx <;> rename_i h1
    · rcases List.mem_cons.1 hx with rfl | hx
      · exact h1
      · exact ih _ x hx
    · cases hx
theorem mem_ints {l : List Nat} {y : Int} : y ∈ ints l ↔ ∃ z ∈ l, (z : Int) = y := by simp [ints]
set_option maxHeartbeats 4000000 in
set_option maxRecDepth 100000 in
theorem Below_in (p : Option Addr) (x y : Int) (t : Tr) (q : Bool) (hq : belowF t x y = q) (w : World) (h : TQ w p t) :
    CallsIn Fence.wide 8 Try.prog 22 #[.pointer p, .int .i64 x, .int .i64 y] w fun e W' => e = .returned (.bool q) ∧ Below w.heap.size w W' := by
  have HS := Lib.hid h
  have HQ := Lib.hid hq
  clear h hq
  have h1 : 1 ≤ 8 := by omega
  have hro : Fence.wide.round = none := rfl
  refine callsIn_of_wp_marks Try.func22 rfl trivial ?_ hro
  simp only [Try.ntmps22, List.size_toArray, List.length_cons, List.length_nil, Nat.reduceAdd, Nat.reduceSub, Array.replicate_succ, Array.replicate_zero, List.push_toArray, List.append_toArray, List.nil_append, List.cons_append]
  gi_wp2_with fail
  refine ⟨trivial, ?_⟩
  refine (path_in _ _ _ _).mono ?_
  rintro e w' ⟨rfl, rfl⟩
  gi_wp2
  have b0 : Below w.heap.size w ((w.alloc (.cells #[.int .i64 y] 3)).alloc (.cells #[.bool false] 4)) := below_one (below_one (Below.refl _ _) _) _
  obtain ⟨hT, hg, hb, _⟩ := boxT ((w.alloc (.cells #[.int .i64 y] 3)).alloc (.cells #[.bool false] 4)) p x (HS.out.below b0)
  have bY := (((Boxed.new w 3 (.int .i64 y)).alloc (.cells #[.bool false] 4)).alloc (.cells #[.pointer p] 23)).alloc (.cells #[.int .i64 x] 3)
  have bR := ((Boxed.new (w.alloc (.cells #[.int .i64 y] 3)) 4 (.bool false)).alloc (.cells #[.pointer p] 23)).alloc (.cells #[.int .i64 x] 3)
  have hB0 := below_then b0 hb
  simp only [World.size_alloc] at hT hg bR
  obtain ⟨W0, hW0⟩ : ∃ W0, (((w.alloc (.cells #[.int .i64 y] 3)).alloc (.cells #[.bool false] 4)).alloc (.cells #[.pointer p] 23)).alloc (.cells #[.int .i64 x] 3) = W0 := ⟨_, rfl⟩
  have hz : W0.heap.size = w.heap.size + 4 := by rw [← hW0]; simp
  rw [hW0] at hT hg hB0 bY bR ⊢
  clear hW0 hb b0
  refine wpIn_rangeFunc_ownG hro h1 (gf := 39) (lb := #[.pointer (some ⟨w.heap.size + 1 + 1 + 1, 0, none⟩), .pointer (some ⟨w.heap.size + 1 + 1, 0, none⟩)]) rfl trivial (enters_of Try.func39 (by kernel_rfl) rfl)
    (path_stops (8 - 1) (by omega) _ _ p t x W0 hg hT) KeepT.trans keepT_b (Below.refl _ _) (fun _ => rfl)
    (fun pre W => (((∀ z ∈ pre, ((z : Nat) : Int) ≠ y) ∧ Boxed W w.heap.size 3 (.int .i64 y)) ∧ Boxed W (w.heap.size + 1) 4 (.bool false)) ∧ Below w.heap.size w W)
    (fun c pre W => ((c = .ret ∧ ∃ z ∈ pre, ((z : Nat) : Int) = y) ∧ Boxed W (w.heap.size + 1) 4 (.bool true)) ∧ Below w.heap.size w W)
    (OwnFrom.and (OwnFrom.and (OwnFrom.and (ownFrom_pure _ _) (Own.from (boxed_own _ _ _) _)) (Own.from (boxed_own _ _ _) _)) (ownFrom_below (Nat.le_refl _) (by omega)))
    (fun c => OwnFrom.and (OwnFrom.and (ownFrom_pure _ _) (Own.from (boxed_own _ _ _) _)) (ownFrom_below (Nat.le_refl _) (by omega)))
    ⟨⟨⟨fun z hz => (by cases hz), bY⟩, bR⟩, hB0⟩
    (fun c : Nat => { tmps := #[.pointer p, .int .i64 x, .int .i64 y, undef, undef, .pointer (some ⟨w.heap.size, 0, none⟩), .pointer (some ⟨w.heap.size + 1, 0, none⟩), .int .i64 (c : Int), .pointer p, .int .i64 x, .func (.func 39) #[] #[.pointer (some ⟨w.heap.size + 1 + 1 + 1, 0, none⟩), .pointer (some ⟨w.heap.size + 1 + 1, 0, none⟩)], .int .i64 (c : Int), undef, undef, undef], defers := [] }) ?assign ?body ?done ?stop
  case assign =>
    intro r c W K hK
    gi_wp2
    exact hK
  case body =>
    rintro r pre c W ⟨⟨⟨hne, bY⟩, bR⟩, hB⟩ hlt
    have cY := bY.cell
    have cR := bR.cell
    have fR := bR.frozen
    have HN := Lib.hid hne
    clear hne
    by_cases hc : (c : Int) = y
    · have HC := Lib.hid hc
      have heq : ((c : Int) == y) = true := by simpa using hc
      clear hc
      gi_wp2
      exact ⟨(KeepsOthers.setCell _ _ _).from _, ⟨⟨rfl, c, by simp, HC.out⟩, bR.set _⟩, hB.setCell (p := ⟨w.heap.size + 1, 0, none⟩) (Nat.le_succ _) _⟩
    · have HC := Lib.hid hc
      have heq : ((c : Int) == y) = false := by simpa using hc
      clear hc
      gi_wp2
      refine ⟨KeepsFrom.refl _ _, KeepT.refl _ _ _ _, ⟨⟨?_, bY⟩, bR⟩, hB⟩
      intro z hz
      rcases List.mem_append.1 hz with h2 | h2
      · exact HN.out z h2
      · rw [List.mem_singleton.1 h2]; exact HC.out
  case done =>
    rintro D ys W hD rfl ⟨⟨⟨hne, bY⟩, bR⟩, hB⟩ hK
    have cR := bR.cell
    have fR := bR.frozen
    have HR : Hid (q = false) := Lib.hid (by
      rw [← HQ.out]
      refine decide_eq_false fun e => ?_
      obtain ⟨z, h2, h3⟩ := mem_ints.1 e
      exact hne z h2 h3)
    clear hne
    gi_wp2
    refine ⟨by simp, .inl ⟨_, _, rfl, run_takeDeferred ((KeepsOthers.setCell _ _ _).same D _ hK rfl), ?_⟩⟩
    refine ⟨_, res_below _ _ (w.heap.size + 1) _ rfl ((World.putObj_heap_other (by omega)).trans (bR.set (.bool false))) false rfl, by rw [HR.out], ?_⟩
    exact (hB.setCell (p := ⟨w.heap.size + 1, 0, none⟩) (Nat.le_succ _) _).trans (belowK_b (w := w) (Nat.le_refl _) _ D _ _ (by omega) ((KeepsOthers.setCell _ _ _).same D _ hK rfl) rfl rfl)
  case stop =>
    rintro D c' pre W hD ⟨rest, hrest⟩ ⟨⟨⟨rfl, z, h2, h3⟩, bR⟩, hB⟩ hK
    have HR : Hid (q = true) := Lib.hid (by
      rw [← HQ.out]
      exact decide_eq_true (mem_ints.2 ⟨z, by rw [← hrest]; exact List.mem_append_left _ h2, h3⟩))
    gi_wp2
    refine ⟨by simp, .inl ⟨_, _, rfl, run_takeDeferred hK, ?_⟩⟩
    refine ⟨_, res_below _ _ (w.heap.size + 1) _ rfl ((World.putObj_heap_other (by omega)).trans bR) true rfl, by rw [HR.out], hB.trans (belowK_b (w := w) (Nat.le_refl _) W D _ _ (by omega) hK rfl rfl)⟩
theorem cBelow {p : Option Addr} {x y : Int} {t : Tr} {q : Bool} (hq : belowF t x y = q) {w : World} (h : TQ w p t) :
    Calls Try.prog 22 #[.pointer p, .int .i64 x, .int .i64 y] w fun e W' => e = .returned (.bool q) ∧ Below w.heap.size w W' := callsIn_wide.1 (Below_in p x y t q hq w h)
set_option maxHeartbeats 4000000 in
set_option maxRecDepth 100000 in
theorem Heir_in (p : Option Addr) (x : Int) (t : Tr) (q : Nat) (hq : heir t (nu t.n x) = q) (w : World) (h : TQ w p t) :
    CallsIn Fence.wide 8 Try.prog 23 #[.pointer p, .int .i64 x] w fun e W' => e = .returned (.int .i64 q) ∧ Below w.heap.size w W' := by
  have HS := Lib.hid h
  have HQ := Lib.hid hq
  clear h hq
  have h1 : 1 ≤ 8 := by omega
  have hro : Fence.wide.round = none := rfl
  refine callsIn_of_wp_marks Try.func23 rfl trivial ?_ hro
  simp only [Try.ntmps23, List.size_toArray, List.length_cons, List.length_nil, Nat.reduceAdd, Nat.reduceSub, Array.replicate_succ, Array.replicate_zero, List.push_toArray, List.append_toArray, List.nil_append, List.cons_append]
  gi_wp2_with fail
  refine ⟨trivial, ?_⟩
  refine (path_in _ _ _ _).mono ?_
  rintro e w' ⟨rfl, rfl⟩
  gi_wp2
  have b0 : Below w.heap.size w ((w.alloc (.cells #[.pointer p] 23)).alloc (.cells #[.int .i64 0] 3)) := below_one (below_one (Below.refl _ _) _) _
  obtain ⟨hT, hg, hb, _⟩ := boxT ((w.alloc (.cells #[.pointer p] 23)).alloc (.cells #[.int .i64 0] 3)) p x (HS.out.below b0)
  have bY := (((Boxed.new w 23 (.pointer p)).alloc (.cells #[.int .i64 0] 3)).alloc (.cells #[.pointer p] 23)).alloc (.cells #[.int .i64 x] 3)
  have bR := ((Boxed.new (w.alloc (.cells #[.pointer p] 23)) 3 (.int .i64 0)).alloc (.cells #[.pointer p] 23)).alloc (.cells #[.int .i64 x] 3)
  have hB0 := below_then b0 hb
  simp only [World.size_alloc] at hT hg bR
  obtain ⟨W0, hW0⟩ : ∃ W0, (((w.alloc (.cells #[.pointer p] 23)).alloc (.cells #[.int .i64 0] 3)).alloc (.cells #[.pointer p] 23)).alloc (.cells #[.int .i64 x] 3) = W0 := ⟨_, rfl⟩
  have hz : W0.heap.size = w.heap.size + 4 := by rw [← hW0]; simp
  rw [hW0] at hT hg hB0 bY bR ⊢
  clear hW0 hb b0
  refine wpIn_rangeFunc_ownG hro h1 (gf := 39) (lb := #[.pointer (some ⟨w.heap.size + 1 + 1 + 1, 0, none⟩), .pointer (some ⟨w.heap.size + 1 + 1, 0, none⟩)]) rfl trivial (enters_of Try.func39 (by kernel_rfl) rfl)
    (path_stops (8 - 1) (by omega) _ _ p t x W0 hg hT) KeepT.trans keepT_b (Below.refl _ _) (fun _ => rfl)
    (fun pre W => (((∀ z ∈ pre, t.on (nu t.n (z : Nat)) = false) ∧ Boxed W w.heap.size 23 (.pointer p)) ∧ Boxed W (w.heap.size + 1) 3 (.int .i64 0)) ∧ Below w.heap.size w W)
    (fun c pre W => ((c = .ret ∧ ∃ ys z, pre = ys ++ [z] ∧ (∀ z ∈ ys, t.on (nu t.n (z : Nat)) = false) ∧ t.on (nu t.n (z : Nat)) = true ∧ Boxed W (w.heap.size + 1) 3 (.int .i64 (z : Nat)))) ∧ Below w.heap.size w W)
    (OwnFrom.and (OwnFrom.and (OwnFrom.and (ownFrom_pure _ _) (Own.from (boxed_own _ _ _) _)) (Own.from (boxed_own _ _ _) _)) (ownFrom_below (Nat.le_refl _) (by omega)))
    (fun c => OwnFrom.and (OwnFrom.and (ownFrom_pure _ _) (fun pre X Y row hs hg hr => by
      obtain ⟨ys, z, e, h2, h3, h4⟩ := hs
      exact ⟨ys, z, e, h2, h3, Own.from (boxed_own (β := Unit) (w.heap.size + 1) 3 (fun _ => .int .i64 (z : Nat))) _ () X Y row h4 hg hr⟩)) (ownFrom_below (Nat.le_refl _) (by omega)))
    ⟨⟨⟨fun z hz => (by cases hz), bY⟩, bR⟩, hB0⟩
    (fun c : Nat => { tmps := #[.pointer p, .int .i64 x, .pointer (some ⟨w.heap.size, 0, none⟩), undef, .pointer (some ⟨w.heap.size + 1, 0, none⟩), .int .i64 (c : Int), .pointer p, .int .i64 x, .func (.func 39) #[] #[.pointer (some ⟨w.heap.size + 1 + 1 + 1, 0, none⟩), .pointer (some ⟨w.heap.size + 1 + 1, 0, none⟩)], .int .i64 (c : Int), undef, undef, undef, undef], defers := [] }) ?assign ?body ?done ?stop
  case assign =>
    intro r c W K hK
    gi_wp2
    exact hK
  case body =>
    rintro r pre c W ⟨⟨⟨hne, bY⟩, bR⟩, hB⟩ hlt
    have cY := bY.cell
    have cR := bR.cell
    have fR := bR.frozen
    have HN := Lib.hid hne
    clear hne
    obtain ⟨o, ho⟩ : ∃ o, t.on (nu t.n (c : Int)) = o := ⟨_, rfl⟩
    have HO := Lib.hid ho
    clear ho
    gi_wp2_with fail
    refine ⟨trivial, ?_⟩
    refine (CallsIn.inRound r (callsIn_wide.2 (cOnline (HS.out.below hB) (c : Int) o HO.out))).mono ?_
    rintro e w2 ⟨rfl, rfl⟩
    cases o
    · gi_wp2
      refine ⟨KeepsFrom.refl _ _, KeepT.refl _ _ _ _, ⟨⟨?_, bY⟩, bR⟩, hB⟩
      intro z hz
      rcases List.mem_append.1 hz with h2 | h2
      · exact HN.out z h2
      · rw [List.mem_singleton.1 h2]; exact HO.out
    · gi_wp2
      exact ⟨(KeepsOthers.setCell _ _ _).from _, ⟨rfl, pre, c, rfl, HN.out, HO.out, bR.set _⟩, hB.setCell (p := ⟨w.heap.size + 1, 0, none⟩) (Nat.le_succ _) _⟩
  case done =>
    rintro D ys W hD rfl ⟨⟨⟨hne, bY⟩, bR⟩, hB⟩ hK
    have cR := bR.cell
    have fR := bR.frozen
    have HR : Hid (q = 0) := Lib.hid (by
      rw [← HQ.out]
      unfold heir
      rw [List.find?_eq_none.2 (fun z hz => by
        have h2 := hne z hz
        rw [nu_yes (pth_mem t _ _ z hz)] at h2
        simp [h2])]
      rfl)
    clear hne
    gi_wp2
    refine ⟨by simp, .inl ⟨_, _, rfl, run_takeDeferred ((KeepsOthers.setCell _ _ _).same D _ hK rfl), ?_⟩⟩
    refine ⟨_, res_heir _ _ (w.heap.size + 1) 0 rfl ((World.putObj_heap_other (by omega)).trans (bR.set (.int .i64 0))), by rw [HR.out]; rfl, ?_⟩
    exact (hB.setCell (p := ⟨w.heap.size + 1, 0, none⟩) (Nat.le_succ _) _).trans (belowK_b (w := w) (Nat.le_refl _) _ D _ _ (by omega) ((KeepsOthers.setCell _ _ _).same D _ hK rfl) rfl rfl)
  case stop =>
    rintro D c' pre W hD ⟨rest, hrest⟩ ⟨⟨rfl, ys, z, rfl, h2, h3, bR⟩, hB⟩ hK
    have HR : Hid (q = z) := Lib.hid (by
      rw [← HQ.out]
      have hm : ∀ u ∈ path t (nu t.n x), nu t.n ((u : Nat) : Int) = u := fun u hu => nu_yes (pth_mem t _ _ u hu)
      have e1 : t.on z = true := by
        rw [hm z (by rw [← hrest]; simp)] at h3
        exact h3
      have e2 : ∀ u ∈ ys, t.on u = false := fun u hu => by
        have := h2 u hu
        rw [hm u (by rw [← hrest]; simp [hu])] at this
        exact this
      unfold heir
      rw [← hrest, List.append_assoc, List.find?_append, List.find?_eq_none.2 (fun u hu => by simp [e2 u hu]), Option.none_or, List.singleton_append, List.find?_cons_of_pos e1]
      rfl)
    gi_wp2
    refine ⟨by simp, .inl ⟨_, _, rfl, run_takeDeferred hK, ?_⟩⟩
    exact ⟨_, res_heir _ _ (w.heap.size + 1) _ rfl ((World.putObj_heap_other (by omega)).trans bR), by rw [HR.out], hB.trans (belowK_b (w := w) (Nat.le_refl _) W D _ _ (by omega) hK rfl rfl)⟩
theorem cHeir {p : Option Addr} {x : Int} {t : Tr} {q : Nat} (hq : heir t (nu t.n x) = q) {w : World} (h : TQ w p t) :
    Calls Try.prog 23 #[.pointer p, .int .i64 x] w fun e W' => e = .returned (.int .i64 q) ∧ Below w.heap.size w W' := callsIn_wide.1 (Heir_in p x t q hq w h)
end Go.Proofs.Ytbdlkglngjjpjaa
