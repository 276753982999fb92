/-
  Two cores that are the same.
-/
import Derived.Test.YtnnfmlbgoplnaaaRse
set_option linter.unusedVariables false
set_option linter.unusedSimpArgs false
namespace Go.Proofs.Ytnnfmlbgoplnaaa
open Go Go.RowKit

theorem flat_at {α : Type} (f : α → List Value) (k : Nat) (hk : ∀ x, (f x).length = k) (M : List α) (j t : Nat) (hj : j < M.length) (ht : t < k) : (M.flatMap f)[j * k + t]? = (f M[j])[t]? := by
  induction M generalizing j with
  | nil => simp at hj
  | cons c r ih =>
    cases j with
    | zero =>
      rw [List.flatMap_cons, Nat.zero_mul, Nat.zero_add, List.getElem?_append_left (by rw [hk]; exact ht)]
      rfl
    | succ j =>
      rw [List.flatMap_cons, List.getElem?_append_right (by rw [hk, Nat.succ_mul]; omega), hk, show (j + 1) * k + t - k = j * k + t by rw [Nat.succ_mul]; omega]
      exact ih j (by simpa using hj)
section
variable {B : Nat} {w : World} {v : Value}
theorem OwnSl.form {M : List SlV} (h : OwnSl B w v M) : ∃ ao cap, v = .slice ao M.length cap ∧ (M.length ≤ cap ∧ cap ≤ 9223372036854775807) ∧ ∀ j, j < M.length → ∃ b o x, ao = some ⟨b, o, none⟩ ∧ M[j]? = some x ∧ w.cell? ⟨b, o + j * 4, none⟩ = some (.int .i64 x.1.slab) ∧ w.cell? ⟨b, o + j * 4 + 1, none⟩ = some x.2.1 ∧
    w.cell? ⟨b, o + j * 4 + 2, none⟩ = some (.int .u64 x.1.turn) ∧ w.cell? ⟨b, o + j * 4 + 3, none⟩ = some x.2.2 ∧ OwnI B w x.2.1 x.1.list ∧ OwnI B w x.2.2 x.1.parts := by
  obtain ⟨hl, ao, cap, hv, hc, hs⟩ := Shows.ofOwns h.1
  refine ⟨ao, cap, hv, by unfold maxLen at hc; omega, fun j hj => ?_⟩
  obtain ⟨b, o, ha, hx⟩ := hs (by omega)
  have hat : ∀ t, t < 4 → w.cell? ⟨b, o + (j * 4 + t), none⟩ = (slC M[j])[t]? := fun t ht => by rw [hx (j * 4 + t) (by omega), flat_at slC 4 (fun x => rfl) M j t hj ht]
  exact ⟨b, o, M[j], ha, List.getElem?_eq_getElem hj, hat 0 (by omega), hat 1 (by omega), hat 2 (by omega), hat 3 (by omega), h.2 _ (List.getElem_mem hj)⟩
theorem OwnSb.form {M : List SbV} (h : OwnSb B w v M) : ∃ ao cap, v = .slice ao M.length cap ∧ (M.length ≤ cap ∧ cap ≤ 9223372036854775807) ∧ ∀ j, j < M.length → ∃ b o x, ao = some ⟨b, o, none⟩ ∧ M[j]? = some x ∧ w.cell? ⟨b, o + j * 5, none⟩ = some (.int .i64 x.1.ct.i) ∧ w.cell? ⟨b, o + j * 5 + 1, none⟩ = some (.int .i64 x.1.ct.n) ∧
    w.cell? ⟨b, o + j * 5 + 2, none⟩ = some (.bool x.1.ct.f) ∧ w.cell? ⟨b, o + j * 5 + 3, none⟩ = some (.bool x.1.ct.l) ∧ w.cell? ⟨b, o + j * 5 + 4, none⟩ = some x.2 ∧ OwnI B w x.2 x.1.first := by
  obtain ⟨hl, ao, cap, hv, hc, hs⟩ := Shows.ofOwns h.1
  refine ⟨ao, cap, hv, by unfold maxLen at hc; omega, fun j hj => ?_⟩
  obtain ⟨b, o, ha, hx⟩ := hs (by omega)
  have hat : ∀ t, t < 5 → w.cell? ⟨b, o + (j * 5 + t), none⟩ = (sbC M[j])[t]? := fun t ht => by rw [hx (j * 5 + t) (by omega), flat_at sbC 5 (fun x => rfl) M j t hj ht]
  exact ⟨b, o, M[j], ha, List.getElem?_eq_getElem hj, hat 0 (by omega), hat 1 (by omega), hat 2 (by omega), hat 3 (by omega), hat 4 (by omega), h.2 _ (List.getElem_mem hj)⟩
/-- a core in a world -/
structure CrIn (B : Nat) (w : World) (k : Cr) (u1 u2 u3 : Value) (M : List SlV) (N : List SbV) : Prop where
  slots : OwnSl B w u1 M
  slotsIs : M.map (·.1) = k.slots
  shelf : OwnI B w u2 k.shelf
  slabs : OwnSb B w u3 N
  slabsIs : N.map (·.1) = k.slabs
theorem CrIn.below {w' : World} {k : Cr} {u1 u2 u3 : Value} {M : List SlV} {N : List SbV} (h : CrIn B w k u1 u2 u3 M N) (hb : Below w.heap.size w w') : CrIn B w' k u1 u2 u3 M N := ⟨h.slots.below hb, h.slotsIs, h.shelf.below hb, h.slabs.below hb, h.slabsIs⟩
end
theorem same_at {α β : Type} {M M' : List (α × β)} (h : M.map (·.1) = M'.map (·.1)) {j : Nat} {x y : α × β} (hx : M[j]? = some x) (hy : M'[j]? = some y) : x.1 = y.1 := by
  have := congrArg (fun l => l[j]?) h
  simp only [List.getElem?_map, hx, hy, Option.map_some, Option.some.injEq] at this
  exact this
theorem step_storeR {T : TypeId} {n : Nat} {ops : Array Oper} {o : Oper} {c : Act} {w : World} {K : Act → World → Prop} {Q : Exit → Act → World → Prop} {E : Prop} (hT : RT T n) (hgd : o.guard = none) (x y : Operand) (ho : o.op = .store T x y)
    (g : Nat) (cs : Array Value) (hx : c.eval x = .pointer (some ⟨g, 0, none⟩)) (hy : c.eval y = .agg cs) (hn : cs.size = n) (h1 : cs.all (·.oneCell') = true) (old : Array Value) (hg : w.heap[g]? = some (.cells old T (0, 0))) (hs : old.size = n)
    (h : ∀ w', BlkAt T w' g cs → Kept (· = g) w w' → K (c.put o.dst undef) w') : if Region.wanted o (yielded ops c.tmps) = true then Oper.wp Try.prog o c w K Q else E := by
  have hw : Region.wanted o (yielded ops c.tmps) = true := by simp [Region.wanted, hgd]
  rw [if_pos hw]
  exact wp_store_row _ x y ho g cs hx hy _ old hg (by rw [hn]; exact hT.info) (by rw [hs, hn]) h1 (h _ (setRow_heap _ _ _ _ _ _ hg) ⟨rfl, rfl, rfl, by simp, fun k _ hn => setRow_other _ _ _ _ hn⟩)
abbrev crO (a b : Value) (k : Bool) (d : Value) : Obj := .cells #[a, b, .bool k, d] 40
set_option maxHeartbeats 8000000 in
set_option maxRecDepth 100000 in
theorem rSameYes (k : Cr) (a1 a2 a3 b1 b2 b3 : Value) (M M' : List SlV) (N N' : List SbV) (Ba Bb : Nat) (w : World) (ha : CrIn Ba w k a1 a2 a3 M N) (hb : CrIn Bb w k b1 b2 b3 M' N') :
    Calls Try.prog 35 #[.agg #[a1, a2, .bool k.locked, a3], .agg #[b1, b2, .bool k.locked, b3]] w fun e w' => e = .returned (.bool true) ∧ Below w.heap.size w w' := by
  obtain ⟨A1, ca1, rfl, ⟨hca, hca2⟩, hat1⟩ := ha.slots.form
  obtain ⟨B1, cb1, rfl, ⟨hcb, hcb2⟩, hat2⟩ := hb.slots.form
  obtain ⟨A3, ca3, rfl, ⟨hda, hda2⟩, hat3⟩ := ha.slabs.form
  obtain ⟨B3, cb3, rfl, ⟨hdb, hdb2⟩, hat4⟩ := hb.slabs.form
  have hml : M'.length = M.length := by
    have h1 := congrArg List.length (hb.slotsIs.trans ha.slotsIs.symm)
    simpa using h1
  have hnl : N'.length = N.length := by
    have h1 := congrArg List.length (hb.slabsIs.trans ha.slabsIs.symm)
    simpa using h1
  have HMM : Hid (M.map (·.1) = M'.map (·.1)) := Lib.hid (ha.slotsIs.trans hb.slotsIs.symm)
  have HNN : Hid (N.map (·.1) = N'.map (·.1)) := Lib.hid (ha.slabsIs.trans hb.slabsIs.symm)
  obtain ⟨a2o, a2n, a2c, rfl⟩ := ha.shelf.slice
  obtain ⟨b2o, b2n, b2c, rfl⟩ := hb.shelf.slice
  have hshA := ha.shelf.shows
  have hshB := hb.shelf.shows
  rw [hml] at hcb hat2 ⊢
  rw [hnl] at hdb hat4 ⊢
  clear hml hnl ha hb
  generalize M.length = m at *
  generalize N.length = n at *
  generalize k.locked = lk at *
  generalize k.shelf = sh at *
  clear k
  have HAT1 := Lib.hid hat1
  have HAT2 := Lib.hid hat2
  have HAT3 := Lib.hid hat3
  have HAT4 := Lib.hid hat4
  have hbA : Below w.heap.size w ((w.alloc (crO (.slice A1 m ca1) (.slice a2o a2n a2c) lk (.slice A3 n ca3))).alloc (crO (.slice B1 m cb1) (.slice b2o b2n b2c) lk (.slice B3 n cb3))) := below_one (below_one (Below.refl _ _) _) _
  have HKA : Hid (BlkAt 40 ((w.alloc (crO (.slice A1 m ca1) (.slice a2o a2n a2c) lk (.slice A3 n ca3))).alloc (crO (.slice B1 m cb1) (.slice b2o b2n b2c) lk (.slice B3 n cb3))) w.heap.size #[.slice A1 m ca1, .slice a2o a2n a2c, .bool lk, .slice A3 n ca3]) := Lib.hid (heap_low2 _ _ _)
  have HKB : Hid (BlkAt 40 ((w.alloc (crO (.slice A1 m ca1) (.slice a2o a2n a2c) lk (.slice A3 n ca3))).alloc (crO (.slice B1 m cb1) (.slice b2o b2n b2c) lk (.slice B3 n cb3))) (w.heap.size + 1) #[.slice B1 m cb1, .slice b2o b2n b2c, .bool lk, .slice B3 n cb3]) := Lib.hid (heap_new2 _ _ _)
  have HW0 := Lib.hid hbA
  have HSA := Lib.hid (ShowI.below hshA hbA)
  have HSB := Lib.hid (ShowI.below hshB hbA)
  clear hat1 hat2 hat3 hat4 hbA hshA hshB
  go_enter Try.func35, Try.ntmps35
  go_wp2_with fail
  refine (cEqYes _ _ sh sh rfl _ HSA.out HSB.out).mono ?_
  rintro e w1 ⟨rfl, hb1⟩
  have HA1 := Lib.hid (BlkAt.below HKA.out hb1)
  have HB1 := Lib.hid (BlkAt.below HKB.out hb1)
  have HW1 := Lib.hid (below_then HW0.out hb1)
  have hlk : (lk != lk) = false := by simp
  have e0 := HA1.out.cell (j := 2) (u := .bool lk) rfl
  have e1 := HB1.out.cell (j := 2) (u := .bool lk) rfl
  clear hb1 HKA HKB HW0 HSA HSB
  go_wp2
  go_loopw [5] (fun i wr => ∃ j : Nat, j ≤ m ∧ i = .int .i64 j ∧ Hid (Below w1.heap.size w1 wr)) (fun i _ => m - (intOf i).toNat)
  case atStart => exact ⟨0, by omega, rfl, Lib.hid (Below.refl _ _)⟩
  case round =>
    clear e0 e1
    obtain ⟨j, hj, rfl, HW⟩ := hrel
    have HA2 := Lib.hid (BlkAt.below HA1.out HW.out)
    have HB2 := Lib.hid (BlkAt.below HB1.out HW.out)
    have e0 := HA2.out.cell (j := 0) (u := .slice A1 m ca1) rfl
    have e1 := HB2.out.cell (j := 0) (u := .slice B1 m cb1) rfl
    by_cases hlt : j < m
    · have hlt2 : (j : Int) < (m : Int) := by omega
      have hj0 : (0 : Int) ≤ (j : Int) := by omega
      obtain ⟨p1, o1, x, rfl, hx, x0, x1, x2, x3, xu, xv⟩ := HAT1.out j hlt
      obtain ⟨p2, o2, y, rfl, hy, y0, y1, y2, y3, yu, yv⟩ := HAT2.out j hlt
      have hxy := same_at HMM.out hx hy
      obtain ⟨xs, xU, xV⟩ := x
      obtain ⟨ys, yU, yV⟩ := y
      dsimp only at hxy x0 x1 x2 x3 xu xv y0 y1 y2 y3 yu yv
      subst hxy
      obtain ⟨c1, c2, c3, rfl⟩ := xu.slice
      obtain ⟨c4, c5, c6, rfl⟩ := xv.slice
      obtain ⟨d1, d2, d3, rfl⟩ := yu.slice
      obtain ⟨d4, d5, d6, rfl⟩ := yv.slice
      have HWW := Lib.hid (below_then HW1.out HW.out)
      have HIN : Hid (∀ w', Below wr.drew.heap.size wr.drew w' → w'.cell? ⟨w.heap.size, 0, none⟩ = some (.slice (some ⟨p1, o1, none⟩) m ca1) ∧ w'.cell? ⟨w.heap.size + 1, 0, none⟩ = some (.slice (some ⟨p2, o2, none⟩) m cb1) ∧
          w'.cell? ⟨p1, o1 + j * 4, none⟩ = some (.int .i64 xs.slab) ∧ w'.cell? ⟨p1, o1 + j * 4 + 1, none⟩ = some (.slice c1 c2 c3) ∧ w'.cell? ⟨p1, o1 + j * 4 + 2, none⟩ = some (.int .u64 xs.turn) ∧ w'.cell? ⟨p1, o1 + j * 4 + 3, none⟩ = some (.slice c4 c5 c6) ∧
          w'.cell? ⟨p2, o2 + j * 4, none⟩ = some (.int .i64 xs.slab) ∧ w'.cell? ⟨p2, o2 + j * 4 + 1, none⟩ = some (.slice d1 d2 d3) ∧ w'.cell? ⟨p2, o2 + j * 4 + 2, none⟩ = some (.int .u64 xs.turn) ∧ w'.cell? ⟨p2, o2 + j * 4 + 3, none⟩ = some (.slice d4 d5 d6)) := Lib.hid (fun w' hb => by
        have hb' : Below w.heap.size w w' := below_then (Below.drew HWW.out) hb
        exact ⟨cell_keep hb (w := wr.drew) e0, cell_keep hb (w := wr.drew) e1, cell_keep hb' x0, cell_keep hb' x1, cell_keep hb' x2, cell_keep hb' x3, cell_keep hb' y0, cell_keep hb' y1, cell_keep hb' y2, cell_keep hb' y3⟩)
      have HL : Hid (∀ w', Below w.heap.size w w' → ShowI w' (.slice c1 c2 c3) xs.list ∧ ShowI w' (.slice d1 d2 d3) xs.list ∧ ShowI w' (.slice c4 c5 c6) xs.parts ∧ ShowI w' (.slice d4 d5 d6) xs.parts) := Lib.hid (fun w' hb => ⟨xu.shows.below hb, yu.shows.below hb, xv.shows.below hb, yv.shows.below hb⟩)
      clear hx hy x0 x1 x2 x3 xu xv y0 y1 y2 y3 yu yv
      go_wp2
      go_cut [6, 7] from 47 to 84 (fun s6 s7 wx => ∃ X Y : Nat, s6 = .pointer (some ⟨X, 0, none⟩) ∧ s7 = .pointer (some ⟨Y, 0, none⟩) ∧ Hid (BlkAt 59 wx X #[.int .i64 xs.slab, .slice c1 c2 c3, .int .u64 xs.turn, .slice c4 c5 c6] ∧ BlkAt 59 wx Y #[.int .i64 xs.slab, .slice d1 d2 d3, .int .u64 xs.turn, .slice d4 d5 d6] ∧ Below wr.heap.size wr wx))
      case first =>
        refine wp_region_held_drew (S := (fun w' => w'.cell? ⟨w.heap.size, 0, none⟩ = some (.slice (some ⟨p1, o1, none⟩) m ca1) ∧ w'.cell? ⟨w.heap.size + 1, 0, none⟩ = some (.slice (some ⟨p2, o2, none⟩) m cb1) ∧ w'.cell? ⟨p1, o1 + j * 4, none⟩ = some (.int .i64 xs.slab) ∧ w'.cell? ⟨p1, o1 + j * 4 + 1, none⟩ = some (.slice c1 c2 c3) ∧ w'.cell? ⟨p1, o1 + j * 4 + 2, none⟩ = some (.int .u64 xs.turn) ∧ w'.cell? ⟨p1, o1 + j * 4 + 3, none⟩ = some (.slice c4 c5 c6) ∧ w'.cell? ⟨p2, o2 + j * 4, none⟩ = some (.int .i64 xs.slab) ∧ w'.cell? ⟨p2, o2 + j * 4 + 1, none⟩ = some (.slice d1 d2 d3) ∧ w'.cell? ⟨p2, o2 + j * 4 + 2, none⟩ = some (.int .u64 xs.turn) ∧ w'.cell? ⟨p2, o2 + j * 4 + 3, none⟩ = some (.slice d4 d5 d6))) (by kernel_rfl) ?_ (fun hH1 => ?_)
        · exact HIN.out _ (Below.refl _ _)
        refine' take_at (i := 0) (d := some 47) (v := _) rfl rfl (by kernel_rfl) (by kernel_rfl) (by kernel_rfl) (fun _ _ _ h => h) (Or.inl ⟨by rfl, ?hy0⟩) (by assumption) ?rest0
        case hy0 => (intro w hSw; (try dsimp only at hSw); go_simp; try with_reducible rfl)
        try simp only [Act.put, List.setIfInBounds_toArray, List.set_cons_zero, List.set_cons_succ]
        refine' take_at (i := 1) (d := some 48) (v := _) rfl rfl (by kernel_rfl) (by kernel_rfl) (by kernel_rfl) (fun _ _ _ h => h) (Or.inl ⟨by rfl, ?hy1⟩) (by assumption) ?rest1
        case hy1 => (intro w hSw; (try dsimp only at hSw); go_simp; try with_reducible rfl)
        try simp only [Act.put, List.setIfInBounds_toArray, List.set_cons_zero, List.set_cons_succ]
        refine' take_at (i := 2) (d := some 49) (v := _) rfl rfl (by kernel_rfl) (by kernel_rfl) (by kernel_rfl) (fun _ _ _ h => h) (Or.inl ⟨by rfl, ?hy2⟩) (by assumption) ?rest2
        case hy2 => (intro w hSw; (try dsimp only at hSw); go_simp; try with_reducible rfl)
        try simp only [Act.put, List.setIfInBounds_toArray, List.set_cons_zero, List.set_cons_succ]
        refine' take_at (i := 3) (d := some 50) (v := _) rfl rfl (by kernel_rfl) (by kernel_rfl) (by kernel_rfl) (fun _ _ _ h => h) (Or.inl ⟨by rfl, ?hy3⟩) (by assumption) ?rest3
        case hy3 => (intro w hSw; (try dsimp only at hSw); go_simp; try with_reducible rfl)
        try simp only [Act.put, List.setIfInBounds_toArray, List.set_cons_zero, List.set_cons_succ]
        refine' take_at (i := 4) (d := some 51) (v := _) rfl rfl (by kernel_rfl) (by kernel_rfl) (by kernel_rfl) (fun _ _ _ h => h) (Or.inl ⟨by rfl, ?hy4⟩) (by assumption) ?rest4
        case hy4 => (intro w hSw; (try dsimp only at hSw); go_simp; try with_reducible rfl)
        try simp only [Act.put, List.setIfInBounds_toArray, List.set_cons_zero, List.set_cons_succ]
        refine' take_at (i := 5) (d := some 52) (v := _) rfl rfl (by kernel_rfl) (by kernel_rfl) (by kernel_rfl) (fun _ _ _ h => h) (Or.inl ⟨by rfl, ?hy5⟩) (by assumption) ?rest5
        case hy5 => (intro w hSw; (try dsimp only at hSw); go_simp; try with_reducible rfl)
        try simp only [Act.put, List.setIfInBounds_toArray, List.set_cons_zero, List.set_cons_succ]
        refine' take_at (i := 6) (d := some 53) (v := _) rfl rfl (by kernel_rfl) (by kernel_rfl) (by kernel_rfl) (fun _ _ _ h => h) (Or.inl ⟨by rfl, ?hy6⟩) (by assumption) ?rest6
        case hy6 => (intro w hSw; (try dsimp only at hSw); go_simp; try with_reducible rfl)
        try simp only [Act.put, List.setIfInBounds_toArray, List.set_cons_zero, List.set_cons_succ]
        refine' take_at (i := 7) (d := some 54) (v := _) rfl rfl (by kernel_rfl) (by kernel_rfl) (by kernel_rfl) (fun _ _ _ h => h) (Or.inl ⟨by rfl, ?hy7⟩) (by assumption) ?rest7
        case hy7 => (intro w hSw; (try dsimp only at hSw); go_simp; try with_reducible rfl)
        try simp only [Act.put, List.setIfInBounds_toArray, List.set_cons_zero, List.set_cons_succ]
        refine' take_at (i := 8) (d := some 55) (v := _) rfl rfl (by kernel_rfl) (by kernel_rfl) (by kernel_rfl) (fun _ _ _ h => h) (Or.inl ⟨by rfl, ?hy8⟩) (by assumption) ?rest8
        case hy8 => (intro w hSw; (try dsimp only at hSw); go_simp; try with_reducible rfl)
        try simp only [Act.put, List.setIfInBounds_toArray, List.set_cons_zero, List.set_cons_succ]
        refine' take_at (i := 9) (d := some 56) (v := _) rfl rfl (by kernel_rfl) (by kernel_rfl) (by kernel_rfl) (fun _ _ _ h => h) (Or.inl ⟨by rfl, ?hy9⟩) (by assumption) ?rest9
        case hy9 => (intro w hSw; (try dsimp only at hSw); go_simp; try with_reducible rfl)
        try simp only [Act.put, List.setIfInBounds_toArray, List.set_cons_zero, List.set_cons_succ]
        refine wpAnyH_ready (rs := [10, 11]) (by kernel_rfl) (by simp) ?_
        refine AllReadyH.cons rfl (fun K hK => ?_) ?_
        · go_simp
          refine hK.out _ _ ?_ (fun hHn => ?_)
          · exact HIN.out _ (below_one (Below.refl _ _) _)
          clear hK K
          refine wpAnyH_ready (rs := [11]) (by kernel_rfl) (by simp) ?_
          refine AllReadyH.cons rfl (fun K hK => ?_) AllReadyH.nil
          go_simp
          refine hK.out _ _ ?_ (fun hHn => ?_)
          · exact HIN.out _ (below_one (below_one (Below.refl _ _) _) _)
          clear hK K
          refine wpAnyH_ready (rs := [12]) (by kernel_rfl) (by simp) ?_
          refine AllReadyH.cons rfl (fun K hK => ?_) AllReadyH.nil
          refine step_storeR rtSlot (by rfl) _ _ (by rfl) wr.heap.size #[.int .i64 xs.slab, .slice c1 c2 c3, .int .u64 xs.turn, .slice c4 c5 c6] (by rfl) (by rfl) (by rfl) (by simp [Value.oneCell']) _ (heap_low2 wr.drew sl0 sl0) rfl ?_
          intro w3 h3 k3
          have hY3 : BlkAt 59 w3 (wr.heap.size + 1) #[.int .i64 0, .slice none 0 0, .int .u64 0, .slice none 0 0] := BlkAt.kept (heap_new2 wr.drew sl0 sl0) k3 (by omega)
          have hb3 : Below wr.drew.heap.size wr.drew w3 := below_kept (below_one (below_one (Below.refl _ _) _) _) k3 (by rintro k rfl; first | exact Nat.le_refl _ | exact Nat.le_succ _)
          refine hK.out _ _ ?_ (fun hHn => ?_)
          · exact HIN.out _ hb3
          clear hK K
          refine wpAnyH_ready (rs := [13]) (by kernel_rfl) (by simp) ?_
          refine AllReadyH.cons rfl (fun K hK => ?_) AllReadyH.nil
          refine step_storeR rtSlot (by rfl) _ _ (by rfl) (wr.heap.size + 1) #[.int .i64 xs.slab, .slice d1 d2 d3, .int .u64 xs.turn, .slice d4 d5 d6] (by rfl) (by rfl) (by rfl) (by simp [Value.oneCell']) _ hY3 rfl ?_
          intro w4 h4 k4
          have hb4 : Below wr.drew.heap.size wr.drew w4 := below_kept hb3 k4 (by rintro k rfl; first | exact Nat.le_refl _ | exact Nat.le_succ _)
          have hX4 := BlkAt.kept h3 k4 (by omega)
          refine hK.out _ _ ?_ (fun hHn => ?_)
          · exact HIN.out _ hb4
          clear hK K
          refine wpAnyH_done (by kernel_rfl) ?_ _
          go_wp2_with fail
          go_meet
          case rel => exact ⟨_, _, rfl, rfl, Lib.hid ⟨hX4, h4, (Below.drew (Below.refl wr.heap.size wr)).trans hb4⟩⟩
        refine AllReadyH.cons rfl (fun K hK => ?_) AllReadyH.nil
        go_simp
        refine hK.out _ _ ?_ (fun hHn => ?_)
        · exact HIN.out _ (below_one (Below.refl _ _) _)
        clear hK K
        refine wpAnyH_ready (rs := [10]) (by kernel_rfl) (by simp) ?_
        refine AllReadyH.cons rfl (fun K hK => ?_) AllReadyH.nil
        go_simp
        refine hK.out _ _ ?_ (fun hHn => ?_)
        · exact HIN.out _ (below_one (below_one (Below.refl _ _) _) _)
        clear hK K
        refine wpAnyH_ready (rs := [12]) (by kernel_rfl) (by simp) ?_
        refine AllReadyH.cons rfl (fun K hK => ?_) AllReadyH.nil
        refine step_storeR rtSlot (by rfl) _ _ (by rfl) (wr.heap.size + 1) #[.int .i64 xs.slab, .slice c1 c2 c3, .int .u64 xs.turn, .slice c4 c5 c6] (by rfl) (by rfl) (by rfl) (by simp [Value.oneCell']) _ (heap_new2 wr.drew sl0 sl0) rfl ?_
        intro w3 h3 k3
        have hY3 : BlkAt 59 w3 wr.heap.size #[.int .i64 0, .slice none 0 0, .int .u64 0, .slice none 0 0] := BlkAt.kept (heap_low2 wr.drew sl0 sl0) k3 (by omega)
        have hb3 : Below wr.drew.heap.size wr.drew w3 := below_kept (below_one (below_one (Below.refl _ _) _) _) k3 (by rintro k rfl; first | exact Nat.le_refl _ | exact Nat.le_succ _)
        refine hK.out _ _ ?_ (fun hHn => ?_)
        · exact HIN.out _ hb3
        clear hK K
        refine wpAnyH_ready (rs := [13]) (by kernel_rfl) (by simp) ?_
        refine AllReadyH.cons rfl (fun K hK => ?_) AllReadyH.nil
        refine step_storeR rtSlot (by rfl) _ _ (by rfl) wr.heap.size #[.int .i64 xs.slab, .slice d1 d2 d3, .int .u64 xs.turn, .slice d4 d5 d6] (by rfl) (by rfl) (by rfl) (by simp [Value.oneCell']) _ hY3 rfl ?_
        intro w4 h4 k4
        have hb4 : Below wr.drew.heap.size wr.drew w4 := below_kept hb3 k4 (by rintro k rfl; first | exact Nat.le_refl _ | exact Nat.le_succ _)
        have hX4 := BlkAt.kept h3 k4 (by omega)
        refine hK.out _ _ ?_ (fun hHn => ?_)
        · exact HIN.out _ hb4
        clear hK K
        refine wpAnyH_done (by kernel_rfl) ?_ _
        go_wp2_with fail
        go_meet
        case rel => exact ⟨_, _, rfl, rfl, Lib.hid ⟨hX4, h4, (Below.drew (Below.refl wr.heap.size wr)).trans hb4⟩⟩
      case rest =>
        obtain ⟨X, Y, rfl, rfl, HX⟩ := hcut
        have h0 := HX.out.1.cell (j := 0) (u := .int .i64 xs.slab) rfl
        have h1 := HX.out.1.cell (j := 1) (u := .slice c1 c2 c3) rfl
        have h2 := HX.out.1.cell (j := 2) (u := .int .u64 xs.turn) rfl
        have g0 := HX.out.2.1.cell (j := 0) (u := .int .i64 xs.slab) rfl
        have g1 := HX.out.2.1.cell (j := 1) (u := .slice d1 d2 d3) rfl
        have g2 := HX.out.2.1.cell (j := 2) (u := .int .u64 xs.turn) rfl
        have hs1 : (xs.slab != xs.slab) = false := by simp
        have hs2 : (xs.turn != xs.turn) = false := by simp
        have HWX := Lib.hid (below_then HWW.out HX.out.2.2)
        clear HIN e0 e1
        go_wp2_with fail
        refine (cEqYes _ _ xs.list xs.list rfl _ (HL.out _ HWX.out).1 (HL.out _ HWX.out).2.1).mono ?_
        rintro e w5 ⟨rfl, hb5⟩
        have HX5 := Lib.hid (And.intro (BlkAt.below HX.out.1 hb5) (BlkAt.below HX.out.2.1 hb5))
        have HW5 := Lib.hid (And.intro (below_then HWX.out hb5) (below_then HX.out.2.2 hb5))
        have h3 := HX5.out.1.cell (j := 3) (u := .slice c4 c5 c6) rfl
        have g3 := HX5.out.2.cell (j := 3) (u := .slice d4 d5 d6) rfl
        clear hb5 HWX HX h0 h1 h2 g0 g1 g2
        go_wp2_with fail
        refine (cEqYes _ _ xs.parts xs.parts rfl _ (HL.out _ HW5.out.1).2.2.1 (HL.out _ HW5.out.1).2.2.2).mono ?_
        rintro e w6 ⟨rfl, hb6⟩
        have HR := Lib.hid (below_then HW.out (below_then HW5.out.2 hb6))
        clear hb6 HW5 HX5 h3 g3
        go_wp2
        go_roundw
        case rel => exact ⟨j + 1, by omega, by go_num, HR⟩
        case measure => simp [intOf]; omega
    · obtain rfl : j = m := by omega
      have HW7 := Lib.hid (below_then HW1.out HW.out)
      clear HAT1 HAT2 HA1 HB1 HMM
      have e2 := HA2.out.cell (j := 3) (u := .slice A3 n ca3) rfl
      have e3 := HB2.out.cell (j := 3) (u := .slice B3 n cb3) rfl
      go_wp2
      have HX0 : Hid (BlkAt 40 wr w.heap.size #[.slice A1 j ca1, .slice a2o a2n a2c, .bool lk, .slice A3 n ca3] ∧ BlkAt 40 wr (w.heap.size + 1) #[.slice B1 j cb1, .slice b2o b2n b2c, .bool lk, .slice B3 n cb3] ∧ Below w.heap.size w wr) := Lib.hid ⟨HA2.out, HB2.out, HW7.out⟩
      have hgd := guardK
      clear HA2 HB2 HW7 HW HW1
      go_loopw [8] (fun i wr => ∃ q : Nat, q ≤ n ∧ i = .int .i64 q ∧ Hid (BlkAt 40 wr w.heap.size #[.slice A1 j ca1, .slice a2o a2n a2c, .bool lk, .slice A3 n ca3] ∧ BlkAt 40 wr (w.heap.size + 1) #[.slice B1 j cb1, .slice b2o b2n b2c, .bool lk, .slice B3 n cb3] ∧ Below w.heap.size w wr)) (fun i _ => n - (intOf i).toNat)
      case atStart => exact ⟨0, by omega, rfl, HX0⟩
      case round =>
        clear e0 e1 e2 e3 HX0
        obtain ⟨q, hq, rfl, HV⟩ := hrel
        have e2 := HV.out.1.cell (j := 3) (u := .slice A3 n ca3) rfl
        have e3 := HV.out.2.1.cell (j := 3) (u := .slice B3 n cb3) rfl
        by_cases hlt : q < n
        · have hlt2 : (q : Int) < (n : Int) := by omega
          have hq0 : (0 : Int) ≤ (q : Int) := by omega
          obtain ⟨p1, o1, x, rfl, hx, x0, x1, x2, x3, x4, xu⟩ := HAT3.out q hlt
          obtain ⟨p2, o2, y, rfl, hy, y0, y1, y2, y3, y4, yu⟩ := HAT4.out q hlt
          have hxy := same_at HNN.out hx hy
          obtain ⟨xs, xU⟩ := x
          obtain ⟨ys, yU⟩ := y
          dsimp only at hxy x0 x1 x2 x3 x4 xu y0 y1 y2 y3 y4 yu
          subst hxy
          obtain ⟨c1, c2, c3, rfl⟩ := xu.slice
          obtain ⟨d1, d2, d3, rfl⟩ := yu.slice
          have HIN : Hid (∀ w', Below wr.drew.heap.size wr.drew w' → w'.cell? ⟨w.heap.size, 3, none⟩ = some (.slice (some ⟨p1, o1, none⟩) n ca3) ∧ w'.cell? ⟨w.heap.size + 1, 3, none⟩ = some (.slice (some ⟨p2, o2, none⟩) n cb3) ∧ w'.cell? ⟨p1, o1 + q * 5, none⟩ = some (.int .i64 xs.ct.i) ∧ w'.cell? ⟨p1, o1 + q * 5 + 1, none⟩ = some (.int .i64 xs.ct.n) ∧ w'.cell? ⟨p1, o1 + q * 5 + 2, none⟩ = some (.bool xs.ct.f) ∧ w'.cell? ⟨p1, o1 + q * 5 + 3, none⟩ = some (.bool xs.ct.l) ∧ w'.cell? ⟨p1, o1 + q * 5 + 4, none⟩ = some (.slice c1 c2 c3) ∧ w'.cell? ⟨p2, o2 + q * 5, none⟩ = some (.int .i64 xs.ct.i) ∧ w'.cell? ⟨p2, o2 + q * 5 + 1, none⟩ = some (.int .i64 xs.ct.n) ∧ w'.cell? ⟨p2, o2 + q * 5 + 2, none⟩ = some (.bool xs.ct.f) ∧ w'.cell? ⟨p2, o2 + q * 5 + 3, none⟩ = some (.bool xs.ct.l) ∧ w'.cell? ⟨p2, o2 + q * 5 + 4, none⟩ = some (.slice d1 d2 d3)) := Lib.hid (fun w' hb => by
            have hb' : Below w.heap.size w w' := below_then (Below.drew HV.out.2.2) hb
            exact ⟨cell_keep hb (w := wr.drew) e2, cell_keep hb (w := wr.drew) e3, cell_keep hb' x0, cell_keep hb' x1, cell_keep hb' x2, cell_keep hb' x3, cell_keep hb' x4, cell_keep hb' y0, cell_keep hb' y1, cell_keep hb' y2, cell_keep hb' y3, cell_keep hb' y4⟩)
          have HL : Hid (ShowI wr.drew (.slice c1 c2 c3) xs.first ∧ ShowI wr.drew (.slice d1 d2 d3) xs.first) := Lib.hid ⟨xu.shows.below (Below.drew HV.out.2.2), yu.shows.below (Below.drew HV.out.2.2)⟩
          have heq := fun w' => eqIs (c := xs.ct) (d := xs.ct) (decide_eq_true rfl) w'
          clear hx hy x0 x1 x2 x3 x4 xu y0 y1 y2 y3 y4 yu
          go_wp2
          go_region_held3 (fun w' => w'.cell? ⟨w.heap.size, 3, none⟩ = some (.slice (some ⟨p1, o1, none⟩) n ca3) ∧ w'.cell? ⟨w.heap.size + 1, 3, none⟩ = some (.slice (some ⟨p2, o2, none⟩) n cb3) ∧ w'.cell? ⟨p1, o1 + q * 5, none⟩ = some (.int .i64 xs.ct.i) ∧ w'.cell? ⟨p1, o1 + q * 5 + 1, none⟩ = some (.int .i64 xs.ct.n) ∧ w'.cell? ⟨p1, o1 + q * 5 + 2, none⟩ = some (.bool xs.ct.f) ∧ w'.cell? ⟨p1, o1 + q * 5 + 3, none⟩ = some (.bool xs.ct.l) ∧ w'.cell? ⟨p1, o1 + q * 5 + 4, none⟩ = some (.slice c1 c2 c3) ∧ w'.cell? ⟨p2, o2 + q * 5, none⟩ = some (.int .i64 xs.ct.i) ∧ w'.cell? ⟨p2, o2 + q * 5 + 1, none⟩ = some (.int .i64 xs.ct.n) ∧ w'.cell? ⟨p2, o2 + q * 5 + 2, none⟩ = some (.bool xs.ct.f) ∧ w'.cell? ⟨p2, o2 + q * 5 + 3, none⟩ = some (.bool xs.ct.l) ∧ w'.cell? ⟨p2, o2 + q * 5 + 4, none⟩ = some (.slice d1 d2 d3))
            (first | exact HIN.out _ (Below.refl _ _) | exact HIN.out _ hb5)
            (first
              | (go_at_call 28; refine (cEqYes _ _ xs.first xs.first rfl _ HL.out.1 HL.out.2).mono ?_; rintro e w5 ⟨rfl, hb5⟩))
          all_goals
            have HB5 : Hid (Below wr.heap.size wr w5) := Lib.hid ((Below.drew (Below.refl wr.heap.size wr)).trans hb5)
            have HV5 : Hid (BlkAt 40 w5 w.heap.size _ ∧ BlkAt 40 w5 (w.heap.size + 1) _ ∧ Below w.heap.size w w5) := Lib.hid ⟨BlkAt.below HV.out.1 HB5.out, BlkAt.below HV.out.2.1 HB5.out, below_then HV.out.2.2 HB5.out⟩
            clear hb5
            go_wp2
            go_roundw
            case rel => exact ⟨q + 1, by omega, by go_num, HV5⟩
            case measure => simp [intOf]; omega
        · obtain rfl : q = n := by omega
          go_wp2
          go_ret
          exact ⟨rfl, HV.out.2.2⟩
end Go.Proofs.Ytnnfmlbgoplnaaa
