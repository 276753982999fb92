/-
  slab of the program.
-/
import Derived.Test.YtnnfmlbgoplnaaaPsl
set_option linter.unusedVariables false
set_option linter.unusedSimpArgs false
namespace Go.Proofs.Ytnnfmlbgoplnaaa
open Go Go.RowKit

/-- a slab's own, answered, and whether it is one -/
def GivesSb2 (w : World) (r : Sb × Int) (e : Ending) (w' : World) : Prop := ∃ U, e = .returned (.tuple #[.agg #[.int .i64 r.1.ct.i, .int .i64 r.1.ct.n, .bool r.1.ct.f, .bool r.1.ct.l, U], .bool (decide (r.2 = 0))]) ∧ OwnI w.heap.size w' U r.1.first ∧ Below w.heap.size w w'
theorem gives2_zsb {w w' : World} (hb : Below w.heap.size w w') : GivesSb2 w (zSb, 150) (.returned (.tuple #[.agg zSbC, .bool false])) w' := ⟨_, rfl, OwnI.nil _ _, hb⟩
theorem res_slabP {tmps : Array Value} {K : Nat} {w : World} {a b c d f : Value} {e : Bool} (h6 : tmps.getD 4 undef = .pointer (some ⟨K, 0, none⟩)) (h7 : tmps.getD 5 undef = .bool e) (hb : BlkAt 63 w K #[a, b, c, d, f]) :
    (results Try.f51 tmps).run Try.prog w = .ok (.tuple #[.agg #[a, b, c, d, f], .bool e]) w := by
  have c0 := hb.cell (j := 0) rfl
  have c1 := hb.cell (j := 1) rfl
  have c2 := hb.cell (j := 2) rfl
  have c3 := hb.cell (j := 3) rfl
  have c4 := hb.cell (j := 4) rfl
  rw [Array.getD_eq_getD_getElem?] at h6 h7
  simp [results, Try.f51, h6, h7, c0, c1, c2, c3, c4, go_sem]
/-- the view and the result, in a world above another one -/
structure Qw (W : World) (u : Value) (c : Ch) (w : World) : Prop where
  at1 : VwAt w W.heap.size u c
  at2 : BlkAt 63 w (W.heap.size + 1) zSbC
  low : Below W.heap.size W w
  sz : W.heap.size + 2 ≤ w.heap.size
section
variable {W w w' : World} {u : Value} {c : Ch} {g : Nat}
theorem Qw.next (h : Qw W u c w) (hb : Below w.heap.size w w') : Qw W u c w' := ⟨BlkAt.below h.at1 hb, BlkAt.below h.at2 hb, below_then h.low hb, Nat.le_trans h.sz hb.size⟩
theorem Qw.kept (h : Qw W u c w) (hk : Kept (· = g) w w') (hg : W.heap.size + 2 ≤ g) : Qw W u c w' :=
  ⟨BlkAt.kept h.at1 hk (by omega), BlkAt.kept h.at2 hk (by omega), below_kept h.low hk (by rintro k rfl; omega), Nat.le_trans h.sz hk.size⟩
theorem Qw.drew (h : Qw W u c w) : Qw W u c w.drew := ⟨h.at1, h.at2, ⟨h.low.os, h.low.tape, h.low.output, h.low.size, h.low.block⟩, h.sz⟩
theorem Qw.vw (h : Qw W u c w) : Vw W W.heap.size u c w := ⟨h.at1, h.low⟩
theorem qw_new (W : World) (u : Value) (c : Ch) : Qw W u c ((W.alloc (vwO u c)).alloc sb0) := ⟨heap_low2 _ _ _, heap_new2 _ _ _, below_one (below_one (Below.refl _ _) _) _, by rw [size_alloc, size_alloc]; omega⟩
theorem Qw.nine (h : Qw W u c w) {p : Addr} {x : Value} (d : w.cell? p = some x) : w.cell? ⟨W.heap.size, 0, none⟩ = some u ∧ w.cell? ⟨W.heap.size, 1, none⟩ = some (.int .i64 c.cpus) ∧ w.cell? ⟨W.heap.size, 2, none⟩ = some (.int .i64 c.slabs) ∧ w.cell? ⟨W.heap.size, 3, none⟩ = some (.int .i64 c.objs) ∧
    w.cell? ⟨W.heap.size, 4, none⟩ = some (.int .i64 c.min) ∧ w.cell? ⟨W.heap.size, 5, none⟩ = some (.int .i64 c.cap) ∧ w.cell? ⟨W.heap.size, 6, none⟩ = some (.int .u64 c.key) ∧ w.cell? p = some x ∧ Qw W u c w :=
  ⟨h.vw.eight.1, h.vw.eight.2.1, h.vw.eight.2.2.1, h.vw.eight.2.2.2.1, h.vw.eight.2.2.2.2.1, h.vw.eight.2.2.2.2.2.1, h.vw.eight.2.2.2.2.2.2.1, d, h⟩
end
set_option maxHeartbeats 8000000 in
set_option maxRecDepth 100000 in
theorem pSlab (u : Value) (l : List Int) (c : Ch) (hw : c.wf) (ho : c.ok) (hl : (l.length : Int) = c.n) (hy : Wordy l) (s : Int) (h0 : 0 ≤ s) (h1 : s < c.slabs) (w : World) (hu : ShowU w u l) :
    Calls Try.prog 51 #[.agg (c.vw u), .int .i64 s] w (GivesSb2 w (sbR l c s)) := by
  obtain ⟨ao, cap, rfl, ⟨hc1, hc2⟩, hat⟩ := hu.form
  obtain ⟨P, hP, hPn, hhd⟩ := first_at ho h0 h1
  have hPl : P + 3 < l.length := by omega
  obtain ⟨b0, q0, rfl, g0⟩ := hat P (by omega)
  obtain ⟨b1, q1, e1, g1⟩ := hat (P + 1) (by omega)
  obtain ⟨rfl, rfl⟩ : b0 = b1 ∧ q0 = q1 := by cases e1; exact ⟨rfl, rfl⟩
  have hH := fun w => pFirst c hw s w
  rw [hhd] at hH
  have HH := Lib.hid hH
  rw [sbR_mk hP]
  have HCt := Lib.hid (fun w => cCounts (pk l (P + 1)) (hy (P + 1)) w)
  have HOn := Lib.hid (fun w => pOne (pk l P) c.objs (hy P) (by have := ho.2.2.1; omega) w)
  have HOb : Hid (∀ w', Below w.heap.size w w' → Calls Try.prog 58 #[.agg (c.vw (.slice (some ⟨b0, q0, none⟩) l.length cap)), .int .i64 s, .int .i64 (oneV (pk l P) c.objs).1] w' (Gives2 w' (objF l c s (oneV (pk l P) c.objs).1))) := Lib.hid (fun w' h => pObjs _ l c hw ho hl _ _ (by omega) w' (hu.below h))
  have HSw := Lib.hid (qw_new w (.slice (some ⟨b0, q0, none⟩) l.length cap) c)
  have hv : ∀ t, mkSb (decide (isC (pk l (P + 1))) && decide (pk l P ≤ c.objs)) t (listF l c s (pk l P - 1)) = mkSb (decide (isC (pk l (P + 1))) && (oneV (pk l P) c.objs).2) t (objF l c s (oneV (pk l P) c.objs).1) := by
    intro t
    unfold objF
    rw [if_neg (by omega)]
    by_cases h : c.objs < pk l P
    · rw [show oneV (pk l P) c.objs = (0, false) from if_pos h, show decide (pk l P ≤ c.objs) = false from decide_eq_false (by omega), Bool.and_false, mb_b, mb_b]
    · rw [show oneV (pk l P) c.objs = (pk l P - 1, true) from if_neg h, show decide (pk l P ≤ c.objs) = true from decide_eq_true (by omega)]
  rw [hv]
  generalize objF l c s (oneV (pk l P) c.objs).1 = L at *
  generalize cntV (pk l (P + 1)) = t at *
  generalize decide (isC (pk l (P + 1))) = b at *
  generalize (oneV (pk l P) c.objs).1 = a at *
  generalize (oneV (pk l P) c.objs).2 = q at *
  obtain ⟨R, hR⟩ : ∃ R, mkSb (b && q) t L = R := ⟨_, rfl⟩
  rw [hR]
  have HR := Lib.hid hR
  have HG := Lib.hid (And.intro g0 g1)
  have hPc : (P : Int) < (l.length : Int) := by omega
  have hPc1 : (P : Int) + 1 < (l.length : Int) := by omega
  have hP1 : IntKind.i64.wrap ((P : Int) + 1) = (P : Int) + 1 := IntWalk.i64_in _ (by omega)
  have hP1b : wrap64 ((P : Int) + 1) = (P : Int) + 1 := by rw [← w64, hP1]
  have hP4 : ((P : Int) + 1).toNat = P + 1 := by omega
  have hP5 : (0 : Int) ≤ (P : Int) + 1 := by omega
  clear hv hR hat e1 hhd hP hPn hH g0 g1 hw ho hl hy h0 h1 hu hPl
  generalize pk l P = x0 at *
  generalize pk l (P + 1) = x1 at *
  go_enter Try.func51, Try.ntmps51
  go_wp2_with fail
  refine (HH.out _).mono ?_
  rintro e w1 ⟨rfl, hb1⟩
  have HS1 := Lib.hid (HSw.out.next hb1)
  clear hb1 HSw HH
  obtain ⟨f0, f1, f2, f3, f4, f5, f6, d1, _⟩ := HS1.out.nine (cell_keep HS1.out.low HG.out.2)
  go_wp2_with fail
  refine (HCt.out _).mono ?_
  rintro e w2 ⟨rfl, hb2⟩
  have HS2 := Lib.hid (HS1.out.next hb2)
  clear HCt hb2 HS1 d1 f0 f1 f2 f3 f4 f5 f6
  go_wp2_with (refine wpList_storeR rtCts (by rfl) _ _ (by rfl) w2.heap.size (ctC t) (by rfl) (by rfl) (by rfl) (by simp [Value.oneCell']) _ (heap_new w2 cz0) rfl ?_; intro w3 h3 k3; refine Stop.mk ?_)
  unfold Stop
  have HS3 := Lib.hid ((HS2.out.next (below_one (Below.refl _ _) cz0)).kept k3 HS2.out.sz)
  have HB3 := Lib.hid h3
  have HJ := Lib.hid HS2.out.sz
  clear h3 k3 HS2
  generalize w2.heap.size = J at *
  have hTk := HS3.out.drew
  have d0 := cell_keep hTk.low HG.out.1
  go_wp2
  go_region_held3 (fun w' => w'.cell? ⟨w.heap.size, 0, none⟩ = some (.slice (some ⟨b0, q0, none⟩) l.length cap) ∧ w'.cell? ⟨w.heap.size, 1, none⟩ = some (.int .i64 c.cpus) ∧ w'.cell? ⟨w.heap.size, 2, none⟩ = some (.int .i64 c.slabs) ∧ w'.cell? ⟨w.heap.size, 3, none⟩ = some (.int .i64 c.objs) ∧ w'.cell? ⟨w.heap.size, 4, none⟩ = some (.int .i64 c.min) ∧ w'.cell? ⟨w.heap.size, 5, none⟩ = some (.int .i64 c.cap) ∧ w'.cell? ⟨w.heap.size, 6, none⟩ = some (.int .u64 c.key) ∧ w'.cell? ⟨b0, q0 + P, none⟩ = some (.int .u64 x0) ∧ Qw w (.slice (some ⟨b0, q0, none⟩) l.length cap) c w')
    (first | exact hTk.nine d0)
    (first
      | (go_at_call 62; refine (HOn.out _).mono ?_; rintro e _ ⟨rfl, rfl⟩))
  all_goals
    have HS4 := Lib.hid hTk
    have HB4 : Hid (BlkAt 61 w3.drew J (ctC t)) := HB3
    obtain ⟨w4, hw4⟩ : ∃ w4, w3.drew = w4 := ⟨_, rfl⟩
    rw [hw4] at HS4 HB4 ⊢
    clear hTk d0 HS3 HB3 HOn
    obtain ⟨f0, f1, f2, f3, f4, f5, f6, _⟩ := HS4.out.vw.eight
    have HM := Lib.hid (HOb.out w4 HS4.out.low)
    go_wp2_with fail
    refine HM.out.mono ?_
    rintro e w5 ⟨ao5, cp5, rfl, ho5, hb5⟩
    have HS5 := Lib.hid (HS4.out.next hb5)
    have HV5 := Lib.hid (And.intro (OwnI.le ho5 HS4.out.low.size) (BlkAt.below HB4.out hb5))
    clear ho5 hb5 HM HOb HS4 HB4 f0 f1 f2 f3 f4 f5 f6 hw4
    obtain ⟨h, hh⟩ : ∃ h, decide (L.2 = 0) = h := ⟨_, rfl⟩
    rw [hh]
    have HHH := Lib.hid hh
    clear hh
    have HBAD : Hid (b = false ∨ q = false ∨ h = false → R = (zSb, 150)) := Lib.hid (by
      rw [← HR.out]
      rintro (e | e | e)
      · subst e; rw [Bool.false_and]; exact mb_b
      · subst e; rw [Bool.and_false]; exact mb_b
      · subst e; exact mb_l (of_decide_eq_false HHH.out))
    have HGOOD : Hid (b = true → q = true → h = true → R = (⟨t, L.1⟩, 0)) := Lib.hid (by
      rw [← HR.out]
      intro e1 e2 e3
      subst e1 e2 e3
      exact mb_ok (of_decide_eq_true HHH.out))
    have hJB := HV5.out.2
    have c0 := hJB.cell (j := 0) (u := .int .i64 t.i) rfl
    have c1 := hJB.cell (j := 1) (u := .int .i64 t.n) rfl
    have c2 := hJB.cell (j := 2) (u := .bool t.f) rfl
    have c3 := hJB.cell (j := 3) (u := .bool t.l) rfl
    clear HR HHH hJB
    cases b with
    | false =>
      obtain rfl := HBAD.out (.inl rfl)
      clear HBAD HGOOD
      go_wp2_with (refine wpList_storeR rtSlab (by rfl) _ _ (by rfl) (w.heap.size + 1) zSbC (by rfl) (by rfl) (by rfl) (by simp [Value.oneCell']) _ HS5.out.at2 rfl ?_; intro w6 h6 k6)
      exact bodyPost_ret (res_slabP rfl rfl h6) rfl (gives2_zsb (below_kept HS5.out.low k6 (by rintro k rfl; omega)))
    | true =>
      cases q with
      | false =>
        obtain rfl := HBAD.out (.inr (.inl rfl))
        clear HBAD HGOOD
        go_wp2_with (refine wpList_storeR rtSlab (by rfl) _ _ (by rfl) (w.heap.size + 1) zSbC (by rfl) (by rfl) (by rfl) (by simp [Value.oneCell']) _ HS5.out.at2 rfl ?_; intro w6 h6 k6)
        exact bodyPost_ret (res_slabP rfl rfl h6) rfl (gives2_zsb (below_kept HS5.out.low k6 (by rintro k rfl; omega)))
      | true =>
        cases h with
        | false =>
          obtain rfl := HBAD.out (.inr (.inr rfl))
          clear HBAD HGOOD
          go_wp2_with (refine wpList_storeR rtSlab (by rfl) _ _ (by rfl) (w.heap.size + 1) zSbC (by rfl) (by rfl) (by rfl) (by simp [Value.oneCell']) _ HS5.out.at2 rfl ?_; intro w6 h6 k6)
          exact bodyPost_ret (res_slabP rfl rfl h6) rfl (gives2_zsb (below_kept HS5.out.low k6 (by rintro k rfl; omega)))
        | true =>
          obtain rfl := HGOOD.out rfl rfl rfl
          clear HBAD HGOOD
          go_wp2_with (refine wpList_storeR rtSlab (by rfl) _ _ (by rfl) (w.heap.size + 1) #[.int .i64 t.i, .int .i64 t.n, .bool t.f, .bool t.l, .slice ao5 L.1.length cp5] (by rfl) (by rfl) (by rfl) (by simp [Value.oneCell']) _ HS5.out.at2 rfl ?_; intro w6 h6 k6)
          exact bodyPost_ret (res_slabP rfl rfl h6) rfl ⟨_, rfl, own_kept HV5.out.1 k6 HS5.out.at2 intSlab, below_kept HS5.out.low k6 (by rintro k rfl; omega)⟩
end Go.Proofs.Ytnnfmlbgoplnaaa
