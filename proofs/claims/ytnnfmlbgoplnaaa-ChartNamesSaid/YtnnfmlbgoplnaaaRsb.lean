/-
  slab of the document.
-/
import Derived.Test.YtnnfmlbgoplnaaaRsl
set_option linter.unusedVariables false
set_option linter.unusedSimpArgs false
namespace Go.Proofs.Ytnnfmlbgoplnaaa
open Go Go.RowKit

abbrev zSbC : Array Value := #[.int .i64 0, .int .i64 0, .bool false, .bool false, .slice none 0 0]
abbrev sb0 : Obj := .cells #[.int .i64 0, .int .i64 0, .bool false, .bool false, .slice none 0 0] 63
abbrev ctC (t : Ct) : Array Value := #[.int .i64 t.i, .int .i64 t.n, .bool t.f, .bool t.l]
abbrev cz0 : Obj := .cells #[.int .i64 0, .int .i64 0, .bool false, .bool false] 61
def sbR (l : List Int) (c : Ch) (s : Int) : Sb × Int := if slabE l c s = true then (slabV l c s, 0) else (zSb, 150)
/-- a slab's own, answered -/
def GivesSb (w : World) (r : Sb × Int) (e : Ending) (w' : World) : Prop := ∃ U, e = .returned (.tuple #[.agg #[.int .i64 r.1.ct.i, .int .i64 r.1.ct.n, .bool r.1.ct.f, .bool r.1.ct.l, U], .int .i64 r.2]) ∧ OwnI w.heap.size w' U r.1.first ∧ Below w.heap.size w w'
theorem gives_zsb {w w' : World} (hb : Below w.heap.size w w') (x : Int) : GivesSb w (zSb, x) (.returned (.tuple #[.agg zSbC, .int .i64 x])) w' := ⟨_, rfl, OwnI.nil _ _, hb⟩
theorem res_slab {tmps : Array Value} {K : Nat} {w : World} {a b c d f : Value} {e : Int} (h6 : tmps.getD 6 undef = .pointer (some ⟨K, 0, none⟩)) (h7 : tmps.getD 7 undef = .int .i64 e) (hb : BlkAt 63 w K #[a, b, c, d, f]) :
    (results Try.f54 tmps).run Try.prog w = .ok (.tuple #[.agg #[a, b, c, d, f], .int .i64 e]) w := by
  have c0 := hb.cell (j := 0) rfl
  have c1 := hb.cell (j := 1) rfl
  have c2 := hb.cell (j := 2) rfl
  have c3 := hb.cell (j := 3) rfl
  have c4 := hb.cell (j := 4) rfl
  rw [Array.getD_eq_getD_getElem?] at h6 h7
  simp [results, Try.f54, h6, h7, c0, c1, c2, c3, c4, go_sem]
/-- a slab made up -/
def mkSb (b : Bool) (t : Ct) (L : List Int × Int) : Sb × Int := if b = true ∧ L.2 = 0 then (⟨t, L.1⟩, 0) else (zSb, 150)
theorem mb_ok {t : Ct} {L : List Int × Int} (h : L.2 = 0) : mkSb true t L = (⟨t, L.1⟩, 0) := if_pos ⟨rfl, h⟩
theorem mb_b {t : Ct} {L : List Int × Int} : mkSb false t L = (zSb, 150) := if_neg (fun e => by cases e.1)
theorem mb_l {b : Bool} {t : Ct} {L : List Int × Int} (h : L.2 ≠ 0) : mkSb b t L = (zSb, 150) := if_neg (fun e => h e.2)
theorem sbR_mk {l : List Int} {c : Ch} {s : Int} {P : Nat} (hP : c.s0 + 4 * s = P) : sbR l c s = mkSb (decide (isC (pk l (P + 1))) && decide (pk l P ≤ c.objs)) (cntV (pk l (P + 1))) (listF l c s (pk l P - 1)) := by
  unfold sbR slabE slabV mkSb
  rw [hP, show (P : Int) + 1 = ((P + 1 : Nat) : Int) by omega]
  simp only [Int.toNat_natCast, decide_eq_true_eq, Bool.and_eq_true, and_assoc]
/-- the chart and the result, in a world above another one -/
structure Bw (W : World) (c : Ch) (w : World) : Prop where
  at1 : ChAt w W.heap.size c
  at2 : BlkAt 63 w (W.heap.size + 1) zSbC
  low : Below W.heap.size W w
  sz : W.heap.size + 2 ≤ w.heap.size
theorem Bw.next {W w w' : World} {c : Ch} (h : Bw W c w) (hb : Below w.heap.size w w') : Bw W c w' := ⟨h.at1.below hb, h.at2.below hb, below_then h.low hb, Nat.le_trans h.sz hb.size⟩
theorem Bw.kept {W w w' : World} {c : Ch} {g : Nat} (h : Bw W c w) (hk : Kept (· = g) w w') (hg : W.heap.size + 2 ≤ g) : Bw W c w' :=
  ⟨BlkAt.kept h.at1 hk (by omega), BlkAt.kept h.at2 hk (by omega), below_kept h.low hk (by rintro k rfl; omega), Nat.le_trans h.sz hk.size⟩
theorem Bw.drewN {W w : World} {c : Ch} (h : Bw W c w) (n : Nat) : Bw W c (w.drewN n) := ⟨h.at1, h.at2, below_drewN h.low n, h.sz⟩
theorem Bw.drew {W w : World} {c : Ch} (h : Bw W c w) : Bw W c w.drew := ⟨h.at1, h.at2, ⟨h.low.os, h.low.tape, h.low.output, h.low.size, h.low.block⟩, h.sz⟩
theorem Bw.one {W w : World} {c : Ch} (h : Bw W c w) : One W W.heap.size c w := ⟨h.at1, h.low⟩
theorem bw_new (W : World) (c : Ch) : Bw W c ((W.alloc (chO c)).alloc sb0) := ⟨heap_low2 _ _ _, heap_new2 _ _ _, below_one (below_one (Below.refl _ _) _) _, by rw [size_alloc, size_alloc]; omega⟩
theorem Bw.eight {W w : World} {c : Ch} (h : Bw W c w) {p : Addr} {u : Value} (d : w.cell? p = some u) : w.cell? ⟨W.heap.size, 0, none⟩ = some (.int .i64 c.cpus) ∧ w.cell? ⟨W.heap.size, 1, none⟩ = some (.int .i64 c.slabs) ∧ w.cell? ⟨W.heap.size, 2, none⟩ = some (.int .i64 c.objs) ∧
    w.cell? ⟨W.heap.size, 3, none⟩ = some (.int .i64 c.min) ∧ w.cell? ⟨W.heap.size, 4, none⟩ = some (.int .i64 c.cap) ∧ w.cell? ⟨W.heap.size, 5, none⟩ = some (.int .u64 c.key) ∧ w.cell? p = some u ∧ Bw W c w :=
  ⟨h.at1.cells.1, h.at1.cells.2.1, h.at1.cells.2.2.1, h.at1.cells.2.2.2.1, h.at1.cells.2.2.2.2.1, h.at1.cells.2.2.2.2.2, d, h⟩
theorem first_at {c : Ch} (ho : c.ok) {s : Int} (h0 : 0 ≤ s) (h1 : s < c.slabs) : ∃ P : Nat, c.s0 + 4 * s = P ∧ (P : Int) + 3 < c.n ∧ c.first s = P := by
  have hf := first_in ho h0 h1
  have hp := Ch.prod ho
  obtain ⟨⟨o1, o2⟩, ⟨o3, o4⟩, ⟨o5, o6⟩, _⟩ := ho
  refine ⟨(c.s0 + 4 * s).toNat, by unfold Ch.s0; omega, by unfold Ch.s0 Ch.n; omega, ?_⟩
  rw [hf]
  unfold Ch.s0
  omega
set_option maxHeartbeats 8000000 in
set_option maxRecDepth 100000 in
theorem rSlab (u : Value) (l : List Int) (c : Ch) (hw : c.wf) (ho : c.ok) (hl : (l.length : Int) = c.n) (hy : Wordy l) (s : Int) (h0 : 0 ≤ s) (h1 : s < c.slabs) (w : World) (hu : ShowU w u l) :
    Calls Try.prog 54 #[u, c.agg, .int .i64 s] w (GivesSb w (sbR l c s)) := by
  have HU := Lib.hid hu
  obtain ⟨ao, cap, rfl, ⟨hc1, hc2⟩, hat⟩ := hu.form
  obtain ⟨P, hP, hPn, hhd⟩ := first_at ho h0 h1
  have hPl : P + 3 < l.length := by omega
  obtain ⟨b0, q0, rfl, g0⟩ := hat P (by omega)
  obtain ⟨b1, q1, e1, g1⟩ := hat (P + 1) (by omega)
  obtain ⟨rfl, rfl⟩ : b0 = b1 ∧ q0 = q1 := by cases e1; exact ⟨rfl, rfl⟩
  have hH := fun w => dFirst c hw s w
  rw [hhd] at hH
  have HH := Lib.hid hH
  rw [sbR_mk hP]
  have hle : (listF l c s (pk l P - 1)).2 = 0 ∨ listF l c s (pk l P - 1) = ([], 150) := listF_err _ _ _ _
  have hlf : ∀ w', ShowU w' (.slice (some ⟨b0, q0, none⟩) l.length cap) l → Calls Try.prog 65 #[.slice (some ⟨b0, q0, none⟩) l.length cap, c.agg, .int .i64 s, .int .i64 (pk l P - 1)] w' (Gives w' (listF l c s (pk l P - 1))) := fun w' h => rListF _ l c hw ho hl s _ w' h
  have HCt := Lib.hid (rCounts (pk l (P + 1)) (hy (P + 1)))
  have hx := hy P
  have HSw := Lib.hid (bw_new w c)
  generalize listF l c s (pk l P - 1) = L at *
  generalize cntV (pk l (P + 1)) = t at *
  generalize decide (isC (pk l (P + 1))) = b at *
  have HLF := Lib.hid hlf
  have HLE := Lib.hid hle
  obtain ⟨R, hR⟩ : ∃ R, mkSb (b && decide (pk l P ≤ c.objs)) t L = R := ⟨_, rfl⟩
  rw [hR]
  have HR := Lib.hid hR
  have HG := Lib.hid (And.intro g0 g1)
  have hPc : (P : Int) < (l.length : Int) := by omega
  have hPc1 : (P : Int) + 1 < (l.length : Int) := by omega
  have hP0 : (0 : Int) ≤ (P : Int) := by omega
  have hP1 : IntKind.i64.wrap ((P : Int) + 1) = (P : Int) + 1 := IntWalk.i64_in _ (by omega)
  obtain ⟨_, _, ⟨o5, o6⟩, _⟩ := ho
  have hwo : IntKind.u64.wrap c.objs = c.objs := by rw [IntKind.wrap_u64]; omega
  clear hlf hle hR hat e1 hhd hP hPn hH g0 g1 hw hl hy h0 h1 hu
  generalize pk l P = x0 at *
  generalize pk l (P + 1) = x1 at *
  obtain ⟨hx0, hx1⟩ := hx
  go_enter Try.func54, Try.ntmps54
  go_wp2_with fail
  refine (HH.out _).mono ?_
  rintro e w1 ⟨rfl, hb1⟩
  have HS1 := Lib.hid (HSw.out.next hb1)
  clear hb1 HSw HH
  have d1 := cell_keep HS1.out.low HG.out.2
  go_wp2_with fail
  refine (HCt.out _).mono ?_
  rintro e w2 ⟨rfl, hb2⟩
  have HS2 := Lib.hid (HS1.out.next hb2)
  clear HCt hb2 HS1 d1
  go_wp2_with (refine wpList_storeR rtCts (by rfl) _ _ (by rfl) w2.heap.size (ctC t) (by rfl) (by rfl) (by rfl) (by simp [Value.oneCell']) _ (heap_new w2 cz0) rfl ?_; intro w3 h3 k3; refine Stop.mk ?_)
  unfold Stop
  have HS3 := Lib.hid ((HS2.out.next (below_one (Below.refl _ _) cz0)).kept k3 HS2.out.sz)
  have HB3 := Lib.hid h3
  have HJ := Lib.hid HS2.out.sz
  clear h3 k3 HS2
  generalize w2.heap.size = J at *
  obtain ⟨f0, f1, f2, f3, f4, f5, _⟩ := HS3.out.one.six
  have d0 := cell_keep HS3.out.low HG.out.1
  cases b with
  | false =>
    rw [Bool.false_and] at HR
    go_wp2
    go_quiet (fail)
    have HS4 := Lib.hid (HS3.out.drewN nq)
    obtain ⟨w4, hw4⟩ : ∃ w4, w3.drewN nq = w4 := ⟨_, rfl⟩
    rw [hw4] at HS4 ⊢
    clear hw4 f0 f1 f2 f3 f4 f5 d0
    obtain rfl : R = (zSb, 150) := by rw [← HR.out]; exact mb_b
    clear HR
    go_wp2_with (refine wpList_storeR rtSlab (by rfl) _ _ (by rfl) (w.heap.size + 1) zSbC (by rfl) (by rfl) (by rfl) (by simp [Value.oneCell']) _ HS4.out.at2 rfl ?_; intro w5 h5 k5)
    exact bodyPost_ret (res_slab rfl rfl h5) rfl (gives_zsb (below_kept HS4.out.low k5 (by rintro k rfl; omega)) _)
  | true =>
    rw [Bool.true_and] at HR
    by_cases hxo : x0 ≤ c.objs
    · rw [decide_eq_true hxo] at HR
      have hgt : decide (c.objs < x0) = false := decide_eq_false (by omega)
      have hwx : IntKind.i64.wrap x0 = x0 := IntWalk.i64_in _ (by omega)
      have hwx2 : IntKind.i64.wrap (x0 - 1) = x0 - 1 := IntWalk.i64_in _ (by omega)
      go_wp2
      go_quiet (fail)
      have HS4 := Lib.hid (HS3.out.drewN nq)
      have HB4 : Hid (BlkAt 61 (w3.drewN nq) J (ctC t)) := HB3
      obtain ⟨w4, hw4⟩ : ∃ w4, w3.drewN nq = w4 := ⟨_, rfl⟩
      rw [hw4] at HS4 HB4 ⊢
      clear hw4 f0 f1 f2 f3 f4 f5 d0 HS3 HB3 hgt
      have hTk := HS4.out.drew
      have d2 := cell_keep HS4.out.low HG.out.1
      have HM := Lib.hid (HLF.out w4.drew (show ShowU w4.drew _ l from HU.out.below HS4.out.drew.low))
      go_wp2
      go_region_held3 (fun w' => w'.cell? ⟨w.heap.size, 0, none⟩ = some (.int .i64 c.cpus) ∧ w'.cell? ⟨w.heap.size, 1, none⟩ = some (.int .i64 c.slabs) ∧ w'.cell? ⟨w.heap.size, 2, none⟩ = some (.int .i64 c.objs) ∧ w'.cell? ⟨w.heap.size, 3, none⟩ = some (.int .i64 c.min) ∧ w'.cell? ⟨w.heap.size, 4, none⟩ = some (.int .i64 c.cap) ∧ w'.cell? ⟨w.heap.size, 5, none⟩ = some (.int .u64 c.key) ∧ w'.cell? ⟨b0, q0 + P, none⟩ = some (.int .u64 x0) ∧ Bw w c w')
        (first | exact hTk.eight d2 | exact hT5.eight d5)
        (first
          | (go_at_call 65; refine HM.out.mono ?_; rintro e w5 ⟨ao5, cp5, rfl, ho5, hb5⟩; have hT5 := Bw.next hTk hb5; have d5 := cell_keep hT5.low HG.out.1; have HV5 := Lib.hid (And.intro (OwnI.le ho5 (show w.heap.size ≤ w4.drew.heap.size from HS4.out.low.size)) (show BlkAt 61 w5 J _ from BlkAt.below (w := w4.drew) HB4.out hb5)); clear ho5 hb5))
      all_goals
        have HS5 := Lib.hid hT5
        clear hTk d2 hT5 d5 HM
        rcases HLE.out with hpe | hpe
        · have HPE := Lib.hid hpe
          have hpe2 : (L.2 != 0) = false := by rw [hpe]; rfl
          obtain rfl : R = (⟨t, L.1⟩, 0) := by rw [← HR.out]; exact mb_ok hpe
          obtain ⟨hoU, hJB⟩ := HV5.out
          have HOU := Lib.hid hoU
          have c0 := hJB.cell (j := 0) (u := .int .i64 t.i) rfl
          have c1 := hJB.cell (j := 1) (u := .int .i64 t.n) rfl
          have c2 := hJB.cell (j := 2) (u := .bool t.f) rfl
          have c3 := hJB.cell (j := 3) (u := .bool t.l) rfl
          clear HR hpe hoU hJB HV5
          generalize L.2 = le at *
          obtain rfl := HPE.out
          go_wp2_with (refine wpList_storeR rtSlab (by rfl) _ _ (by rfl) (w.heap.size + 1) #[.int .i64 t.i, .int .i64 t.n, .bool t.f, .bool t.l, .slice ao5 L.1.length cp5] (by rfl) (by rfl) (by rfl) (by simp [Value.oneCell']) _ HS5.out.at2 rfl ?_; intro w6 h6 k6)
          exact bodyPost_ret (res_slab rfl rfl h6) rfl ⟨_, rfl, own_kept HOU.out k6 HS5.out.at2 intSlab, below_kept HS5.out.low k6 (by rintro k rfl; omega)⟩
        · subst hpe
          obtain rfl : R = (zSb, 150) := by rw [← HR.out]; exact mb_l (by decide)
          clear HR
          go_wp2_with (refine wpList_storeR rtSlab (by rfl) _ _ (by rfl) (w.heap.size + 1) zSbC (by rfl) (by rfl) (by rfl) (by simp [Value.oneCell']) _ HS5.out.at2 rfl ?_; intro w6 h6 k6)
          exact bodyPost_ret (res_slab rfl rfl h6) rfl (gives_zsb (below_kept HS5.out.low k6 (by rintro k rfl; omega)) _)
    · rw [decide_eq_false hxo] at HR
      have hgt : decide (c.objs < x0) = true := decide_eq_true (by omega)
      go_wp2
      go_quiet (fail)
      have HS4 := Lib.hid (HS3.out.drewN nq)
      obtain ⟨w4, hw4⟩ : ∃ w4, w3.drewN nq = w4 := ⟨_, rfl⟩
      rw [hw4] at HS4 ⊢
      clear hw4 f0 f1 f2 f3 f4 f5 d0
      obtain rfl : R = (zSb, 150) := by rw [← HR.out]; exact mb_b
      clear HR
      go_wp2_with (refine wpList_storeR rtSlab (by rfl) _ _ (by rfl) (w.heap.size + 1) zSbC (by rfl) (by rfl) (by rfl) (by simp [Value.oneCell']) _ HS4.out.at2 rfl ?_; intro w5 h5 k5)
      exact bodyPost_ret (res_slab rfl rfl h5) rfl (gives_zsb (below_kept HS4.out.low k5 (by rintro k rfl; omega)) _)
end Go.Proofs.Ytnnfmlbgoplnaaa
