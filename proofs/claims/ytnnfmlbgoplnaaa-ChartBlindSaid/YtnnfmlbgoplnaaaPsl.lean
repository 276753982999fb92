/-
  slot of the program.
-/
import Derived.Test.YtnnfmlbgoplnaaaPlt
set_option linter.unusedVariables false
set_option linter.unusedSimpArgs false
namespace Go.Proofs.Ytnnfmlbgoplnaaa
open Go Go.RowKit

/-- a slot that is answered, and whether it is one -/
def GivesSl2 (w : World) (r : Sl × Int) (e : Ending) (w' : World) : Prop := ∃ U V, e = .returned (.tuple #[.agg #[.int .i64 r.1.slab, U, .int .u64 r.1.turn, V], .bool (decide (r.2 = 0))]) ∧ OwnI w.heap.size w' U r.1.list ∧ OwnI w.heap.size w' V r.1.parts ∧ Below w.heap.size w w'
theorem gives2_zsl {w w' : World} (hb : Below w.heap.size w w') : GivesSl2 w (zSl, 150) (.returned (.tuple #[.agg zSlC, .bool false])) w' := ⟨_, _, rfl, OwnI.nil _ _, OwnI.nil _ _, hb⟩
theorem res_slotP {tmps : Array Value} {K : Nat} {w : World} {a b c d : Value} {e : Bool} (h6 : tmps.getD 4 undef = .pointer (some ⟨K, 0, none⟩)) (h7 : tmps.getD 5 undef = .bool e) (hb : BlkAt 59 w K #[a, b, c, d]) :
    (results Try.f48 tmps).run Try.prog w = .ok (.tuple #[.agg #[a, b, c, d], .bool e]) w := by
  have c0 := hb.cell (j := 0) rfl
  have c1 := hb.cell (j := 1) rfl
  have c2 := hb.cell (j := 2) rfl
  have c3 := hb.cell (j := 3) rfl
  rw [Array.getD_eq_getD_getElem?] at h6 h7
  simp [results, Try.f48, h6, h7, c0, c1, c2, c3, go_sem]
/-- the view and the result, in a world above another one -/
structure Pw (W : World) (u : Value) (c : Ch) (w : World) : Prop where
  at1 : VwAt w W.heap.size u c
  at2 : BlkAt 59 w (W.heap.size + 1) zSlC
  low : Below W.heap.size W w
  sz : W.heap.size + 2 ≤ w.heap.size
section
variable {W w w' : World} {u : Value} {c : Ch}
theorem Pw.next (h : Pw W u c w) (hb : Below w.heap.size w w') : Pw W u c w' := ⟨BlkAt.below h.at1 hb, BlkAt.below h.at2 hb, below_then h.low hb, Nat.le_trans h.sz hb.size⟩
theorem Pw.drew (h : Pw W u c w) : Pw W u c w.drew := ⟨h.at1, h.at2, ⟨h.low.os, h.low.tape, h.low.output, h.low.size, h.low.block⟩, h.sz⟩
theorem Pw.vw (h : Pw W u c w) : Vw W W.heap.size u c w := ⟨h.at1, h.low⟩
theorem pw_new (W : World) (u : Value) (c : Ch) : Pw W u c ((W.alloc (vwO u c)).alloc sl0) := ⟨heap_low2 _ _ _, heap_new2 _ _ _, below_one (below_one (Below.refl _ _) _) _, by rw [size_alloc, size_alloc]; omega⟩
theorem Pw.nine (h : Pw W u c w) {p : Addr} {x : Value} (d : w.cell? p = some x) : w.cell? ⟨W.heap.size, 0, none⟩ = some u ∧ w.cell? ⟨W.heap.size, 1, none⟩ = some (.int .i64 c.cpus) ∧ w.cell? ⟨W.heap.size, 2, none⟩ = some (.int .i64 c.slabs) ∧ w.cell? ⟨W.heap.size, 3, none⟩ = some (.int .i64 c.objs) ∧
    w.cell? ⟨W.heap.size, 4, none⟩ = some (.int .i64 c.min) ∧ w.cell? ⟨W.heap.size, 5, none⟩ = some (.int .i64 c.cap) ∧ w.cell? ⟨W.heap.size, 6, none⟩ = some (.int .u64 c.key) ∧ w.cell? p = some x ∧ Pw W u c w :=
  ⟨h.vw.eight.1, h.vw.eight.2.1, h.vw.eight.2.2.1, h.vw.eight.2.2.2.1, h.vw.eight.2.2.2.2.1, h.vw.eight.2.2.2.2.2.1, h.vw.eight.2.2.2.2.2.2.1, d, h⟩
end
theorem cpu_part {c : Ch} (ho : c.ok) {i : Int} (h0 : 0 ≤ i) (h1 : i < c.cpus) : c.part i = 4 * i + 2 := by
  unfold Ch.part
  rw [show inB i c.cpus = true by simp [inB]; omega, Ch.at_yes ho]
set_option maxHeartbeats 8000000 in
set_option maxRecDepth 100000 in
theorem pSlot (u : Value) (l : List Int) (c : Ch) (hw : c.wf) (ho : c.ok) (hl : (l.length : Int) = c.n) (hy : Wordy l) (i : Int) (h0 : 0 ≤ i) (h1 : i < c.cpus) (w : World) (hu : ShowU w u l) :
    Calls Try.prog 48 #[.agg (c.vw u), .int .i64 i] w (GivesSl2 w (slR l c i)) := by
  have HU := Lib.hid hu
  obtain ⟨ao, cap, rfl, ⟨hc1, hc2⟩, hat⟩ := hu.form
  obtain ⟨P, hP, hPn, hhd⟩ := cpu_at ho h0 h1
  have hPl : P + 3 < l.length := by omega
  obtain ⟨b0, q0, rfl, g0⟩ := hat P (by omega)
  obtain ⟨b1, q1, e1, g1⟩ := hat (P + 1) (by omega)
  obtain ⟨rfl, rfl⟩ : b0 = b1 ∧ q0 = q1 := by cases e1; exact ⟨rfl, rfl⟩
  obtain ⟨b2, q2, e2, g2⟩ := hat (P + 2) (by omega)
  obtain ⟨rfl, rfl⟩ : b0 = b2 ∧ q0 = q2 := by cases e2; exact ⟨rfl, rfl⟩
  have hH := fun w => pHead c hw i w
  rw [hhd] at hH
  have HH := Lib.hid hH
  obtain ⟨P2, hP2⟩ : ∃ P2 : Nat, P + 2 = P2 := ⟨_, rfl⟩
  have hQ := fun w => pPart c hw i w
  rw [cpu_part ho h0 h1, show 4 * i + 2 = (P2 : Int) by omega] at hQ
  have HQ := Lib.hid hQ
  rw [slR_mk hP]
  have hob := hdF_at (l := l) (c := c) hP
  have hh : hdF l c i = objF l c (hS (pk l P)) (hO (pk l P)) := hob
  rw [hh]
  rw [hP2] at g2 ⊢
  have HPa : Hid (∀ w', Below w.heap.size w w' → Calls Try.prog 59 #[.agg (c.vw (.slice (some ⟨b0, q0, none⟩) l.length cap)), .int .u64 (pk l P2), fnV 60] w' (Gives2 w' (prW l c [] (pk l P2)))) := Lib.hid (fun w' h => pParts _ l c hw ho hl hy _ (hy _) w' (hu.below h))
  have HOb : Hid (∀ w', Below w.heap.size w w' → Calls Try.prog 58 #[.agg (c.vw (.slice (some ⟨b0, q0, none⟩) l.length cap)), .int .i64 (hS (pk l P)), .int .i64 (hO (pk l P))] w' (Gives2 w' (objF l c (hS (pk l P)) (hO (pk l P))))) := Lib.hid (fun w' h => pObjs _ l c hw ho hl _ _ (hS_low (hy P)) w' (hu.below h))
  have HS := Lib.hid (cOfH (pk l P) (hy P))
  have HSw := Lib.hid (pw_new w (.slice (some ⟨b0, q0, none⟩) l.length cap) c)
  generalize objF l c (hS (pk l P)) (hO (pk l P)) = H at *
  generalize hS (pk l P) = s at *
  generalize hO (pk l P) = a at *
  generalize prW l c [] (pk l P2) = PR at *
  generalize decide (isH (pk l P)) = b at *
  obtain ⟨R, hR⟩ : ∃ R, mkSl b s (pk l (P + 1)) H PR = R := ⟨_, rfl⟩
  rw [hR]
  have HR := Lib.hid hR
  have HG := Lib.hid (And.intro g0 (And.intro g1 g2))
  have hPc : (P : Int) < (l.length : Int) := by omega
  have hPc1 : (P : Int) + 1 < (l.length : Int) := by omega
  have hPc2 : (P2 : Int) < (l.length : Int) := by omega
  have hP1 : IntKind.i64.wrap ((P : Int) + 1) = (P : Int) + 1 := IntWalk.i64_in _ (by omega)
  have hP1b : wrap64 ((P : Int) + 1) = (P : Int) + 1 := by rw [← w64, hP1]
  have hP4 : ((P : Int) + 1).toNat = P + 1 := by omega
  have hP5 : (0 : Int) ≤ (P : Int) + 1 := by omega
  clear hob hh hR hat e1 e2 hhd hP hPn hH hQ g0 g1 g2 hw ho hl hy h0 h1 hu hP2 hPl
  generalize pk l P = x0 at *
  generalize pk l (P + 1) = x1 at *
  generalize pk l P2 = x2 at *
  go_enter Try.func48, Try.ntmps48
  go_wp2_with fail
  refine (HH.out _).mono ?_
  rintro e w1 ⟨rfl, hb1⟩
  have HS1 := Lib.hid (HSw.out.next hb1)
  clear hb1 HSw HH
  obtain ⟨f0, f1, f2, f3, f4, f5, f6, d0, _⟩ := HS1.out.nine (cell_keep HS1.out.low HG.out.1)
  go_wp2_with fail
  refine (HS.out _).mono ?_
  rintro e w2 ⟨rfl, hb2⟩
  have HS2 := Lib.hid (HS1.out.next hb2)
  clear hb2 HS HS1 d0 f0 f1 f2 f3 f4 f5 f6
  obtain ⟨f0, f1, f2, f3, f4, f5, f6, d0, _⟩ := HS2.out.nine (cell_keep HS2.out.low HG.out.1)
  have HM := Lib.hid (HOb.out w2 HS2.out.low)
  go_wp2_with fail
  refine HM.out.mono ?_
  rintro e w3 ⟨ao3, cp3, rfl, ho3, hb3⟩
  have HS3 := Lib.hid (HS2.out.next hb3)
  have HO3 := Lib.hid (OwnI.le ho3 HS2.out.low.size)
  clear ho3 hb3 HM HOb HS2 d0 f0 f1 f2 f3 f4 f5 f6
  have hTk := HS3.out.drew
  have d2 := cell_keep HS3.out.low HG.out.2.2
  go_wp2
  go_region_held3 (fun w' => w'.cell? ⟨w.heap.size, 0, none⟩ = some (.slice (some ⟨b0, q0, none⟩) l.length cap) ∧ w'.cell? ⟨w.heap.size, 1, none⟩ = some (.int .i64 c.cpus) ∧ w'.cell? ⟨w.heap.size, 2, none⟩ = some (.int .i64 c.slabs) ∧ w'.cell? ⟨w.heap.size, 3, none⟩ = some (.int .i64 c.objs) ∧ w'.cell? ⟨w.heap.size, 4, none⟩ = some (.int .i64 c.min) ∧ w'.cell? ⟨w.heap.size, 5, none⟩ = some (.int .i64 c.cap) ∧ w'.cell? ⟨w.heap.size, 6, none⟩ = some (.int .u64 c.key) ∧ w'.cell? ⟨b0, q0 + P2, none⟩ = some (.int .u64 x2) ∧ Pw w (.slice (some ⟨b0, q0, none⟩) l.length cap) c w')
    (first | exact hTk.nine d2 | exact hT4.nine (cell_keep hT4.low HG.out.2.2) | exact hT5.nine (cell_keep hT5.low HG.out.2.2))
    (first
      | (go_at_call 11; refine (HQ.out _).mono ?_; rintro e w4 ⟨rfl, hb4⟩; have hT4 := Pw.next hTk hb4; have HO4 := Lib.hid (show OwnI w.heap.size w4 (.slice ao3 H.1.length cp3) H.1 from OwnI.below (w := w3.drew) HO3.out hb4); clear hb4)
      | (go_at_call 59; refine (HPa.out _ hT4.low).mono ?_; rintro e w5 ⟨ao5, cp5, rfl, ho5, hb5⟩; have hT5 := Pw.next hT4 hb5; have HV5 := Lib.hid (And.intro (OwnI.le ho5 hT4.low.size) (OwnI.below HO4.out hb5)); clear ho5 hb5))
  all_goals
    have HS5 := Lib.hid hT5
    clear hTk d2 hT4 hT5 HO4 HQ HPa HS3 HO3
    obtain ⟨f0, f1, f2, f3, f4, f5, f6, d1, _⟩ := HS5.out.nine (cell_keep HS5.out.low HG.out.2.1)
    obtain ⟨h, hh⟩ : ∃ h, decide (H.2 = 0) = h := ⟨_, rfl⟩
    obtain ⟨p, hp⟩ : ∃ p, decide (PR.2 = 0) = p := ⟨_, rfl⟩
    rw [hh, hp]
    have HHH := Lib.hid hh
    have HPP := Lib.hid hp
    clear hh hp
    have HBAD : Hid (b = false ∨ h = false ∨ p = false → R = (zSl, 150)) := Lib.hid (by
      rw [← HR.out]
      rintro (e | e | e)
      · subst e; exact mk_b
      · subst e; exact mk_h (of_decide_eq_false HHH.out)
      · subst e; exact mk_p (of_decide_eq_false HPP.out))
    have HGOOD : Hid (b = true → h = true → p = true → R = (⟨s, H.1, x1, PR.1⟩, 0)) := Lib.hid (by
      rw [← HR.out]
      intro e1 e2 e3
      subst e1 e2 e3
      exact mk_ok (of_decide_eq_true HHH.out) (of_decide_eq_true HPP.out))
    clear HR HHH HPP
    cases b with
    | false =>
      obtain rfl := HBAD.out (.inl rfl)
      clear HBAD HGOOD
      go_wp2_with (refine wpList_storeR rtSlot (by rfl) _ _ (by rfl) (w.heap.size + 1) zSlC (by rfl) (by rfl) (by rfl) (by simp [Value.oneCell']) _ HS5.out.at2 rfl ?_; intro w6 h6 k6)
      exact bodyPost_ret (res_slotP rfl rfl h6) rfl (gives2_zsl (below_kept HS5.out.low k6 (by rintro k rfl; omega)))
    | true =>
      cases h with
      | false =>
        obtain rfl := HBAD.out (.inr (.inl rfl))
        clear HBAD HGOOD
        go_wp2_with (refine wpList_storeR rtSlot (by rfl) _ _ (by rfl) (w.heap.size + 1) zSlC (by rfl) (by rfl) (by rfl) (by simp [Value.oneCell']) _ HS5.out.at2 rfl ?_; intro w6 h6 k6)
        exact bodyPost_ret (res_slotP rfl rfl h6) rfl (gives2_zsl (below_kept HS5.out.low k6 (by rintro k rfl; omega)))
      | true =>
        cases p with
        | false =>
          obtain rfl := HBAD.out (.inr (.inr rfl))
          clear HBAD HGOOD
          go_wp2_with (refine wpList_storeR rtSlot (by rfl) _ _ (by rfl) (w.heap.size + 1) zSlC (by rfl) (by rfl) (by rfl) (by simp [Value.oneCell']) _ HS5.out.at2 rfl ?_; intro w6 h6 k6)
          exact bodyPost_ret (res_slotP rfl rfl h6) rfl (gives2_zsl (below_kept HS5.out.low k6 (by rintro k rfl; omega)))
        | true =>
          obtain rfl := HGOOD.out rfl rfl rfl
          clear HBAD HGOOD
          go_wp2_with (refine wpList_storeR rtSlot (by rfl) _ _ (by rfl) (w.heap.size + 1) #[.int .i64 s, .slice ao3 H.1.length cp3, .int .u64 x1, .slice ao5 PR.1.length cp5] (by rfl) (by rfl) (by rfl) (by simp [Value.oneCell']) _ HS5.out.at2 rfl ?_; intro w6 h6 k6)
          exact bodyPost_ret (res_slotP rfl rfl h6) rfl ⟨_, _, rfl, own_kept HV5.out.2 k6 HS5.out.at2 intSlot, own_kept HV5.out.1 k6 HS5.out.at2 intSlot, below_kept HS5.out.low k6 (by rintro k rfl; omega)⟩
end Go.Proofs.Ytnnfmlbgoplnaaa
