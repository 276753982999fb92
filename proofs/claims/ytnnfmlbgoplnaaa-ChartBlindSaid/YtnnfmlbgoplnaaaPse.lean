/-
  See of the program.
-/
import Derived.Test.YtnnfmlbgoplnaaaPea
import Derived.Test.YtnnfmlbgoplnaaaPsm
set_option linter.unusedVariables false
set_option linter.unusedSimpArgs false
namespace Go.Proofs.Ytnnfmlbgoplnaaa
open Go Go.RowKit

theorem res_coreP {tmps : Array Value} {K : Nat} {w : World} {a b c d : Value} {e : Int} (h4 : tmps.getD 4 undef = .pointer (some ⟨K, 0, none⟩)) (h5 : tmps.getD 5 undef = .int .i64 e) (hb : BlkAt 40 w K #[a, b, c, d]) :
    (results Try.f33 tmps).run Try.prog w = .ok (.tuple #[.agg #[a, b, c, d], .int .i64 e]) w := by
  have c0 := hb.cell (j := 0) rfl
  have c1 := hb.cell (j := 1) rfl
  have c2 := hb.cell (j := 2) rfl
  have c3 := hb.cell (j := 3) rfl
  rw [Array.getD_eq_getD_getElem?] at h4 h5
  simp [results, Try.f33, h4, h5, c0, c1, c2, c3, go_sem]
set_option maxHeartbeats 8000000 in
set_option maxRecDepth 100000 in
theorem pSeeBad (u : Value) (l : List Int) (c : Ch) (hw : c.wf) (h : ¬ (c.ok ∧ (l.length : Int) = c.n)) (w : World) (hu : ShowU w u l) :
    Calls Try.prog 33 #[u, c.agg] w (GivesCr w (see l c)) := by
  obtain ⟨ao, cap, rfl, ⟨hc1, hc2⟩, hat⟩ := hu.form
  have HS0 := Lib.hid (cw_new w c)
  obtain ⟨R, hR⟩ : ∃ R, see l c = R := ⟨_, rfl⟩
  rw [hR]
  have HR := Lib.hid hR
  have hC := fun w => pCheck c hw w
  have HN := Lib.hid h
  by_cases ho : c.ok
  · have hne : ¬ (l.length : Int) = c.n := fun e => h ⟨ho, e⟩
    have hW := fun w => pWords c hw w
    rw [show c.words = c.n from if_pos ho] at hW
    rw [Ch.chk_yes ho] at hC
    have HC := Lib.hid hC
    have HW := Lib.hid hW
    have hne2 : ((l.length : Int) != c.n) = true := by simpa using hne
    have hne3 : decide ((l.length : Int) = c.n) = false := decide_eq_false hne
    clear hC hW hR hat hu h ho hne hw
    go_enter Try.func33, Try.ntmps33
    go_wp2_with fail
    refine (HC.out _).mono ?_
    rintro e w1 ⟨rfl, hb1⟩
    have HS1 := Lib.hid (HS0.out.next hb1)
    clear hb1 HS0 HC
    obtain ⟨f0, f1, f2, f3, f4, f5, _⟩ := HS1.out.one.six
    go_wp2_with fail
    refine (HW.out _).mono ?_
    rintro e w2 ⟨rfl, hb2⟩
    have HS2 := Lib.hid (HS1.out.next hb2)
    clear hb2 HS1 HW f0 f1 f2 f3 f4 f5
    obtain rfl : R = (zCr, 2) := by rw [← HR.out]; exact see_no HN.out
    clear HR
    go_wp2_with (refine wpList_storeR rtCore (by rfl) _ _ (by rfl) (w.heap.size + 1) zCrC (by rfl) (by rfl) (by rfl) (by simp [Value.oneCell']) _ HS2.out.at2 rfl ?_; intro w3 h3 k3)
    exact bodyPost_ret (res_coreP rfl rfl h3) rfl (gives_zcr (below_kept HS2.out.low k3 (by rintro k rfl; omega)) _)
  · rw [Ch.chk_no ho] at hC
    have HC := Lib.hid hC
    clear hC hR hat hu h ho hw
    go_enter Try.func33, Try.ntmps33
    go_wp2_with fail
    refine (HC.out _).mono ?_
    rintro e w1 ⟨rfl, hb1⟩
    have HS1 := Lib.hid (HS0.out.next hb1)
    clear hb1 HS0 HC
    obtain rfl : R = (zCr, 2) := by rw [← HR.out]; exact see_no HN.out
    clear HR
    go_wp2_with (refine wpList_storeR rtCore (by rfl) _ _ (by rfl) (w.heap.size + 1) zCrC (by rfl) (by rfl) (by rfl) (by simp [Value.oneCell']) _ HS1.out.at2 rfl ?_; intro w3 h3 k3)
    exact bodyPost_ret (res_coreP rfl rfl h3) rfl (gives_zcr (below_kept HS1.out.low k3 (by rintro k rfl; omega)) _)
abbrev vz0 : Obj := .cells #[.slice none 0 0, .int .i64 0, .int .i64 0, .int .i64 0, .int .i64 0, .int .i64 0, .int .u64 0] 65
theorem OwnSb.le {B B' : Nat} {w : World} {v : Value} {M : List SbV} (h : OwnSb B w v M) (hB : B' ≤ B) : OwnSb B' w v M := by
  refine ⟨⟨h.1.1, ?_⟩, fun x hx => (h.2 x hx).le hB⟩
  rcases h.1.2 with e | ⟨r, cp, cur, e, hb, hr⟩
  · exact .inl e
  · exact .inr ⟨r, cp, cur, e, Nat.le_trans hB hb, hr⟩
/-- the chart, the result and the view, in a world above another one -/
structure Ew (W : World) (u : Value) (c : Ch) (J : Nat) (w : World) : Prop where
  cw : Cw W c w
  vw : VwAt w J u c
theorem Ew.next {W w w' : World} {u : Value} {c : Ch} {J : Nat} (h : Ew W u c J w) (hb : Below w.heap.size w w') : Ew W u c J w' := ⟨h.cw.next hb, BlkAt.below h.vw hb⟩
theorem Ew.eight {W w : World} {u : Value} {c : Ch} {J : Nat} (h : Ew W u c J w) : w.cell? ⟨J, 0, none⟩ = some u ∧ w.cell? ⟨J, 1, none⟩ = some (.int .i64 c.cpus) ∧ w.cell? ⟨J, 2, none⟩ = some (.int .i64 c.slabs) ∧ w.cell? ⟨J, 3, none⟩ = some (.int .i64 c.objs) ∧
    w.cell? ⟨J, 4, none⟩ = some (.int .i64 c.min) ∧ w.cell? ⟨J, 5, none⟩ = some (.int .i64 c.cap) ∧ w.cell? ⟨J, 6, none⟩ = some (.int .u64 c.key) :=
  ⟨h.vw.cell rfl, h.vw.cell rfl, h.vw.cell rfl, h.vw.cell rfl, h.vw.cell rfl, h.vw.cell rfl, h.vw.cell rfl⟩
set_option maxHeartbeats 16000000 in
set_option maxRecDepth 100000 in
theorem pSeeOk (u : Value) (l : List Int) (c : Ch) (hw : c.wf) (h : c.ok ∧ (l.length : Int) = c.n) (hy : Wordy l) (w : World) (hu : ShowU w u l) :
    Calls Try.prog 33 #[u, c.agg] w (GivesCr w (see l c)) := by
  have HU := Lib.hid hu
  obtain ⟨ao, cap, rfl, ⟨hc1, hc2⟩, hat⟩ := hu.form
  have HS0 := Lib.hid (cw_new w c)
  obtain ⟨R, hR⟩ : ∃ R, see l c = R := ⟨_, rfl⟩
  rw [hR]
  have hC := fun w => pCheck c hw w
  have hW := fun w => pWords c hw w
  rw [show c.words = c.n from if_pos h.1, ← h.2] at hW
  rw [Ch.chk_yes h.1] at hC
  have HC := Lib.hid hC
  have HW := Lib.hid hW
  obtain ⟨P, hP, hPn, hlk⟩ := lock_at h.1
  have hLk := fun w => pLock c hw w
  rw [hlk] at hLk
  have HL := Lib.hid hLk
  have hPl : (P : Int) < (l.length : Int) := by have := h.2; omega
  have hP0 : (0 : Int) ≤ (P : Int) := by omega
  obtain ⟨b0, q0, rfl, g0⟩ := hat P (by omega)
  have HG := Lib.hid g0
  have hlkv : decide (pk l (4 * c.cpus).toNat ≠ 0) = (pk l P != 0) := by rw [hP, Int.toNat_natCast]; by_cases e : pk l P = 0 <;> simp [e]
  have HSl := Lib.hid (fun w' (hb : Below w.heap.size w w') => pEachSl _ l c hw h.1 h.2 hy w' (hu.below hb))
  have HSb := Lib.hid (fun w' (hb : Below w.heap.size w w') => pEachSb _ l c hw h.1 h.2 hy w' (hu.below hb))
  have HSh := Lib.hid (fun w' (hb : Below w.heap.size w w') => pShelfM _ l c hw h.1 h.2 hy w' (hu.below hb))
  have HBAD : Hid (slotsB l c = false ∨ decide ((shelfF l c).2 = 0) = false ∨ slabsB l c = false → R = (zCr, 150)) := Lib.hid (by
    rw [← hR]
    unfold see seeF
    rw [if_pos h]
    intro e
    rw [if_neg]
    rintro ⟨h1, h2, h3⟩
    rcases e with e | e | e
    · rw [h1] at e; cases e
    · rw [h2] at e; exact absurd e (by decide)
    · rw [h3] at e; cases e)
  have HGOOD : Hid (slotsB l c = true → decide ((shelfF l c).2 = 0) = true → slabsB l c = true → R = (⟨slotsV l c, (shelfF l c).1, pk l P != 0, slabsV l c⟩, 0)) := Lib.hid (by
    rw [← hR]
    intro h1 h2 h3
    unfold see seeF
    rw [if_pos h, if_pos ⟨h1, of_decide_eq_true h2, h3⟩]
    unfold coreV
    rw [hlkv])
  unfold Gives2 at HSh
  generalize slotsB l c = B1 at *
  generalize slabsB l c = B3 at *
  generalize decide ((shelfF l c).2 = 0) = B2 at *
  generalize (shelfF l c).1 = S2 at *
  generalize slotsV l c = V1 at *
  generalize slabsV l c = V3 at *
  generalize pk l P = x0 at *
  obtain ⟨lk, hlk2⟩ : ∃ lk, (x0 != 0) = lk := ⟨_, rfl⟩
  rw [hlk2] at HGOOD
  clear hC hW hR hat hu h hw hy hLk hlkv g0 hP hPn hlk
  go_enter Try.func33, Try.ntmps33
  go_wp2_with fail
  refine (HC.out _).mono ?_
  rintro e w1 ⟨rfl, hb1⟩
  have HS1 := Lib.hid (HS0.out.next hb1)
  clear hb1 HS0 HC
  obtain ⟨f0, f1, f2, f3, f4, f5, _⟩ := HS1.out.one.six
  go_wp2_with fail
  refine (HW.out _).mono ?_
  rintro e w2 ⟨rfl, hb2⟩
  have HS2 := Lib.hid (HS1.out.next hb2)
  clear hb2 HS1 HW f0 f1 f2 f3 f4 f5
  obtain ⟨f0, f1, f2, f3, f4, f5, _⟩ := HS2.out.one.six
  go_wp2_with (refine wpList_storeR rtView (by rfl) _ _ (by rfl) w2.heap.size (c.vw (.slice (some ⟨b0, q0, none⟩) l.length cap)) (by rfl) (by rfl) (by rfl) (by simp [Value.oneCell']) _ (heap_new w2 vz0) rfl ?_; intro w3 h3 k3; refine Stop.mk ?_)
  unfold Stop
  have HE3 := Lib.hid (Ew.mk ((HS2.out.next (below_one (Below.refl _ _) vz0)).kept k3 HS2.out.sz) h3)
  clear h3 k3 HS2 f0 f1 f2 f3 f4 f5
  generalize w2.heap.size = J at *
  obtain ⟨f0, f1, f2, f3, f4, f5, _⟩ := HE3.out.cw.one.six
  obtain ⟨v0, v1, v2, v3, v4, v5, v6⟩ := HE3.out.eight
  go_wp2_with fail
  refine (HSl.out _ HE3.out.cw.low).mono ?_
  rintro e w4 ⟨u1, M, rfl, ho4, he4, hb4⟩
  have HE4 := Lib.hid (HE3.out.next hb4)
  have HO4 := Lib.hid (And.intro (ho4.le HE3.out.cw.low.size) he4)
  clear ho4 he4 hb4 HE3 HSl f0 f1 f2 f3 f4 f5 v0 v1 v2 v3 v4 v5 v6
  obtain ⟨a1, n1, p1, rfl⟩ := HO4.out.1.slice
  obtain ⟨v0, v1, v2, v3, v4, v5, v6⟩ := HE4.out.eight
  go_wp2_with fail
  refine (HSh.out _ HE4.out.cw.low).mono ?_
  rintro e w5 ⟨a2, p2, rfl, ho5, hb5⟩
  have HE5 := Lib.hid (HE4.out.next hb5)
  have HO5 := Lib.hid (And.intro (HO4.out.1.below hb5) (And.intro HO4.out.2 (OwnI.le ho5 HE4.out.cw.low.size)))
  clear ho5 hb5 HE4 HO4 HSh v0 v1 v2 v3 v4 v5 v6
  obtain ⟨f0, f1, f2, f3, f4, f5, _⟩ := HE5.out.cw.one.six
  obtain ⟨v0, v1, v2, v3, v4, v5, v6⟩ := HE5.out.eight
  go_wp2_with fail
  refine (HSb.out _ HE5.out.cw.low).mono ?_
  rintro e w6 ⟨u3, N, rfl, ho6, he6, hb6⟩
  have HE6 := Lib.hid (HE5.out.next hb6)
  have HO6 := Lib.hid (And.intro (HO5.out.1.below hb6) (And.intro HO5.out.2.1 (And.intro (HO5.out.2.2.below hb6) (And.intro (ho6.le HE5.out.cw.low.size) he6))))
  clear ho6 he6 hb6 HE5 HO5 HSb f0 f1 f2 f3 f4 f5 v0 v1 v2 v3 v4 v5 v6
  obtain ⟨a3, n3, p3, rfl⟩ := HO6.out.2.2.2.1.slice
  cases B1 with
  | false =>
    obtain rfl := HBAD.out (.inl rfl)
    clear HBAD HGOOD
    go_wp2_with (refine wpList_storeR rtCore (by rfl) _ _ (by rfl) (w.heap.size + 1) zCrC (by rfl) (by rfl) (by rfl) (by simp [Value.oneCell']) _ HE6.out.cw.at2 rfl ?_; intro w7 h7 k7)
    exact bodyPost_ret (res_coreP rfl rfl h7) rfl (gives_zcr (below_kept HE6.out.cw.low k7 (by rintro k rfl; omega)) _)
  | true =>
    cases B2 with
    | false =>
      obtain rfl := HBAD.out (.inr (.inl rfl))
      clear HBAD HGOOD
      go_wp2_with (refine wpList_storeR rtCore (by rfl) _ _ (by rfl) (w.heap.size + 1) zCrC (by rfl) (by rfl) (by rfl) (by simp [Value.oneCell']) _ HE6.out.cw.at2 rfl ?_; intro w7 h7 k7)
      exact bodyPost_ret (res_coreP rfl rfl h7) rfl (gives_zcr (below_kept HE6.out.cw.low k7 (by rintro k rfl; omega)) _)
    | true =>
      cases B3 with
      | false =>
        obtain rfl := HBAD.out (.inr (.inr rfl))
        clear HBAD HGOOD
        go_wp2_with (refine wpList_storeR rtCore (by rfl) _ _ (by rfl) (w.heap.size + 1) zCrC (by rfl) (by rfl) (by rfl) (by simp [Value.oneCell']) _ HE6.out.cw.at2 rfl ?_; intro w7 h7 k7)
        exact bodyPost_ret (res_coreP rfl rfl h7) rfl (gives_zcr (below_kept HE6.out.cw.low k7 (by rintro k rfl; omega)) _)
      | true =>
        have HM := Lib.hid (And.intro (HO6.out.2.1 rfl) (HO6.out.2.2.2.2 rfl))
        obtain rfl := HGOOD.out rfl rfl rfl
        have HO7 := Lib.hid (And.intro HO6.out.1 (And.intro HO6.out.2.2.1 HO6.out.2.2.2.1))
        clear HBAD HGOOD HO6
        obtain ⟨f0, f1, f2, f3, f4, f5, _⟩ := HE6.out.cw.one.six
        go_wp2_with fail
        refine (HL.out _).mono ?_
        rintro e w8 ⟨rfl, hb8⟩
        have HE8 := Lib.hid (HE6.out.next hb8)
        have HO8 := Lib.hid (And.intro (HO7.out.1.below hb8) (And.intro (HO7.out.2.1.below hb8) (HO7.out.2.2.below hb8)))
        have d0 := cell_keep HE8.out.cw.low HG.out
        clear hb8 HE6 HO7 HL f0 f1 f2 f3 f4 f5
        go_wp2_with (refine wpList_storeR rtCore (by rfl) _ _ (by rfl) (w.heap.size + 1) #[.slice a1 n1 p1, .slice a2 S2.length p2, .bool lk, .slice a3 n3 p3] (by rfl) (by rfl) (by rfl) (by simp [Value.oneCell']) _ HE8.out.cw.at2 rfl ?_; intro w9 h9 k9)
        exact bodyPost_ret (res_coreP rfl rfl h9) rfl ⟨_, _, _, M, N, rfl, HO8.out.1.keptC k9 HE8.out.cw.at2, HM.out.1, HO8.out.2.1.keptC k9 HE8.out.cw.at2, HO8.out.2.2.keptC k9 HE8.out.cw.at2, HM.out.2, below_kept HE8.out.cw.low k9 (by rintro k rfl; omega)⟩
theorem pSee (u : Value) (l : List Int) (c : Ch) (hw : c.wf) (hy : Wordy l) (w : World) (hu : ShowU w u l) :
    Calls Try.prog 33 #[u, c.agg] w (GivesCr w (see l c)) := by
  by_cases h : c.ok ∧ (l.length : Int) = c.n
  · exact pSeeOk u l c hw h hy w hu
  · exact pSeeBad u l c hw h w hu
theorem rSee (u : Value) (l : List Int) (c : Ch) (hw : c.wf) (hy : Wordy l) (w : World) (hu : ShowU w u l) :
    Calls Try.prog 34 #[u, c.agg] w (GivesCr w (see l c)) := by
  by_cases h : c.ok ∧ (l.length : Int) = c.n
  · exact rSeeOk u l c hw h hy w hu
  · exact rSeeBad u l c hw h w hu
end Go.Proofs.Ytnnfmlbgoplnaaa
