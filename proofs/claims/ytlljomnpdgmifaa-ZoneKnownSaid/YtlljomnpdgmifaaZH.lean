/-
  Alloc, Free of a Zone.
-/
import Derived.Test.YtlljomnpdgmifaaZG
set_option linter.unusedVariables false
set_option linter.unusedSimpArgs false
namespace Go.Proofs.Ytlljomnpdgmifaa
open Go Go.RowKit

section
variable {w w' w'' : World} {z n : Nat} {N N' N'' : Zn} {l l' : List Pg} {f f' : F} {t t' : Int → Option Pg}
theorem ZB.not_own {K : Nat} {c : Array Value} {T : TypeId} {fr : Nat × Nat} (h : ZB w z N n l f t) (hb : w.heap[K]? = some (.cells c T fr)) (h1 : T ≠ 60) (h2 : T ≠ 92) (h3 : T ≠ 99) (h4 : T ≠ 89) (h5 : T ≠ 73) (h6 : T ≠ 3) : ¬ ZOwn n z N K := by
  rintro (rfl | rfl | rfl | o | rfl)
  · exact ne_types hb h.box h1 rfl
  · exact ne_types hb h.bud.box h2 rfl
  · obtain ⟨c', hg⟩ := h.tabB
    exact ne_types hb hg h3 rfl
  · exact h.nr.not_own hb h4 h5 h6 o
  · exact h.tags.ne hb rfl
theorem ot_fits (hs : Std l) {p o : Nat} {c : Int} (h : ot n l f p = some ⟨2, (o : Int), c⟩) : p < l.length ∧ p + 2 ^ o ≤ 1024 ∧ o ≤ 10 := by
  obtain ⟨⟨h1, h2, _⟩, e⟩ := ot_some.1 h
  have hst := hs.cov.starts h1 (by omega)
  have hf := hst.fits
  have hk := (Pg.ok_iff.1 hst.head).1
  have hl := hs.valid.2.1
  rw [e] at hf hk
  simp only [Pg.sz, Int.toNat_natCast] at hf hk
  exact ⟨h1, by omega, by omega⟩
set_option maxHeartbeats 4000000 in
set_option maxRecDepth 100000 in
theorem zAlloc (h : ZC w z N n l f t) {cpu order cache p e : Int} (hr : AlIs n l f cpu order cache p e l' f') :
    Calls Try.prog 21 #[.pointer (some ⟨z, 0, none⟩), .int .i64 cpu, .int .i64 order, .int .i64 cache] w fun en w' => en = .returned (.tuple #[.int .i64 p, .int .i64 e]) ∧ ∃ N' t', ZC w' z N' n l' f' t' ∧ ZGoes w w' n z N N' := by
  have HZ := Lib.hid h
  cases hr with
  | range _ _ _ hc =>
    clear h
    go_enter Try.func21, Try.ntmps21
    go_wp2_with (go_at_call 37; refine (zRefusesYes HZ.out.zb cpu hc).mono ?_; rintro e w' ⟨rfl, rfl⟩)
    go_ret2
    exact ⟨rfl, N, t, HZ.out, ZGoes.refl _ _ _ _⟩
  | arg c _ _ hc hbad =>
    clear h
    have hor : order < 0 ∨ (¬ order < 0 ∧ 10 < order) ∨ (¬ order < 0 ∧ ¬ 10 < order ∧ cache < 0) ∨ (¬ order < 0 ∧ ¬ 10 < order ∧ ¬ cache < 0 ∧ 8 < cache) := by
      unfold ArgOk at hbad
      omega
    clear hbad
    rcases hor with h1 | ⟨h1, h2⟩ | ⟨h1, h2, h3⟩ | ⟨h1, h2, h3, h4⟩
    all_goals
      go_enter Try.func21, Try.ntmps21
      go_wp2_with (go_at_call 37; refine (zRefusesNo HZ.out.zb c hc).mono ?_; rintro e w' ⟨rfl, rfl⟩)
      go_ret2
      exact ⟨rfl, N, t, HZ.out, ZGoes.refl _ _ _ _⟩
  | blk c o _ _ _ _ _ hc h1 h2 h3 hb =>
    have HB := Lib.hid hb
    rcases hb.facts h.inv hc h1 h2 h3 with ⟨rfl, q, rfl, ha⟩ | ⟨rfl, rfl, hs, _⟩
    · have HTG := Lib.hid (h.tg.add ha.inv.std.cov ha.ot1 ha.ot0 ha.ot)
      have HFT := Lib.hid (ot_fits ha.inv.std ha.ot1)
      have HA := Lib.hid ha
      clear h hb ha
      go_enter Try.func21, Try.ntmps21
      go_wp2_with fail
      refine (zRefusesNo HZ.out.zb c hc).mono ?_
      rintro e w' ⟨rfl, rfl⟩
      go_wp2_with fail
      refine (zBlock HZ.out.zb HZ.out.inv hc h1 h2 h3 HB.out).mono ?_
      rintro e w1 ⟨rfl, N1, hz1, hg1⟩
      have H1 := Lib.hid (And.intro hz1 hg1)
      clear hz1 hg1
      go_wp2_with fail
      refine (zTag H1.out.1 q o cache h1 HFT.out.2.1).mono ?_
      rintro e w2 ⟨rfl, hz2, hg2⟩
      have H2 := Lib.hid (And.intro hz2 (H1.out.2.trans hg2))
      clear hz2 hg2
      go_wp2
      go_ret2
      exact ⟨rfl, N1, _, ⟨H2.out.1, HA.out.inv, HTG.out⟩, H2.out.2⟩
    · have HS := Lib.hid hs
      clear h hb hs
      go_enter Try.func21, Try.ntmps21
      go_wp2_with fail
      refine (zRefusesNo HZ.out.zb c hc).mono ?_
      rintro e w' ⟨rfl, rfl⟩
      go_wp2_with fail
      refine (zBlock HZ.out.zb HZ.out.inv hc h1 h2 h3 HB.out).mono ?_
      rintro e w1 ⟨rfl, N1, hz1, hg1⟩
      have H1 := Lib.hid (And.intro hz1 hg1)
      clear hz1 hg1
      go_wp2
      go_ret2
      exact ⟨rfl, N1, t, ⟨H1.out.1, HS.out.inv, HZ.out.tg.same HS.out.ot⟩, H1.out.2⟩
set_option maxHeartbeats 8000000 in
set_option maxRecDepth 100000 in
theorem zFree (h : ZC w z N n l f t) {cpu page e : Int} (hw : wf64 page) (hr : FrIs n l f cpu page e l' f') :
    Calls Try.prog 17 #[.pointer (some ⟨z, 0, none⟩), .int .i64 cpu, .int .i64 page] w fun en w' => en = .returned (.int .i64 e) ∧ ∃ N' t', ZC w' z N' n l' f' t' ∧ ZGoes w w' n z N N' := by
  have HZ := Lib.hid h
  have HWF := Lib.hid hw
  obtain ⟨c0, c1, c2, c3⟩ := h.zb.cells
  have key : ∀ (a c d : Int) (B : Nat), B = w.heap.size → True := fun _ _ _ _ _ => trivial
  cases hr with
  | range _ _ hc =>
    clear h c0 c1 c2 c3
    go_enter Try.func17, Try.ntmps17
    go_wp2_with (go_at_call 37; refine (zRefusesYes HZ.out.zb cpu hc).mono ?_; rintro e w' ⟨rfl, rfl⟩)
    go_ret
    exact ⟨rfl, N, t, HZ.out, ZGoes.refl _ _ _ _⟩
  | block c _ hc hno =>
    cases htp : t page with
    | none =>
      have HL : Hid (LookIs t page 0 0 0 false) := Lib.hid (.inr ⟨htp, rfl, rfl, rfl, rfl⟩)
      clear h hw hno htp
      go_enter Try.func17, Try.ntmps17
      go_wp2_with fail
      refine (zRefusesNo HZ.out.zb c hc).mono ?_
      rintro e w' ⟨rfl, rfl⟩
      go_wp2_with (at_lookup; refine wpList_look rfl _ _ rfl (by rfl) HZ.out.zb.tags (by rfl) HWF.out HL.out ?_)
      go_ret
      exact ⟨rfl, N, t, HZ.out.below (below_one (Below.refl _ _) _), ZGoes.of_below (below_one (Below.refl _ _) _)⟩
    | some T =>
      obtain ⟨a, b, d⟩ := T
      have hne : a ≠ page := fun e => by
        obtain ⟨p, e1, e2⟩ := h.tg.at_head htp e
        rw [hno p e1] at e2
        cases e2
      have hneb : (a != page) = true := by simpa using hne
      have HL : Hid (LookIs t page a b d true) := Lib.hid (.inl ⟨htp, rfl⟩)
      clear h hw hno htp hne
      go_enter Try.func17, Try.ntmps17
      go_wp2_with fail
      refine (zRefusesNo HZ.out.zb c hc).mono ?_
      rintro e w' ⟨rfl, rfl⟩
      go_wp2_with (at_lookup; refine wpList_look rfl _ _ rfl (by rfl) HZ.out.zb.tags (by rfl) HWF.out HL.out ?_)
      go_ret
      exact ⟨rfl, N, t, HZ.out.below (below_one (Below.refl _ _) _), ZGoes.of_below (below_one (Below.refl _ _) _)⟩
  | big c p o ca hc ho h0 =>
    have hd := h.inv.free ho
    have HFT := Lib.hid (ot_fits h.inv.std ho)
    have HTG := Lib.hid (h.tg.del h.inv.std.cov ho hd.ot1 hd.ot)
    have HD := Lib.hid hd
    have HL : Hid (LookIs t (p : Int) p o ca true) := Lib.hid (.inl ⟨h.tg.head ho, rfl⟩)
    have HFR : Hid (FreeIs (er l) (p : Int) 0 (er (freeL l p))) := Lib.hid (by
      rw [← free_er h.inv.std.cov]
      exact .ok p (by rw [er_length]; exact (ot_some.1 ho).1.1) (by rw [pg_er]; exact (ot_some.1 ho).1.2.1))
    have HST := Lib.hid (std_er h.inv.std)
    clear h hw ho hd
    go_enter Try.func17, Try.ntmps17
    go_wp2_with fail
    refine (zRefusesNo HZ.out.zb c hc).mono ?_
    rintro e w' ⟨rfl, rfl⟩
    have H1 := Lib.hid (HZ.out.zb.below (below_one (Below.refl _ w') (.cells #[.int .i64 (p : Int), .int .i64 (o : Int), .int .i64 ca] 44)))
    have hblk := heap_new w' (.cells #[.int .i64 (p : Int), .int .i64 (o : Int), .int .i64 ca] 44)
    have HBL := Lib.hid hblk
    have k0 := self_cell hblk 0 _ rfl
    have k1 := self_cell hblk 1 _ rfl
    have k2 := self_cell hblk 2 _ rfl
    clear hblk
    go_wp2_with (at_lookup; refine wpList_look rfl _ _ rfl (by rfl) HZ.out.zb.tags (by rfl) HWF.out HL.out ?_)
    refine (zUntag H1.out p o ca HFT.out.2.2 HFT.out.2.1).mono ?_
    rintro e w2 ⟨rfl, hz2, hg2⟩
    have HB2 := Lib.hid ((hg2.1.block _ (lt_of_block HBL.out) (H1.out.not_own HBL.out (by decide) (by decide) (by decide) (by decide) (by decide) (by decide))).trans HBL.out)
    have H2 := Lib.hid (And.intro hz2 ((ZGoes.of_below (n := n) (z := z) (N := N) (below_one (Below.refl _ w') _)).trans hg2))
    clear hz2 hg2 k0 k1 k2 c0 c1 c2 c3
    have k1 := self_cell HB2.out 1 _ rfl
    obtain ⟨c0, c1, c2, c3⟩ := H2.out.1.cells
    have hpos : (0 : Int) < (o : Int) := by omega
    go_wp2_with fail
    refine (cFreeB H2.out.1.bud HST.out HFR.out).mono ?_
    rintro e w3 ⟨rfl, hb3, hk3⟩
    have H3 := Lib.hid (H2.out.1.budded hb3 hk3)
    clear hb3 hk3 k1 c0 c1 c2 c3
    go_wp2
    go_ret
    exact ⟨rfl, N, _, ⟨H3.out.1, HD.out.inv, HTG.out⟩, H2.out.2.trans H3.out.2⟩
  | one c p ca out _ hc ho hput =>
    obtain ⟨_, hnr, hnd, hd⟩ := put_facts h.inv h.zb.fine hc ho hput
    have HFT := Lib.hid (ot_fits (o := 0) h.inv.std ho)
    have HTG := Lib.hid (h.tg.del (o := 0) h.inv.std.cov ho hd.ot1 hd.ot)
    have HD := Lib.hid hd
    have HL : Hid (LookIs t (p : Int) p 0 ca true) := Lib.hid (.inl ⟨h.tg.head ho, rfl⟩)
    have HPT := Lib.hid hput
    have HRC := Lib.hid (setC_er l p 0)
    have hb := (ot_some.1 ho).1
    have HNR := Lib.hid (And.intro hnr (And.intro hnd (setC_std (c := 0) h.inv.std hb.1 hb.2.1 (by decide) (by decide))))
    clear h hw ho hd hput hnr hnd hb
    go_enter Try.func17, Try.ntmps17
    go_wp2_with fail
    refine (zRefusesNo HZ.out.zb c hc).mono ?_
    rintro e w' ⟨rfl, rfl⟩
    have H1 := Lib.hid (HZ.out.zb.below (below_one (Below.refl _ w') (.cells #[.int .i64 (p : Int), .int .i64 0, .int .i64 ca] 44)))
    have hblk := heap_new w' (.cells #[.int .i64 (p : Int), .int .i64 0, .int .i64 ca] 44)
    have HBL := Lib.hid hblk
    have k0 := self_cell hblk 0 _ rfl
    have k1 := self_cell hblk 1 _ rfl
    have k2 := self_cell hblk 2 _ rfl
    clear hblk
    go_wp2_with (at_lookup; refine wpList_look rfl _ _ rfl (by rfl) HZ.out.zb.tags (by rfl) HWF.out HL.out ?_)
    refine (zUntag H1.out p 0 ca (by omega) HFT.out.2.1).mono ?_
    rintro e w2 ⟨rfl, hz2, hg2⟩
    have HB2 := Lib.hid ((hg2.1.block _ (lt_of_block HBL.out) (H1.out.not_own HBL.out (by decide) (by decide) (by decide) (by decide) (by decide) (by decide))).trans HBL.out)
    have H2 := Lib.hid (And.intro hz2 ((ZGoes.of_below (n := n) (z := z) (N := N) (below_one (Below.refl _ w') _)).trans hg2))
    clear hz2 hg2 k0 k1 k2 c0 c1 c2 c3
    have k1 := self_cell HB2.out 1 _ rfl
    obtain ⟨c0, c1, c2, c3⟩ := H2.out.1.cells
    go_wp2_with fail
    refine (cPut H2.out.1.nr H2.out.1.fine HPT.out).mono ?_
    rintro e w3 ⟨v, vs', rfl, hN, hG, hO⟩
    have H3a := H2.out.1.neared hN (HPT.out.fine H2.out.1.fine) hG
    have H3 := Lib.hid (And.intro (H3a.1.recache HRC.out) (And.intro (H2.out.2.trans H3a.2) (Res.mono hO (C := fun _ => True) (fun _ _ => trivial))))
    clear H3a hN hG hO k1 c0 c1 c2 c3
    obtain ⟨c0, c1, c2, c3⟩ := H3.out.1.cells
    go_wp2_with fail
    refine (zHandCall H3.out.1 HNR.out.2.2 H3.out.2.2 HNR.out.1 HNR.out.2.1).mono ?_
    rintro e w4 ⟨rfl, hz4, hg4⟩
    have H4 := Lib.hid (And.intro hz4 (H3.out.2.1.trans hg4))
    clear hz4 hg4 c0 c1 c2 c3
    go_wp2
    go_ret
    exact ⟨rfl, _, _, ⟨H4.out.1, HD.out.inv, HTG.out⟩, H4.out.2⟩
end
end Go.Proofs.Ytlljomnpdgmifaa
