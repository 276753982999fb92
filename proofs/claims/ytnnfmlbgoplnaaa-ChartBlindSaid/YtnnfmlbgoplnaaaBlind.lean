/-
  ChartBlind walked.
-/
import Derived.Test.YtnnfmlbgoplnaaaSees
set_option linter.unusedVariables false
set_option linter.unusedSimpArgs false
namespace Go.Proofs.Ytnnfmlbgoplnaaa
open Go Go.RowKit

theorem word_range {k : Int} (h : (Lit.int .u64 k).wf = true) : okW k := by
  have := Go.bounds_u64 (by simpa [Lit.wf] using h)
  unfold okW
  omega
theorem One.kept {W w w' : World} {i g : Nat} {c : Ch} (h : One W i c w) (hk : Kept (· = g) w w') (hn : i ≠ g) (hg : W.heap.size ≤ g) : One W i c w' := ⟨BlkAt.kept h.at1 hk hn, below_kept h.low hk (by rintro k rfl; exact hg)⟩
/-- what has been marked so far -/
def Mark (p : List Int) (k : Nat) (f : Nat → Bool) : Prop := ∀ i, i < k → ∀ X : Nat, pk p i = X → f X = true
theorem Mark.zero (p : List Int) (f : Nat → Bool) : Mark p 0 f := fun i hi => absurd hi (Nat.not_lt_zero _)
theorem Mark.next {p : List Int} {k X : Nat} {f : Nat → Bool} (h : Mark p k f) (hx : pk p k = (X : Int)) : Mark p (k + 1) (fun j => if j = X then true else f j) := by
  intro i hi Y hY
  dsimp only
  by_cases e : Y = X
  · rw [if_pos e]
  · rw [if_neg e]
    refine h i ?_ Y hY
    rcases Nat.lt_or_ge i k with h' | h'
    · exact h'
    · obtain rfl : i = k := by omega
      rw [hx] at hY
      exact absurd (Int.ofNat.inj hY).symm e
/-- what lies there while words are written over -/
structure Bl (W : World) (d : Ch) (B : Nat) (K : Cr) (u1 u2 u3 : Value) (M : List SlV) (N : List SbV) (gA gN n : Nat) (f : Nat → Bool) (w : World) : Prop where
  one : One W W.heap.size d w
  cr : CrIn B w K u1 u2 u3 M N
  core : BlkAt 40 w gA #[u1, u2, .bool K.locked, u3]
  nm : RowB w gN n f
section
variable {W w w' : World} {d : Ch} {B : Nat} {K : Cr} {u1 u2 u3 : Value} {M : List SlV} {N : List SbV} {gA gN n g : Nat} {f : Nat → Bool}
theorem Bl.below (h : Bl W d B K u1 u2 u3 M N gA gN n f w) (hb : Below w.heap.size w w') : Bl W d B K u1 u2 u3 M N gA gN n f w' := ⟨h.one.next hb, h.cr.below hb, BlkAt.below h.core hb, h.nm.below hb⟩
theorem Bl.kept {k : Nat} {fw : Nat → Int} (h : Bl W d B K u1 u2 u3 M N gA gN n f w) (hk : Kept (· = g) w w') (hr : RowW w g k fw) (hg : W.heap.size < g) : Bl W d B K u1 u2 u3 M N gA gN n f w' := by
  obtain ⟨c, hc, _⟩ := hr
  have hkt : KT [22] w w' := KT.one hk hc
  refine ⟨h.one.kept hk (by omega) (by omega), ⟨h.cr.slots.turn hkt (by decide) (by decide), h.cr.slotsIs, hkt.ownI h.cr.shelf (by decide), h.cr.slabs.turn hkt (by decide) (by decide), h.cr.slabsIs⟩, hkt.blk h.core (by decide), ?_⟩
  obtain ⟨c2, h1, h2⟩ := h.nm
  exact ⟨c2, hkt.blk h1 (by decide), h2⟩
end
set_option maxHeartbeats 32000000 in
set_option maxRecDepth 100000 in
theorem walkBlind (u : Value) (l : List Int) (c : Ch) (hw : c.wf) (hy : Wordy l) (v : Int) (hv : okW v) (W : World) (hu : ShowU W u l) :
    Calls Try.prog 6 #[u, c.agg, .int .u64 v] W fun e W' => e = .returned (.bool true) ∧ Below W.heap.size W W' := by
  obtain ⟨ao, cap, rfl, ⟨hc1, hc2⟩, hat⟩ := hu.form
  have HAT := Lib.hid hat
  have HY := Lib.hid hy
  have HV := Lib.hid hv
  have HM := Lib.hid (fun w => cMade c w)
  have hd := md_ok c
  have hdw := md_wf c hw
  have hone := one_new W c
  obtain ⟨c0, c1, c2, c3, c4, c5⟩ := hone.at1.cells
  have HT0 := Lib.hid hone
  generalize mdC c = d at *
  have hWd := fun w => pWords d hdw w
  rw [show d.words = d.n from if_pos hd] at hWd
  have hPl := fun w => cPlaces d hdw hd w
  have hin := fun x h => plc_in hd (x := x) h
  have HSE := Lib.hid (fun u m (hm : Wordy m) w' (h : ShowU w' u m) => pSee u m d hdw hm w' h)
  have hsm : ∀ m m' : List Int, Wordy m' → m.length = m'.length → (∀ x ∈ plc d, pk m x.toNat = pk m' x.toNat) → see m d = see m' d := fun m m' h1 h2 h3 => see_same h1 ⟨h2, h3⟩
  obtain ⟨n, hn⟩ : ∃ n : Nat, d.n = n := ⟨d.n.toNat, by have := Ch.prod hd; unfold Ch.n; obtain ⟨⟨o1, o2⟩, ⟨o3, o4⟩, _⟩ := hd; omega⟩
  have hn1 : 1 ≤ n ∧ n ≤ 4096 := by have := Ch.prod hd; unfold Ch.n at hn; obtain ⟨⟨o1, o2⟩, ⟨o3, o4⟩, _⟩ := hd; omega
  rw [hn] at hWd
  simp only [hn] at hin
  obtain ⟨hn1, hn2⟩ := hn1
  obtain ⟨O, hO, hR⟩ := makeW n (by omega)
  obtain ⟨O2, hO2, hR2⟩ := makeB n (by omega)
  generalize plc d = p at *
  have HWd := Lib.hid hWd
  have HPL := Lib.hid hPl
  have HIN := Lib.hid hin
  have HR := Lib.hid hR
  have HR2 := Lib.hid hR2
  have HSAME := Lib.hid hsm
  have hz0 : Hid (okW 0) := Lib.hid (by decide)
  have hn3 : ¬ ((n : Int) < 1) := by omega
  have hn4 : ¬ (4096 < (n : Int)) := by omega
  have HWU := Lib.hid hc2
  clear hWd hPl hin hR hR2 hone hw hd hdw hn hsm hat hy hv hu
  go_enter Try.func6, Try.ntmps6
  go_wp2_with fail
  refine (HM.out _).mono ?_
  rintro e w1 ⟨rfl, hb1⟩
  have HT1 := Lib.hid (HT0.out.next hb1)
  clear hb1 HT0 HM c0 c1 c2 c3 c4 c5
  go_wp2_with (refine wpList_storeR rtCh (by rfl) _ _ (by rfl) W.heap.size d.arr (by rfl) (by rfl) (by rfl) (by simp [Value.oneCell']) _ HT1.out.at1 rfl ?_; intro w2 h2 k2; have HT2 : Hid (One W W.heap.size d w2) := Lib.hid ⟨h2, below_kept HT1.out.low k2 (by rintro k rfl; exact Nat.le_refl _)⟩; clear h2 k2 HT1; refine Stop.mk ?_)
  unfold Stop
  obtain ⟨c0, c1, c2, c3, c4, c5⟩ := HT2.out.at1.cells
  go_wp2_with fail
  refine (HWd.out _).mono ?_
  rintro e w3 ⟨rfl, hb3⟩
  have HT3 := Lib.hid (HT2.out.next hb3)
  clear hb3 HT2 HWd c0 c1 c2 c3 c4 c5
  have HT4 := Lib.hid (HT3.out.next (below_one (Below.refl w3.heap.size w3) O))
  have HW4 := Lib.hid (HR.out w3)
  have HG : Hid (W.heap.size < w3.heap.size) := Lib.hid HT3.out.at1.lt
  clear HT3 HR
  go_wp2
  generalize w3.heap.size = g at *
  go_loopw [9] (fun x wr => ∃ (k : Nat) (f : Nat → Int), x = .int .i64 k ∧ k ≤ n ∧ k ≤ l.length ∧ Hid (RowW wr g n f ∧ (∀ j, okW (f j)) ∧ One W W.heap.size d wr)) (fun x _ => n - (intOf x).toNat)
  case atStart => exact ⟨0, _, rfl, by omega, by omega, Lib.hid ⟨HW4.out, fun _ => hz0.out, HT4.out⟩⟩
  case round =>
    clear HW4 HT4
    obtain ⟨k, f, rfl, hk, hkl, HX⟩ := hrel
    by_cases h12 : k < n ∧ k < l.length
    · obtain ⟨h1, h2⟩ := h12
      obtain ⟨b, o, rfl, cc0⟩ := HAT.out k h2
      have d0 := cell_keep HX.out.2.2.low cc0
      have hcell := HX.out.1.cell h1
      have hfree := HX.out.1.free k
      have hkp : Kept (· = g) wr (wr.setCell ⟨g, k, none⟩ (.int .u64 (pk l k))) := Kept.setCell (S := (· = g)) (p := ⟨g, k, none⟩) (Kept.refl _ _) rfl _
      have HX2 : Hid (RowW (wr.setCell ⟨g, k, none⟩ (.int .u64 (pk l k))) g n (fun j => if j = k then pk l k else f j) ∧ (∀ j, okW ((fun j => if j = k then pk l k else f j) j)) ∧ One W W.heap.size d (wr.setCell ⟨g, k, none⟩ (.int .u64 (pk l k)))) := Lib.hid ⟨HX.out.1.set k (pk l k), fun j => by
        dsimp only
        by_cases e : j = k
        · rw [if_pos e]; exact HY.out k
        · rw [if_neg e]; exact HX.out.2.1 j, HX.out.2.2.kept hkp (by have := HG.out; omega) (by have := HG.out; omega)⟩
      clear hkp HX cc0
      generalize pk l k = y at *
      go_wp2
      go_roundw
      case rel => exact ⟨k + 1, _, by go_num, by omega, by omega, HX2⟩
      case measure => simp [intOf]; omega
    · have HOKF : Hid (∀ j, okW (f j)) := Lib.hid HX.out.2.1
      have h34 : (¬ k < n) ∨ (k < n ∧ ¬ k < l.length) := by omega
      clear h12
      rcases h34 with h3 | ⟨h3, h4⟩
      all_goals
        have HYM : Hid (Wordy (fnL n f)) := Lib.hid (wordy_fn HX.out.2.1)
        have hSA := HSE.out _ (fnL n f) HYM.out wr (HX.out.1.shows (by omega))
        obtain ⟨⟨K, E⟩, hKE⟩ : ∃ r, see (fnL n f) d = r := ⟨_, rfl⟩
        rw [hKE] at hSA
        have HKE := Lib.hid hKE
        have HSA := Lib.hid hSA
        have HT := Lib.hid HX.out.2.2
        have HRW := Lib.hid HX.out.1
        clear hSA hKE HX
        obtain ⟨c0, c1, c2, c3, c4, c5⟩ := HT.out.at1.cells
        go_wp2_with fail
        refine HSA.out.mono ?_
        rintro e w2 hg2
        obtain ⟨u1, u2, u3, M, N, rfl, hc2, hb2⟩ := gives_inK hg2
        obtain ⟨a1, n1, p1, rfl⟩ := hc2.slots.slice
        obtain ⟨a2, n2, p2, rfl⟩ := hc2.shelf.slice
        obtain ⟨a3, n3, p3, rfl⟩ := hc2.slabs.slice
        have HT2 := Lib.hid (HT.out.next hb2)
        have HRW2 := Lib.hid (HRW.out.below hb2)
        have HC2 := Lib.hid hc2
        clear hg2 hc2 hb2 HSA HT HRW c0 c1 c2 c3 c4 c5
        go_wp2_with (refine wpList_storeR rtCore (by rfl) _ _ (by rfl) w2.heap.size #[.slice a1 n1 p1, .slice a2 n2 p2, .bool K.locked, .slice a3 n3 p3] (by rfl) (by rfl) (by rfl) (by simp [Value.oneCell']) _ (heap_new w2 cr0) rfl ?_; intro w3 h3 k3; refine Stop.mk ?_)
        unfold Stop
        have hb3 := below_one_kept (below_one (Below.refl w2.heap.size w2) cr0) k3 (Nat.le_refl _)
        have HT3 := Lib.hid (HT2.out.next hb3)
        have HRW3 := Lib.hid (HRW2.out.below hb3)
        have HC3 := Lib.hid (HC2.out.below hb3)
        have HA3 := Lib.hid h3
        clear h3 k3 hb3 HT2 HRW2 HC2
        generalize w2.heap.size = gA at *
        have HB4 := Lib.hid (HR2.out w3)
        have HL4 := Lib.hid (below_one (Below.refl w3.heap.size w3) O2)
        have HT4 := Lib.hid (HT3.out.next (below_one (Below.refl w3.heap.size w3) O2))
        obtain ⟨c0, c1, c2, c3, c4, c5⟩ := HT4.out.at1.cells
        go_wp2_with fail
        refine (HPL.out _).mono ?_
        rintro e w5 ⟨ao5, cp5, rfl, ho5, hb5⟩
        have HB5 := Lib.hid (HB4.out.below hb5)
        have HL5 := Lib.hid (HL4.out.trans (hb5.mono HL4.out.size))
        have HO5 := Lib.hid ho5
        obtain ⟨gN, hgN⟩ : ∃ x, w3.heap.size = x := ⟨_, rfl⟩
        have HGN : Hid (w3.heap.size ≤ gN) := Lib.hid (by omega)
        rw [hgN] at HB5 HB4 ⊢
        clear hb5 HT4 HB4 HL4 c0 c1 c2 c3 c4 c5 ho5
        generalize (w3.alloc O2).heap.size = B5 at *
        clear hgN
        obtain ⟨mm, hmm⟩ : ∃ mm, p.length = mm := ⟨_, rfl⟩
        have HMM := Lib.hid hmm
        rw [hmm]
        go_wp2
        go_loopw [14] (fun x wr => ∃ (k : Nat) (f2 : Nat → Bool), x = .int .i64 k ∧ k ≤ mm ∧ Hid (Mark p k f2) ∧ Hid (RowB wr gN n f2) ∧ Hid (OwnI B5 wr (.slice ao5 p.length cp5) p) ∧ Hid (Below w3.heap.size w3 wr)) (fun x _ => mm - (intOf x).toNat)
        case atStart => exact ⟨0, _, rfl, by omega, Lib.hid (Mark.zero p _), HB5, HO5, HL5⟩
        case round =>
          clear HB5 HO5 HL5
          obtain ⟨k, f2, rfl, hk, HF, HB, HO, HL⟩ := hrel
          by_cases hlt : k < mm
          · obtain ⟨ao', cp', hsl, ⟨q1, q2⟩, hat5⟩ := HO.out.shows.form
            obtain ⟨rfl, -, rfl⟩ := Value.slice.inj hsl
            have hkl : k < p.length := by rw [HMM.out]; exact hlt
            obtain ⟨b, o, rfl, hc⟩ := hat5 k hkl
            have hr := HIN.out (pk p k) (by rw [← pk_at p k hkl]; exact List.getElem_mem hkl)
            obtain ⟨X, hX⟩ : ∃ X : Nat, pk p k = X := ⟨(pk p k).toNat, by omega⟩
            have HF2 := Lib.hid (HF.out.next hX)
            rw [hX] at hc hr
            have hXn : X < n := by omega
            have hx0 : (0 : Int) ≤ (X : Int) := by omega
            have hx1 : (X : Int) < (n : Int) := by omega
            have hcell := HB.out.cell hXn
            have hfree := HB.out.free X
            have hkp : Kept (· = gN) wr (wr.setCell ⟨gN, X, none⟩ (.bool true)) := Kept.setCell (S := (· = gN)) (p := ⟨gN, X, none⟩) (Kept.refl _ _) rfl _
            have HB2 := Lib.hid (HB.out.set hXn true)
            have HO2 := Lib.hid (HB.out.own HO.out hkp)
            have HL2 := Lib.hid (below_kept HL.out hkp (by rintro k rfl; exact HGN.out))
            rw [HMM.out] at q1
            clear hkp hX hat5 hsl HF HB HO HL hr hkl
            generalize f2 X = y at *
            go_wp2
            go_roundw
            case rel => exact ⟨k + 1, _, by go_num, by omega, HF2, HB2, HO2, HL2⟩
            case measure => simp [intOf]; omega
          · obtain rfl : k = mm := by omega
            have HRW6 := Lib.hid (HRW3.out.below HL.out)
            have HBL6 : Hid (Bl W d _ K (.slice a1 n1 p1) (.slice a2 n2 p2) (.slice a3 n3 p3) M N gA gN n f2 wr) := Lib.hid ⟨HT3.out.next HL.out, HC3.out.below HL.out, BlkAt.below HA3.out HL.out, HB.out⟩
            have HYF : Hid (∀ j, okW (f j)) := HOKF
            clear HRW3 HT3 HC3 HA3 HB HL HO
            go_wp2
            go_loopw [15] (fun x wr => ∃ (k : Nat) (f3 : Nat → Int), x = .int .i64 k ∧ k ≤ n ∧ Hid (RowW wr g n f3 ∧ (∀ j, okW (f3 j)) ∧ (∀ j, f2 j = true → f3 j = f j)) ∧ Hid (Bl W d _ K (.slice a1 n1 p1) (.slice a2 n2 p2) (.slice a3 n3 p3) M N gA gN n f2 wr)) (fun x _ => n - (intOf x).toNat)
            case atStart => exact ⟨0, f, rfl, by omega, Lib.hid ⟨HRW6.out, HYF.out, fun j _ => rfl⟩, HBL6⟩
            case round =>
              clear HRW6 HBL6 HYF
              obtain ⟨j, f3, rfl, hj, HR3, HBL⟩ := hrel
              by_cases hjl : j < n
              · have hcb := HBL.out.nm.cell hjl
                obtain ⟨q, hq⟩ : ∃ q, f2 j = q := ⟨_, rfl⟩
                rw [hq] at hcb
                have HQ := Lib.hid hq
                clear hq
                cases q with
                | true =>
                  go_wp2
                  go_roundw
                  case rel => exact ⟨j + 1, f3, by go_num, by omega, HR3, HBL⟩
                  case measure => simp [intOf]; omega
                | false =>
                  have hcell := HR3.out.1.cell hjl
                  have hfree := HR3.out.1.free j
                  have hkp : Kept (· = g) wr (wr.setCell ⟨g, j, none⟩ (.int .u64 v)) := Kept.setCell (S := (· = g)) (p := ⟨g, j, none⟩) (Kept.refl _ _) rfl _
                  have HBL2 := Lib.hid (HBL.out.kept hkp HR3.out.1 HG.out)
                  have HR4 : Hid (RowW (wr.setCell ⟨g, j, none⟩ (.int .u64 v)) g n (fun i => if i = j then v else f3 i) ∧ (∀ i, okW ((fun i => if i = j then v else f3 i) i)) ∧ (∀ i, f2 i = true → (fun i => if i = j then v else f3 i) i = f i)) := Lib.hid ⟨HR3.out.1.set j v, fun i => by
                    dsimp only
                    by_cases e : i = j
                    · rw [if_pos e]; exact HV.out
                    · rw [if_neg e]; exact HR3.out.2.1 i, fun i hi => by
                    dsimp only
                    by_cases e : i = j
                    · subst e
                      rw [HQ.out] at hi
                      cases hi
                    · rw [if_neg e]; exact HR3.out.2.2 i hi⟩
                  clear hkp HR3 HBL
                  generalize f3 j = y at *
                  go_wp2
                  go_roundw
                  case rel => exact ⟨j + 1, _, by go_num, by omega, HR4, HBL2⟩
                  case measure => simp [intOf]; omega
              · obtain rfl : j = n := by omega
                have hsee : see (fnL j f3) d = (K, E) := by
                  rw [← HKE.out]
                  refine HSAME.out _ _ HYM.out (by rw [fn_len, fn_len]) (fun x hx => ?_)
                  obtain ⟨i, hi, hxi⟩ := List.getElem_of_mem hx
                  have hr := HIN.out x hx
                  obtain ⟨X, hX⟩ : ∃ X : Nat, x = X := ⟨x.toNat, by omega⟩
                  have hm2 := HF.out i (by rw [← HMM.out]; exact hi) X (by rw [← pk_at p i hi, hxi, hX])
                  rw [hX, Int.toNat_natCast, fn_pk _ (by omega), fn_pk _ (by omega)]
                  exact HR3.out.2.2 X hm2
                have hSB := HSE.out _ (fnL j f3) (wordy_fn HR3.out.2.1) wr (HR3.out.1.shows (by omega))
                rw [hsee] at hSB
                have HSB := Lib.hid hSB
                clear hsee hSB HR3
                obtain ⟨c0, c1, c2, c3, c4, c5⟩ := HBL.out.one.at1.cells
                go_wp2_with fail
                refine HSB.out.mono ?_
                rintro e w7 hg7
                obtain ⟨v1, v2, v3, M2, N2, rfl, hd7, hb7⟩ := gives_inK hg7
                obtain ⟨b1, m1, q1, rfl⟩ := hd7.slots.slice
                obtain ⟨b2, m2, q2, rfl⟩ := hd7.shelf.slice
                obtain ⟨b3, m3, q3, rfl⟩ := hd7.slabs.slice
                have HBL7 := Lib.hid (HBL.out.below hb7)
                have HD7 := Lib.hid hd7
                clear hg7 hd7 hb7 HSB HBL c0 c1 c2 c3 c4 c5
                go_wp2_with (refine wpList_storeR rtCore (by rfl) _ _ (by rfl) w7.heap.size #[.slice b1 m1 q1, .slice b2 m2 q2, .bool K.locked, .slice b3 m3 q3] (by rfl) (by rfl) (by rfl) (by simp [Value.oneCell']) _ (heap_new w7 cr0) rfl ?_; intro w8 h8 k8; refine Stop.mk ?_)
                unfold Stop
                have hb8 := below_one_kept (below_one (Below.refl w7.heap.size w7) cr0) k8 (Nat.le_refl _)
                have HBL8 := Lib.hid (HBL7.out.below hb8)
                have HD8 := Lib.hid (HD7.out.below hb8)
                have a0' := HBL8.out.core.cell (j := 0) (u := .slice a1 n1 p1) rfl
                have a1' := HBL8.out.core.cell (j := 1) (u := .slice a2 n2 p2) rfl
                have a2' := HBL8.out.core.cell (j := 2) (u := .bool K.locked) rfl
                have a3' := HBL8.out.core.cell (j := 3) (u := .slice a3 n3 p3) rfl
                have b0' := BlkAt.cell h8 (j := 0) (u := .slice b1 m1 q1) rfl
                have b1' := BlkAt.cell h8 (j := 1) (u := .slice b2 m2 q2) rfl
                have b2' := BlkAt.cell h8 (j := 2) (u := .bool K.locked) rfl
                have b3' := BlkAt.cell h8 (j := 3) (u := .slice b3 m3 q3) rfl
                clear h8 k8 hb8 HBL7 HD7
                go_wp2_with fail
                refine (rSameYes K _ _ _ _ _ _ M M2 N N2 _ _ _ HBL8.out.cr HD8.out).mono ?_
                rintro e w9 ⟨rfl, hb9⟩
                have HL9 := Lib.hid (below_then HBL8.out.one.low hb9)
                clear hb9 HBL8 HD8 a0' a1' a2' a3' b0' b1' b2' b3'
                go_wp2_with fail
                refine (cWorks _).mono ?_
                rintro e w10 ⟨rfl, hb10⟩
                have HL10 := Lib.hid (below_then HL9.out hb10)
                clear hb10 HL9
                go_wp2
                go_ret
                exact ⟨rfl, HL10.out⟩
end Go.Proofs.Ytnnfmlbgoplnaaa
