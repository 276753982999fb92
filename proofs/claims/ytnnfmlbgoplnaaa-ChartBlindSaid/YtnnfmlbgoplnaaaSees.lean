/-
  fitted; ChartSees walked.
-/
import Derived.Test.YtnnfmlbgoplnaaaWk
set_option linter.unusedVariables false
set_option linter.unusedSimpArgs false
namespace Go.Proofs.Ytnnfmlbgoplnaaa
open Go Go.RowKit

theorem words_nat (c : Ch) : ∃ n : Nat, c.words = n ∧ n ≤ 4096 := by
  unfold Ch.words
  by_cases h : c.ok
  · rw [if_pos h]
    have := Ch.prod h
    obtain ⟨⟨o1, o2⟩, ⟨o3, o4⟩, _⟩ := h
    exact ⟨c.n.toNat, by unfold Ch.n; omega, by unfold Ch.n; omega⟩
  · rw [if_neg h]
    exact ⟨0, rfl, by omega⟩
theorem wordy_fn {n : Nat} {f : Nat → Int} (h : ∀ i, okW (f i)) : Wordy (fnL n f) := fun i => by
  by_cases hi : i < n
  · rw [fn_pk f hi]; exact h i
  · have : pk (fnL n f) i = 0 := by
      unfold pk
      rw [List.getD_eq_getElem?_getD, List.getElem?_eq_none (by rw [fn_len]; omega)]
      rfl
    rw [this]
    decide
set_option maxHeartbeats 4000000 in
set_option maxRecDepth 100000 in
theorem cFitted (u : Value) (l : List Int) (c : Ch) (hw : c.wf) (hy : Wordy l) (w : World) (hu : ShowU w u l) :
    Calls Try.prog 32 #[u, c.agg] w fun e w' => ∃ (g n : Nat) (m : List Int), e = .returned (.slice (some ⟨g, 0, none⟩) n n) ∧ ShowU w' (.slice (some ⟨g, 0, none⟩) n n) m ∧ m.length = n ∧ n ≤ 4096 ∧ Wordy m ∧ Below w.heap.size w w' := by
  obtain ⟨ao, cap, rfl, ⟨hc1, hc2⟩, hat⟩ := hu.form
  obtain ⟨n, hn, hn2⟩ := words_nat c
  have hW := fun w => dWords c hw w
  rw [hn] at hW
  have HW := Lib.hid hW
  obtain ⟨O, hO, hR⟩ := makeW n (by omega)
  have HR := Lib.hid hR
  have HAT := Lib.hid hat
  have HY := Lib.hid hy
  have hz0 : Hid (okW 0) := Lib.hid (by decide)
  have HB0 := Lib.hid (below_one (Below.refl w.heap.size w) (chO c))
  clear hR hat hy hu hW hn hw
  go_enter Try.func32, Try.ntmps32
  go_wp2_with fail
  refine (HW.out _).mono ?_
  rintro e w1 ⟨rfl, hb1⟩
  have HB1 := Lib.hid (below_then HB0.out hb1)
  have HG := Lib.hid HB1.out.size
  have HR1 : Hid (RowW (w1.alloc O) w1.heap.size n (fun _ => 0) ∧ Below w.heap.size w (w1.alloc O)) := Lib.hid ⟨HR.out w1, below_one HB1.out O⟩
  clear hb1 HB0 HR HW HB1
  go_wp2
  generalize w1.heap.size = g at *
  go_loopw [6] (fun x wr => ∃ (k : Nat) (f : Nat → Int), x = .int .i64 k ∧ k ≤ n ∧ k ≤ l.length ∧ Hid (RowW wr g n f ∧ (∀ j, okW (f j)) ∧ Below w.heap.size w wr)) (fun x _ => n - (intOf x).toNat)
  case atStart => exact ⟨0, _, rfl, by omega, by omega, Lib.hid ⟨HR1.out.1, fun _ => hz0.out, HR1.out.2⟩⟩
  case round =>
    clear HR1
    obtain ⟨k, f, rfl, hk, hkl, HX⟩ := hrel
    by_cases h1 : k < n
    · by_cases h2 : k < l.length
      · obtain ⟨b, o, rfl, c0⟩ := HAT.out k h2
        have d0 := cell_keep HX.out.2.2 c0
        have hcell := HX.out.1.cell h1
        have hfree := HX.out.1.free k
        have hkp : Kept (· = g) wr (wr.setCell ⟨g, k, none⟩ (.int .u64 (pk l k))) := Kept.setCell (S := (· = g)) (p := ⟨g, k, none⟩) (Kept.refl _ _) rfl _
        have HX2 := Lib.hid (And.intro (HX.out.1.set k (pk l k)) (And.intro (fun j => (by dsimp only; by_cases e : j = k; · rw [if_pos e]; exact HY.out k
                                                                                          · rw [if_neg e]; exact HX.out.2.1 j : okW ((fun j => if j = k then pk l k else f j) j))) (below_kept HX.out.2.2 hkp (by rintro k rfl; exact HG.out))))
        clear hkp HX c0
        generalize pk l k = y at *
        go_wp2
        go_roundw
        case rel => exact ⟨k + 1, _, by go_num, by omega, by omega, HX2⟩
        case measure => simp [intOf]; omega
      · go_wp2
        go_ret
        exact ⟨g, n, fnL n f, rfl, HX.out.1.shows (by omega), fn_len _ _, hn2, wordy_fn HX.out.2.1, HX.out.2.2⟩
    · obtain rfl : k = n := by omega
      go_wp2
      go_ret
      exact ⟨g, k, fnL k f, rfl, HX.out.1.shows (by omega), fn_len _ _, hn2, wordy_fn HX.out.2.1, HX.out.2.2⟩
/-- a row that is written over: only its room is known -/
def RowI (w : World) (g m : Nat) : Prop := ∃ c : Array Value, w.heap[g]? = some (.cells c 3 (0, 0)) ∧ m ≤ c.size
section
variable {w w' : World} {g m : Nat}
theorem RowI.free (h : RowI w g m) (j : Nat) : w.frozen? ⟨g, j, none⟩ = false := by
  obtain ⟨c, hb, _⟩ := h
  exact self_free hb j
theorem RowI.cell (h : RowI w g m) {j : Nat} (hj : j < m) : ∃ u, w.cell? ⟨g, j, none⟩ = some u := by
  obtain ⟨c, hb, hm⟩ := h
  exact ⟨c[j]'(by omega), self_cell hb j _ (Array.getElem?_eq_getElem _)⟩
theorem RowI.set (h : RowI w g m) (j : Nat) (u : Value) : RowI (w.setCell ⟨g, j, none⟩ u) g m := by
  obtain ⟨c, hb, hm⟩ := h
  exact ⟨_, cells_set hb j u, by simpa using hm⟩
theorem RowI.below (h : RowI w g m) (hb : Below w.heap.size w w') : RowI w' g m := by
  obtain ⟨c, h1, h2⟩ := h
  exact ⟨c, keep_block h1 hb, h2⟩
theorem RowI.keptC {k : Nat} {cs : Array Value} (h : RowI w g m) (hk : Kept (· = k) w w') (hb : BlkAt 40 w k cs) : RowI w' g m := by
  obtain ⟨c, h1, h2⟩ := h
  refine ⟨c, (hk.block g (lt_of_block h1) (fun e => ?_)).trans h1, h2⟩
  subst e
  have := h1.symm.trans hb
  cases this
theorem RowI.ne {k : Nat} {cs : Array Value} (h : RowI w g m) (hb : BlkAt 40 w k cs) : k ≠ g := by
  rintro rfl
  obtain ⟨c, h1, h2⟩ := h
  have := h1.symm.trans hb
  cases this
/-- a row of the call's own, or none -/
def ShRow (B : Nat) (w : World) (ao : Option Addr) (n : Nat) : Prop := n = 0 ∨ ∃ g, ao = some ⟨g, 0, none⟩ ∧ B ≤ g ∧ RowI w g n
theorem rowI_of {B n : Nat} {ao : Option Addr} {cap : Nat} {l : List Int} (h : OwnI B w (.slice ao n cap) l) : n = l.length ∧ ShRow B w ao n := by
  obtain ⟨h1, h2⟩ := h
  rcases h2 with ⟨e, h0⟩ | ⟨g, cp, cur, e, hb, hg, hn, _, hs, _⟩
  · cases e
    exact ⟨h0.symm, .inl rfl⟩
  · cases e
    exact ⟨rfl, .inr ⟨g, rfl, hb, cur, hg, by omega⟩⟩
end
theorem gives_inK {w w' : World} {K : Cr} {E : Int} {e : Ending} (h : GivesCr w (K, E) e w') : ∃ u1 u2 u3 M N, e = .returned (.tuple #[.agg #[u1, u2, .bool K.locked, u3], .int .i64 E]) ∧ CrIn w.heap.size w' K u1 u2 u3 M N ∧ Below w.heap.size w w' := gives_in h
set_option maxHeartbeats 16000000 in
set_option maxRecDepth 100000 in
theorem walkSees (u : Value) (l : List Int) (c : Ch) (hw : c.wf) (hy : Wordy l) (hlen : l.length ≤ 17592186044416) (W : World) (hu : ShowU W u l) :
    Calls Try.prog 4 #[u, c.agg] W fun e W' => e = .returned (.bool true) ∧ Below W.heap.size W W' := by
  have HU := Lib.hid hu
  obtain ⟨ao, cap, rfl, ⟨hc1, hc2⟩, hat⟩ := hu.form
  have HWF := Lib.hid hw
  have HY0 := Lib.hid hy
  have HT0 := Lib.hid (one_new W c)
  have HFT := Lib.hid (fun w' h => cFitted (.slice ao l.length cap) l c hw hy w' h)
  have HLE := Lib.hid hlen
  obtain ⟨r, hr⟩ : ∃ r, (l.length : Int) % 7 = r := ⟨_, rfl⟩
  obtain ⟨L, hL⟩ : ∃ L, l.length = L := ⟨_, rfl⟩
  rw [hL] at hr HU HFT ⊢
  have HLL := Lib.hid hL
  have hL2 : L ≤ 9223372036854775807 := by omega
  obtain ⟨c0, c1, c2, c3, c4, c5⟩ := HT0.out.at1.cells
  clear hw hy hlen hat hu hL hc1
  by_cases h3 : r = 3
  · have hr3 : (r != 3) = false := by rw [h3]; rfl
    have HM : Hid (ShowU (W.alloc (chO c)) (.slice ao L cap) l ∧ Wordy l ∧ l.length ≤ 17592186044416 ∧ l.length = L) := Lib.hid ⟨HU.out.below (below_one (Below.refl _ _) _), HY0.out, HLE.out, HLL.out⟩
    have HT : Hid (One W W.heap.size c (W.alloc (chO c))) := HT0
    clear h3 HU HY0 HLE HFT HT0 HLL
    generalize hmm : l = m at *
    clear hmm
    go_enter Try.func4, Try.ntmps4
    go_wp2_with (at_builtin; refine wpList_copyU (by rfl) _ _ (by rfl) (by rfl) _ m HM.out.1 (by rfl) HM.out.2.2.1 ?_; intro ao1 cp1 w3 ho3 hb3; have HC3 := Lib.hid (And.intro ho3 hb3); clear ho3 hb3; refine Stop.mk ?_)
    unfold Stop
    have HT3 := Lib.hid (HT.out.next HC3.out.2)
    have HU3 := Lib.hid (HM.out.1.below HC3.out.2)
    have HI3 : Hid (ShowU w3 (.slice ao1 m.length cp1) m) := Lib.hid (own_u HC3.out.1)
    have hSA := pSee _ m c HWF.out HM.out.2.1 w3 HI3.out
    have hSB := fun w' h => rSee (.slice ao L cap) m c HWF.out HM.out.2.1 w' h
    have hlm : m.length = L := HM.out.2.2.2
    rw [hlm] at hSA HI3 ⊢
    generalize see m c = KE at hSA hSB
    obtain ⟨K, E⟩ := KE
    have HSA := Lib.hid hSA
    have HSB := Lib.hid hSB
    clear HC3 HT HM hSA hSB hlm HWF
    obtain ⟨c0, c1, c2, c3, c4, c5⟩ := HT3.out.at1.cells
    go_wp2_with fail
    refine HSA.out.mono ?_
    rintro e w4 hg4
    obtain ⟨u1, u2, u3, M, N', rfl, hc4, hb4⟩ := gives_inK hg4
    obtain ⟨a1, n1, p1, rfl⟩ := hc4.slots.slice
    obtain ⟨a2, n2, p2, rfl⟩ := hc4.shelf.slice
    obtain ⟨a3, n3, p3, rfl⟩ := hc4.slabs.slice
    have HT4 := Lib.hid (HT3.out.next hb4)
    have HL4 := Lib.hid hb4
    have HC4 := Lib.hid hc4
    clear hg4 hc4 hb4 HSA c0 c1 c2 c3 c4 c5
    go_wp2_with (refine wpList_storeR rtCore (by rfl) _ _ (by rfl) w4.heap.size #[.slice a1 n1 p1, .slice a2 n2 p2, .bool K.locked, .slice a3 n3 p3] (by rfl) (by rfl) (by rfl) (by simp [Value.oneCell']) _ (heap_new w4 cr0) rfl ?_; intro w5 h5 k5; refine Stop.mk ?_)
    unfold Stop
    have hb5 := below_one_kept (below_one (Below.refl w4.heap.size w4) cr0) k5 (Nat.le_refl _)
    have HT5 := Lib.hid (HT4.out.next hb5)
    have HL5 := Lib.hid (below_then HL4.out hb5)
    have HC5 := Lib.hid (HC4.out.below hb5)
    have HB5 := Lib.hid h5
    clear h5 k5 hb5 HT4 HL4 HC4
    generalize w4.heap.size = gA at *
    obtain ⟨c0, c1, c2, c3, c4, c5⟩ := HT5.out.at1.cells
    go_wp2_with fail
    refine (HSB.out _ (HU3.out.below HL5.out)).mono ?_
    rintro e w6 hg6
    obtain ⟨v1, v2, v3, M2, N2, rfl, hd6, hb6⟩ := gives_inK hg6
    obtain ⟨b1, m1, q1, rfl⟩ := hd6.slots.slice
    obtain ⟨b2, m2, q2, rfl⟩ := hd6.shelf.slice
    obtain ⟨b3, m3, q3, rfl⟩ := hd6.slabs.slice
    have HL6 := Lib.hid (below_then HL5.out hb6)
    have HC6 := Lib.hid (HC5.out.below hb6)
    have HB6 := Lib.hid (BlkAt.below HB5.out hb6)
    have HD6 := Lib.hid hd6
    clear hg6 hd6 hb6 HSB HT5 HL5 HC5 HB5 c0 c1 c2 c3 c4 c5
    go_wp2_with (refine wpList_storeR rtCore (by rfl) _ _ (by rfl) w6.heap.size #[.slice b1 m1 q1, .slice b2 m2 q2, .bool K.locked, .slice b3 m3 q3] (by rfl) (by rfl) (by rfl) (by simp [Value.oneCell']) _ (heap_new w6 cr0) rfl ?_; intro w7 h7 k7; refine Stop.mk ?_)
    unfold Stop
    have hb7 := below_one_kept (below_one (Below.refl w6.heap.size w6) cr0) k7 (Nat.le_refl _)
    have HL7 := Lib.hid (below_then HL6.out hb7)
    have HC7 := Lib.hid (HC6.out.below hb7)
    have HD7 := Lib.hid (HD6.out.below hb7)
    have HB7 := Lib.hid (BlkAt.below HB6.out hb7)
    have a0' := HB7.out.cell (j := 0) (u := .slice a1 n1 p1) rfl
    have a1' := HB7.out.cell (j := 1) (u := .slice a2 n2 p2) rfl
    have a2' := HB7.out.cell (j := 2) (u := .bool K.locked) rfl
    have a3' := HB7.out.cell (j := 3) (u := .slice a3 n3 p3) rfl
    have b0' := BlkAt.cell h7 (j := 0) (u := .slice b1 m1 q1) rfl
    have b1' := BlkAt.cell h7 (j := 1) (u := .slice b2 m2 q2) rfl
    have b2' := BlkAt.cell h7 (j := 2) (u := .bool K.locked) rfl
    have b3' := BlkAt.cell h7 (j := 3) (u := .slice b3 m3 q3) rfl
    clear h7 k7 hb7 HL6 HC6 HD6 HB6
    go_wp2_with fail
    refine (rSameYes K _ _ _ _ _ _ M M2 N' N2 _ _ _ HC7.out HD7.out).mono ?_
    rintro e w8 ⟨rfl, hb8⟩
    have HL8 := Lib.hid (below_then HL7.out hb8)
    have HB8 := Lib.hid (BlkAt.below HB7.out hb8)
    have ho8 := HC7.out.shelf.below hb8
    have hr8 := (rowI_of ho8).2
    obtain ⟨_, _, hsl, hpa, hpb⟩ := own_shape ho8
    obtain ⟨-, hn2, hp2⟩ := Value.slice.inj hsl
    have hn2b : n2 ≤ 9223372036854775807 := by omega
    have HR8 := Lib.hid hr8
    clear hb8 HL7 HB7 HC7 HD7 a0' a1' a2' a3' b0' b1' b2' b3' ho8 hr8 hsl hpa hpb hn2 hp2
    go_wp2
    go_loopw [11] (fun x wr => ∃ k : Nat, x = .int .i64 k ∧ k ≤ n2 ∧ Hid (BlkAt 40 wr gA #[.slice a1 n1 p1, .slice a2 n2 p2, .bool K.locked, .slice a3 n3 p3] ∧ Below w3.heap.size w3 wr ∧ ShRow w3.heap.size wr a2 n2)) (fun x _ => n2 - (intOf x).toNat)
    case atStart => exact ⟨0, rfl, by omega, Lib.hid ⟨HB8.out, HL8.out, HR8.out⟩⟩
    case round =>
      clear HB8 HL8 HR8
      obtain ⟨k, rfl, hk, HX⟩ := hrel
      have d1 := HX.out.1.cell (j := 1) (u := .slice a2 n2 p2) rfl
      by_cases hlt : k < n2
      · rcases HX.out.2.2 with h0 | ⟨g2, rfl, hg, hrow⟩
        · omega
        · obtain ⟨x0, hx0⟩ := hrow.cell hlt
          have hfree := hrow.free k
          have hkp : Kept (· = g2) wr (wr.setCell ⟨g2, k, none⟩ (.int .i64 (-9))) := Kept.setCell (S := (· = g2)) (p := ⟨g2, k, none⟩) (Kept.refl _ _) rfl _
          have HX2 := Lib.hid (And.intro (BlkAt.kept HX.out.1 hkp (hrow.ne HX.out.1)) (And.intro (below_kept HX.out.2.1 hkp (by rintro k rfl; exact hg)) (hrow.set k (.int .i64 (-9)))))
          have HG := Lib.hid hg
          clear hkp hrow hg HX
          go_wp2
          go_roundw
          case rel => exact ⟨k + 1, by go_num, by omega, Lib.hid ⟨HX2.out.1, HX2.out.2.1, .inr ⟨g2, rfl, HG.out, HX2.out.2.2⟩⟩⟩
          case measure => simp [intOf]; omega
      · go_wp2_with fail
        refine (cEqWYes _ _ m m rfl _ (HI3.out.below HX.out.2.1) (HU3.out.below HX.out.2.1)).mono ?_
        rintro e w9 ⟨rfl, hb9⟩
        have HL9 := Lib.hid (below_then (below_then HT3.out.low HX.out.2.1) hb9)
        clear hb9 HX
        go_wp2_with fail
        refine (cWorks _).mono ?_
        rintro e w10 ⟨rfl, hb10⟩
        have HL10 := Lib.hid (below_then HL9.out hb10)
        clear hb10 HL9
        go_wp2
        go_ret
        exact ⟨rfl, HL10.out⟩
  · have hr3 : (r != 3) = true := by simpa using h3
    clear h3
    go_enter Try.func4, Try.ntmps4
    go_wp2_with fail
    refine (HFT.out _ (HU.out.below (below_one (Below.refl _ _) _))).mono ?_
    rintro e w1 ⟨g, N, m, rfl, hm1, hm2, hm3, hm4, hb1⟩
    have HM : Hid (ShowU w1 (.slice (some ⟨g, 0, none⟩) N N) m ∧ Wordy m ∧ m.length ≤ 17592186044416 ∧ m.length = N) := Lib.hid ⟨hm1, hm4, by omega, hm2⟩
    have HT := Lib.hid (HT0.out.next hb1)
    clear HU HY0 HLE HFT HT0 hm1 hm2 hm4 hb1 HLL c0 c1 c2 c3 c4 c5
    go_wp2_with (at_builtin; refine wpList_copyU (by rfl) _ _ (by rfl) (by rfl) _ m HM.out.1 (by rfl) HM.out.2.2.1 ?_; intro ao1 cp1 w3 ho3 hb3; have HC3 := Lib.hid (And.intro ho3 hb3); clear ho3 hb3; refine Stop.mk ?_)
    unfold Stop
    have HT3 := Lib.hid (HT.out.next HC3.out.2)
    have HU3 := Lib.hid (HM.out.1.below HC3.out.2)
    have HI3 : Hid (ShowU w3 (.slice ao1 m.length cp1) m) := Lib.hid (own_u HC3.out.1)
    have hSA := pSee _ m c HWF.out HM.out.2.1 w3 HI3.out
    have hSB := fun w' h => rSee (.slice (some ⟨g, 0, none⟩) N N) m c HWF.out HM.out.2.1 w' h
    have hlm : m.length = N := HM.out.2.2.2
    rw [hlm] at hSA HI3 ⊢
    generalize see m c = KE at hSA hSB
    obtain ⟨K, E⟩ := KE
    have HSA := Lib.hid hSA
    have HSB := Lib.hid hSB
    clear HC3 HT HM hSA hSB hlm HWF
    obtain ⟨c0, c1, c2, c3, c4, c5⟩ := HT3.out.at1.cells
    go_wp2_with fail
    refine HSA.out.mono ?_
    rintro e w4 hg4
    obtain ⟨u1, u2, u3, M, N', rfl, hc4, hb4⟩ := gives_inK hg4
    obtain ⟨a1, n1, p1, rfl⟩ := hc4.slots.slice
    obtain ⟨a2, n2, p2, rfl⟩ := hc4.shelf.slice
    obtain ⟨a3, n3, p3, rfl⟩ := hc4.slabs.slice
    have HT4 := Lib.hid (HT3.out.next hb4)
    have HL4 := Lib.hid hb4
    have HC4 := Lib.hid hc4
    clear hg4 hc4 hb4 HSA c0 c1 c2 c3 c4 c5
    go_wp2_with (refine wpList_storeR rtCore (by rfl) _ _ (by rfl) w4.heap.size #[.slice a1 n1 p1, .slice a2 n2 p2, .bool K.locked, .slice a3 n3 p3] (by rfl) (by rfl) (by rfl) (by simp [Value.oneCell']) _ (heap_new w4 cr0) rfl ?_; intro w5 h5 k5; refine Stop.mk ?_)
    unfold Stop
    have hb5 := below_one_kept (below_one (Below.refl w4.heap.size w4) cr0) k5 (Nat.le_refl _)
    have HT5 := Lib.hid (HT4.out.next hb5)
    have HL5 := Lib.hid (below_then HL4.out hb5)
    have HC5 := Lib.hid (HC4.out.below hb5)
    have HB5 := Lib.hid h5
    clear h5 k5 hb5 HT4 HL4 HC4
    generalize w4.heap.size = gA at *
    obtain ⟨c0, c1, c2, c3, c4, c5⟩ := HT5.out.at1.cells
    go_wp2_with fail
    refine (HSB.out _ (HU3.out.below HL5.out)).mono ?_
    rintro e w6 hg6
    obtain ⟨v1, v2, v3, M2, N2, rfl, hd6, hb6⟩ := gives_inK hg6
    obtain ⟨b1, m1, q1, rfl⟩ := hd6.slots.slice
    obtain ⟨b2, m2, q2, rfl⟩ := hd6.shelf.slice
    obtain ⟨b3, m3, q3, rfl⟩ := hd6.slabs.slice
    have HL6 := Lib.hid (below_then HL5.out hb6)
    have HC6 := Lib.hid (HC5.out.below hb6)
    have HB6 := Lib.hid (BlkAt.below HB5.out hb6)
    have HD6 := Lib.hid hd6
    clear hg6 hd6 hb6 HSB HT5 HL5 HC5 HB5 c0 c1 c2 c3 c4 c5
    go_wp2_with (refine wpList_storeR rtCore (by rfl) _ _ (by rfl) w6.heap.size #[.slice b1 m1 q1, .slice b2 m2 q2, .bool K.locked, .slice b3 m3 q3] (by rfl) (by rfl) (by rfl) (by simp [Value.oneCell']) _ (heap_new w6 cr0) rfl ?_; intro w7 h7 k7; refine Stop.mk ?_)
    unfold Stop
    have hb7 := below_one_kept (below_one (Below.refl w6.heap.size w6) cr0) k7 (Nat.le_refl _)
    have HL7 := Lib.hid (below_then HL6.out hb7)
    have HC7 := Lib.hid (HC6.out.below hb7)
    have HD7 := Lib.hid (HD6.out.below hb7)
    have HB7 := Lib.hid (BlkAt.below HB6.out hb7)
    have a0' := HB7.out.cell (j := 0) (u := .slice a1 n1 p1) rfl
    have a1' := HB7.out.cell (j := 1) (u := .slice a2 n2 p2) rfl
    have a2' := HB7.out.cell (j := 2) (u := .bool K.locked) rfl
    have a3' := HB7.out.cell (j := 3) (u := .slice a3 n3 p3) rfl
    have b0' := BlkAt.cell h7 (j := 0) (u := .slice b1 m1 q1) rfl
    have b1' := BlkAt.cell h7 (j := 1) (u := .slice b2 m2 q2) rfl
    have b2' := BlkAt.cell h7 (j := 2) (u := .bool K.locked) rfl
    have b3' := BlkAt.cell h7 (j := 3) (u := .slice b3 m3 q3) rfl
    clear h7 k7 hb7 HL6 HC6 HD6 HB6
    go_wp2_with fail
    refine (rSameYes K _ _ _ _ _ _ M M2 N' N2 _ _ _ HC7.out HD7.out).mono ?_
    rintro e w8 ⟨rfl, hb8⟩
    have HL8 := Lib.hid (below_then HL7.out hb8)
    have HB8 := Lib.hid (BlkAt.below HB7.out hb8)
    have ho8 := HC7.out.shelf.below hb8
    have hr8 := (rowI_of ho8).2
    obtain ⟨_, _, hsl, hpa, hpb⟩ := own_shape ho8
    obtain ⟨-, hn2, hp2⟩ := Value.slice.inj hsl
    have hn2b : n2 ≤ 9223372036854775807 := by omega
    have HR8 := Lib.hid hr8
    clear hb8 HL7 HB7 HC7 HD7 a0' a1' a2' a3' b0' b1' b2' b3' ho8 hr8 hsl hpa hpb hn2 hp2
    go_wp2
    go_loopw [11] (fun x wr => ∃ k : Nat, x = .int .i64 k ∧ k ≤ n2 ∧ Hid (BlkAt 40 wr gA #[.slice a1 n1 p1, .slice a2 n2 p2, .bool K.locked, .slice a3 n3 p3] ∧ Below w3.heap.size w3 wr ∧ ShRow w3.heap.size wr a2 n2)) (fun x _ => n2 - (intOf x).toNat)
    case atStart => exact ⟨0, rfl, by omega, Lib.hid ⟨HB8.out, HL8.out, HR8.out⟩⟩
    case round =>
      clear HB8 HL8 HR8
      obtain ⟨k, rfl, hk, HX⟩ := hrel
      have d1 := HX.out.1.cell (j := 1) (u := .slice a2 n2 p2) rfl
      by_cases hlt : k < n2
      · rcases HX.out.2.2 with h0 | ⟨g2, rfl, hg, hrow⟩
        · omega
        · obtain ⟨x0, hx0⟩ := hrow.cell hlt
          have hfree := hrow.free k
          have hkp : Kept (· = g2) wr (wr.setCell ⟨g2, k, none⟩ (.int .i64 (-9))) := Kept.setCell (S := (· = g2)) (p := ⟨g2, k, none⟩) (Kept.refl _ _) rfl _
          have HX2 := Lib.hid (And.intro (BlkAt.kept HX.out.1 hkp (hrow.ne HX.out.1)) (And.intro (below_kept HX.out.2.1 hkp (by rintro k rfl; exact hg)) (hrow.set k (.int .i64 (-9)))))
          have HG := Lib.hid hg
          clear hkp hrow hg HX
          go_wp2
          go_roundw
          case rel => exact ⟨k + 1, by go_num, by omega, Lib.hid ⟨HX2.out.1, HX2.out.2.1, .inr ⟨g2, rfl, HG.out, HX2.out.2.2⟩⟩⟩
          case measure => simp [intOf]; omega
      · go_wp2_with fail
        refine (cEqWYes _ _ m m rfl _ (HI3.out.below HX.out.2.1) (HU3.out.below HX.out.2.1)).mono ?_
        rintro e w9 ⟨rfl, hb9⟩
        have HL9 := Lib.hid (below_then (below_then HT3.out.low HX.out.2.1) hb9)
        clear hb9 HX
        go_wp2_with fail
        refine (cWorks _).mono ?_
        rintro e w10 ⟨rfl, hb10⟩
        have HL10 := Lib.hid (below_then HL9.out hb10)
        clear hb10 HL9
        go_wp2
        go_ret
        exact ⟨rfl, HL10.out⟩
end Go.Proofs.Ytnnfmlbgoplnaaa
