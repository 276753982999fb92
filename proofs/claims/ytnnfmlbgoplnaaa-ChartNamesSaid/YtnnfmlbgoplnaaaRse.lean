/-
  See of the document.
-/
import Derived.Test.YtnnfmlbgoplnaaaRow
set_option linter.unusedVariables false
set_option linter.unusedSimpArgs false
namespace Go.Proofs.Ytnnfmlbgoplnaaa
open Go Go.RowKit

abbrev zCrC : Array Value := #[.slice none 0 0, .slice none 0 0, .bool false, .slice none 0 0]
abbrev cr0 : Obj := .cells #[.slice none 0 0, .slice none 0 0, .bool false, .slice none 0 0] 40
/-- a core that is answered -/
def GivesCr (w : World) (r : Cr × Int) (e : Ending) (w' : World) : Prop := ∃ (u1 u2 u3 : Value) (M : List SlV) (N : List SbV), e = .returned (.tuple #[.agg #[u1, u2, .bool r.1.locked, u3], .int .i64 r.2]) ∧ OwnSl w.heap.size w' u1 M ∧ M.map (·.1) = r.1.slots ∧
  OwnI w.heap.size w' u2 r.1.shelf ∧ OwnSb w.heap.size w' u3 N ∧ N.map (·.1) = r.1.slabs ∧ Below w.heap.size w w'
theorem gives_zcr {w w' : World} (hb : Below w.heap.size w w') (x : Int) : GivesCr w (zCr, x) (.returned (.tuple #[.agg zCrC, .int .i64 x])) w' := ⟨_, _, _, [], [], rfl, OwnSl.nil _ _, rfl, OwnI.nil _ _, OwnSb.nil _ _, rfl, hb⟩
theorem res_core {tmps : Array Value} {K : Nat} {w : World} {a b c d : Value} {e : Int} (h4 : tmps.getD 4 undef = .pointer (some ⟨K, 0, none⟩)) (h5 : tmps.getD 5 undef = .int .i64 e) (hb : BlkAt 40 w K #[a, b, c, d]) :
    (results Try.f34 tmps).run Try.prog w = .ok (.tuple #[.agg #[a, b, c, d], .int .i64 e]) w := by
  have c0 := hb.cell (j := 0) rfl
  have c1 := hb.cell (j := 1) rfl
  have c2 := hb.cell (j := 2) rfl
  have c3 := hb.cell (j := 3) rfl
  rw [Array.getD_eq_getD_getElem?] at h4 h5
  simp [results, Try.f34, h4, h5, c0, c1, c2, c3, go_sem]
/-- the chart and the result, in a world above another one -/
structure Cw (W : World) (c : Ch) (w : World) : Prop where
  at1 : ChAt w W.heap.size c
  at2 : BlkAt 40 w (W.heap.size + 1) zCrC
  low : Below W.heap.size W w
  sz : W.heap.size + 2 ≤ w.heap.size
section
variable {W w w' : World} {c : Ch} {g : Nat} {cs : Array Value} {Ts : List TypeId}
theorem Cw.next (h : Cw W c w) (hb : Below w.heap.size w w') : Cw W c w' := ⟨h.at1.below hb, h.at2.below hb, below_then h.low hb, Nat.le_trans h.sz hb.size⟩
theorem Cw.kept (h : Cw W c w) (hk : Kept (· = g) w w') (hg : W.heap.size + 2 ≤ g) : Cw W c w' :=
  ⟨BlkAt.kept h.at1 hk (by omega), BlkAt.kept h.at2 hk (by omega), below_kept h.low hk (by rintro k rfl; omega), Nat.le_trans h.sz hk.size⟩
theorem Cw.turn {o : Obj} (h : Cw W c w) (hk : KT Ts (w.alloc o) w') (hb : Below W.heap.size w w') (h1 : 24 ∉ Ts) (h2 : 40 ∉ Ts) : Cw W c w' := by
  have h' := h.next (below_one (Below.refl _ _) o)
  exact ⟨hk.blk h'.at1 h1, hk.blk h'.at2 h2, h.low.trans hb, Nat.le_trans h.sz hb.size⟩
theorem Cw.one (h : Cw W c w) : One W W.heap.size c w := ⟨h.at1, h.low⟩
theorem cw_new (W : World) (c : Ch) : Cw W c ((W.alloc (chO c)).alloc cr0) := ⟨heap_low2 _ _ _, heap_new2 _ _ _, below_one (below_one (Below.refl _ _) _) _, by rw [size_alloc, size_alloc]; omega⟩
theorem OwnI.keptC {B : Nat} {v : Value} {l : List Int} (h : OwnI B w v l) (hk : Kept (· = g) w w') (hb : BlkAt 40 w g cs) : OwnI B w' v l := own_kept h hk hb intCore
theorem OwnSl.keptC {B : Nat} {v : Value} {M : List SlV} (h : OwnSl B w v M) (hk : Kept (· = g) w w') (hb : BlkAt 40 w g cs) : OwnSl B w' v M := h.turn (KT.one hk hb) (by simp) (by simp)
theorem OwnSb.keptC {B : Nat} {v : Value} {M : List SbV} (h : OwnSb B w v M) (hk : Kept (· = g) w w') (hb : BlkAt 40 w g cs) : OwnSb B w' v M := h.turn (KT.one hk hb) (by simp) (by simp)
theorem OwnSl.le {B B' : Nat} {v : Value} {M : List SlV} (h : OwnSl B w v M) (hB : B' ≤ B) : OwnSl B' w v M := by
  refine ⟨⟨h.1.1, ?_⟩, fun x hx => ⟨(h.2 x hx).1.le hB, (h.2 x hx).2.le hB⟩⟩
  rcases h.1.2 with e | ⟨r, cp, cur, e, hb, hr⟩
  · exact .inl e
  · exact .inr ⟨r, cp, cur, e, Nat.le_trans hB hb, hr⟩
theorem OwnSl.slice {B : Nat} {v : Value} {M : List SlV} (h : OwnSl B w v M) : ∃ ao n cp, v = .slice ao n cp := by
  obtain ⟨a, c, rfl, _⟩ := own_shape h.1
  exact ⟨_, _, _, rfl⟩
theorem OwnSb.slice {B : Nat} {v : Value} {M : List SbV} (h : OwnSb B w v M) : ∃ ao n cp, v = .slice ao n cp := by
  obtain ⟨a, c, rfl, _⟩ := own_shape h.1
  exact ⟨_, _, _, rfl⟩
end
/-! what is seen, by its parts -/
section
variable {l : List Int} {c : Ch}
theorem see_no (h : ¬ (c.ok ∧ (l.length : Int) = c.n)) : see l c = (zCr, 2) := if_neg h
theorem see_slot {n : Nat} (h : c.ok ∧ (l.length : Int) = c.n) (hn : (n : Int) < c.cpus) (he : slotE l c n = false) : see l c = (zCr, 150) := by
  unfold see seeF
  rw [if_pos h, if_neg]
  rintro ⟨h1, _⟩
  have := allB_iff.1 h1 n (by omega)
  rw [he] at this
  cases this
theorem see_shelf (h : c.ok ∧ (l.length : Int) = c.n) (he : (shelfF l c).2 ≠ 0) : see l c = (zCr, 150) := by
  unfold see seeF
  rw [if_pos h, if_neg]
  rintro ⟨_, h1, _⟩
  exact he h1
theorem see_slab {n : Nat} (h : c.ok ∧ (l.length : Int) = c.n) (hn : (n : Int) < c.slabs) (he : slabE l c n = false) : see l c = (zCr, 150) := by
  unfold see seeF
  rw [if_pos h, if_neg]
  rintro ⟨_, _, h1⟩
  have := allB_iff.1 h1 n (by omega)
  rw [he] at this
  cases this
theorem see_yes (h : c.ok ∧ (l.length : Int) = c.n) (h1 : ∀ n : Nat, (n : Int) < c.cpus → slotE l c n = true) (h2 : (shelfF l c).2 = 0) (h3 : ∀ n : Nat, (n : Int) < c.slabs → slabE l c n = true) : see l c = (coreV l c, 0) := by
  unfold see seeF
  rw [if_pos h, if_pos]
  exact ⟨allB_iff.2 fun i hi => h1 i (by omega), h2, allB_iff.2 fun i hi => h3 i (by omega)⟩
theorem lock_at (ho : c.ok) : ∃ P : Nat, 4 * c.cpus = P ∧ (P : Int) + 3 < c.n ∧ c.lock = P := by
  have hp := Ch.prod ho
  have ho' := ho
  obtain ⟨⟨o1, o2⟩, ⟨o3, o4⟩, ⟨o5, o6⟩, _⟩ := ho
  refine ⟨(4 * c.cpus).toNat, by omega, by unfold Ch.n; omega, ?_⟩
  unfold Ch.lock
  rw [Ch.at_yes ho']
  omega
end
theorem map_range_succ {α : Type} (f : Nat → α) (n : Nat) : (List.range n).map f ++ [f n] = (List.range (n + 1)).map f := by rw [List.range_succ, List.map_append]; rfl
set_option maxHeartbeats 8000000 in
set_option maxRecDepth 100000 in
theorem rSeeBad (u : Value) (l : List Int) (c : Ch) (hw : c.wf) (h : ¬ (c.ok ∧ (l.length : Int) = c.n)) (w : World) (hu : ShowU w u l) :
    Calls Try.prog 34 #[u, c.agg] w (GivesCr w (see l c)) := by
  obtain ⟨ao, cap, rfl, ⟨hc1, hc2⟩, hat⟩ := hu.form
  have HS0 := Lib.hid (cw_new w c)
  obtain ⟨R, hR⟩ : ∃ R, see l c = R := ⟨_, rfl⟩
  rw [hR]
  have HR := Lib.hid hR
  have hC := fun w => dCheck c hw w
  have HN := Lib.hid h
  by_cases ho : c.ok
  · have hne : ¬ (l.length : Int) = c.n := fun e => h ⟨ho, e⟩
    have hW := fun w => dWords c hw w
    rw [show c.words = c.n from if_pos ho] at hW
    rw [Ch.chk_yes ho] at hC
    have HC := Lib.hid hC
    have HW := Lib.hid hW
    have hne2 : ((l.length : Int) != c.n) = true := by simpa using hne
    have hne3 : decide ((l.length : Int) = c.n) = false := decide_eq_false hne
    clear hC hW hR hat hu h ho hne hw
    go_enter Try.func34, Try.ntmps34
    go_wp2_with fail
    refine (HC.out _).mono ?_
    rintro e w1 ⟨rfl, hb1⟩
    have HS1 := Lib.hid (HS0.out.next hb1)
    clear hb1 HS0 HC
    obtain ⟨f0, f1, f2, f3, f4, f5, _⟩ := HS1.out.one.six
    go_wp2_with fail
    refine (HW.out _).mono ?_
    rintro e w2 ⟨rfl, hb2⟩
    have HS2 := Lib.hid (HS1.out.next hb2)
    clear hb2 HS1 HW f0 f1 f2 f3 f4 f5
    obtain rfl : R = (zCr, 2) := by rw [← HR.out]; exact see_no HN.out
    clear HR
    go_wp2_with (refine wpList_storeR rtCore (by rfl) _ _ (by rfl) (w.heap.size + 1) zCrC (by rfl) (by rfl) (by rfl) (by simp [Value.oneCell']) _ HS2.out.at2 rfl ?_; intro w3 h3 k3)
    exact bodyPost_ret (res_core rfl rfl h3) rfl (gives_zcr (below_kept HS2.out.low k3 (by rintro k rfl; omega)) _)
  · rw [Ch.chk_no ho] at hC
    have HC := Lib.hid hC
    clear hC hR hat hu h ho hw
    go_enter Try.func34, Try.ntmps34
    go_wp2_with fail
    refine (HC.out _).mono ?_
    rintro e w1 ⟨rfl, hb1⟩
    have HS1 := Lib.hid (HS0.out.next hb1)
    clear hb1 HS0 HC
    obtain rfl : R = (zCr, 2) := by rw [← HR.out]; exact see_no HN.out
    clear HR
    go_wp2_with (refine wpList_storeR rtCore (by rfl) _ _ (by rfl) (w.heap.size + 1) zCrC (by rfl) (by rfl) (by rfl) (by simp [Value.oneCell']) _ HS1.out.at2 rfl ?_; intro w3 h3 k3)
    exact bodyPost_ret (res_core rfl rfl h3) rfl (gives_zcr (below_kept HS1.out.low k3 (by rintro k rfl; omega)) _)
set_option maxHeartbeats 16000000 in
set_option maxRecDepth 100000 in
theorem rSeeOk (u : Value) (l : List Int) (c : Ch) (hw : c.wf) (h : c.ok ∧ (l.length : Int) = c.n) (hy : Wordy l) (w : World) (hu : ShowU w u l) :
    Calls Try.prog 34 #[u, c.agg] w (GivesCr w (see l c)) := by
  have HU := Lib.hid hu
  obtain ⟨ao, cap, rfl, ⟨hc1, hc2⟩, hat⟩ := hu.form
  have HS0 := Lib.hid (cw_new w c)
  obtain ⟨R, hR⟩ : ∃ R, see l c = R := ⟨_, rfl⟩
  rw [hR]
  have HR := Lib.hid hR
  have H := Lib.hid h
  have hC := fun w => dCheck c hw w
  have hW := fun w => dWords c hw w
  rw [show c.words = c.n from if_pos h.1, ← h.2] at hW
  rw [Ch.chk_yes h.1] at hC
  have HC := Lib.hid hC
  have HW := Lib.hid hW
  obtain ⟨P, hP, hPn, hlk⟩ := lock_at h.1
  have hLk := fun w => dLock c hw w
  rw [hlk] at hLk
  have HL := Lib.hid hLk
  have hPl : (P : Int) < (l.length : Int) := by have := h.2; omega
  have hP0 : (0 : Int) ≤ (P : Int) := by omega
  obtain ⟨b0, q0, rfl, g0⟩ := hat P (by omega)
  have HG := Lib.hid g0
  have hlkv : decide (pk l (4 * c.cpus).toNat ≠ 0) = (pk l P != 0) := by rw [hP, Int.toNat_natCast]; by_cases e : pk l P = 0 <;> simp [e]
  have HLV := Lib.hid hlkv
  have HSl : Hid (∀ (n : Nat) w', (n : Int) < c.cpus → ShowU w' (.slice (some ⟨b0, q0, none⟩) l.length cap) l → Calls Try.prog 52 #[.slice (some ⟨b0, q0, none⟩) l.length cap, c.agg, .int .i64 n] w' (GivesSl w' (slR l c n))) := Lib.hid (fun n w' hn h' => rSlot _ l c hw h.1 h.2 hy n (by omega) hn w' h')
  have HSb : Hid (∀ (n : Nat) w', (n : Int) < c.slabs → ShowU w' (.slice (some ⟨b0, q0, none⟩) l.length cap) l → Calls Try.prog 54 #[.slice (some ⟨b0, q0, none⟩) l.length cap, c.agg, .int .i64 n] w' (GivesSb w' (sbR l c n))) := Lib.hid (fun n w' hn h' => rSlab _ l c hw h.1 h.2 hy n (by omega) hn w' h')
  have HSh : Hid (∀ w', ShowU w' (.slice (some ⟨b0, q0, none⟩) l.length cap) l → Calls Try.prog 53 #[.slice (some ⟨b0, q0, none⟩) l.length cap, c.agg] w' (Gives w' (shelfF l c))) := Lib.hid (fun w' h' => rShelf _ l c hw h.1 h.2 hy w' h')
  have hshe : (shelfF l c).2 = 0 ∨ shelfF l c = ([], 150) := shF_err _ _ _ _ _
  have HSE := Lib.hid hshe
  obtain ⟨⟨o1, o2⟩, ⟨o3, o4⟩, _⟩ := h.1
  generalize pk l P = x0 at *
  obtain ⟨lk, hlk2⟩ : ∃ lk, (x0 != 0) = lk := ⟨_, rfl⟩
  rw [hlk2] at HLV
  clear hC hW hR hat hu h hw hy hLk hlkv hshe g0 hP hPn hlk
  go_enter Try.func34, Try.ntmps34
  go_wp2_with fail
  refine (HC.out _).mono ?_
  rintro e w1 ⟨rfl, hb1⟩
  have HS1 := Lib.hid (HS0.out.next hb1)
  clear hb1 HS0 HC
  obtain ⟨f0, f1, f2, f3, f4, f5, _⟩ := HS1.out.one.six
  go_wp2_with fail
  refine (HW.out _).mono ?_
  rintro e w2 ⟨rfl, hb2⟩
  have HS2 := Lib.hid (HS1.out.next hb2)
  clear hb2 HS1 HW f0 f1 f2 f3 f4 f5
  obtain ⟨f0, f1, f2, f3, f4, f5, _⟩ := HS2.out.one.six
  go_wp2_with fail
  refine (HL.out _).mono ?_
  rintro e w3 ⟨rfl, hb3⟩
  have HS3 := Lib.hid (HS2.out.next hb3)
  have d0 := cell_keep HS3.out.low HG.out
  clear hb3 HS2 HL HG f0 f1 f2 f3 f4 f5
  go_wp2_with (refine wpList_storeR rtCore (by rfl) _ _ (by rfl) w3.heap.size #[.slice none 0 0, .slice none 0 0, .bool lk, .slice none 0 0] (by rfl) (by rfl) (by rfl) (by simp [Value.oneCell']) _ (heap_new w3 cr0) rfl ?_; intro w4 h4 k4; refine Stop.mk ?_)
  unfold Stop
  have HS4 := Lib.hid ((HS3.out.next (below_one (Below.refl _ _) cr0)).kept k4 HS3.out.sz)
  have HB4 := Lib.hid h4
  have HJ := Lib.hid HS3.out.sz
  clear h4 k4 HS3 d0 hlk2 hPl hP0
  generalize w3.heap.size = J at *
  go_wp2
  go_loopw [7] (fun i wr => ∃ (n : Nat) (ao1 : Option Addr) (m1 cp1 : Nat) (M : List SlV), i = .int .i64 n ∧ (n : Int) ≤ c.cpus ∧ Hid (∀ j : Nat, j < n → slotE l c j = true) ∧ Hid (BlkAt 40 wr J #[.slice ao1 m1 cp1, .slice none 0 0, .bool lk, .slice none 0 0] ∧ OwnSl w.heap.size wr (.slice ao1 m1 cp1) M ∧ M.map (·.1) = (List.range n).map (fun j : Nat => slotV l c (j : Int)) ∧ Cw w c wr)) (fun i _ => c.cpus.toNat - (intOf i).toNat)
  case atStart => exact ⟨0, none, 0, 0, [], rfl, by omega, Lib.hid (fun j hj => by omega), Lib.hid ⟨HB4.out, OwnSl.nil _ _, rfl, HS4.out⟩⟩
  case round =>
    clear HB4 HS4
    obtain ⟨n, ao1, m1, cp1, M, rfl, hn, HOK, HX⟩ := hrel
    obtain ⟨f0, f1, f2, f3, f4, f5, _⟩ := HX.out.2.2.2.one.six
    by_cases hlt : (n : Int) < c.cpus
    · have HLT := Lib.hid hlt
      have hM := HSl.out n wr hlt (HU.out.below HX.out.2.2.2.low)
      cases he : slotE l c n with
      | false =>
        rw [show slR l c n = (zSl, 150) by unfold slR; rw [he]; rfl] at hM
        have HM := Lib.hid hM
        have HE := Lib.hid he
        clear hM he
        go_wp2_with fail
        refine HM.out.mono ?_
        rintro e w5 ⟨U, V, rfl, hoU, hoV, hb5⟩
        obtain ⟨a5, n5, p5, rfl⟩ := hoU.slice
        obtain ⟨a6, n6, p6, rfl⟩ := hoV.slice
        have HS5 := Lib.hid (HX.out.2.2.2.next hb5)
        clear hoU hoV hb5 HM HX f0 f1 f2 f3 f4 f5
        go_wp2_with (refine wpList_storeR rtSlot (by rfl) _ _ (by rfl) w5.heap.size #[.int .i64 zSl.slab, .slice a5 n5 p5, .int .u64 zSl.turn, .slice a6 n6 p6] (by rfl) (by rfl) (by rfl) (by simp [Value.oneCell']) _ (heap_new w5 sl0) rfl ?_; intro w6 h6 k6; refine Stop.mk ?_)
        unfold Stop
        have HS6 := Lib.hid (HS5.out.next (below_one_kept (below_one (Below.refl w5.heap.size w5) sl0) k6 (Nat.le_refl _)))
        clear h6 k6 HS5
        obtain rfl : R = (zCr, 150) := by rw [← HR.out]; exact see_slot H.out HLT.out HE.out
        clear HR
        go_wp2_with (refine wpList_storeR rtCore (by rfl) _ _ (by rfl) (w.heap.size + 1) zCrC (by rfl) (by rfl) (by rfl) (by simp [Value.oneCell']) _ HS6.out.at2 rfl ?_; intro w7 h7 k7; refine Stop.mk ?_)
        unfold Stop
        go_wp2
        try rw [Exit.noGoto_ret]
        exact bodyPost_ret (res_core rfl rfl h7) rfl (gives_zcr (below_kept HS6.out.low k7 (by rintro k rfl; omega)) _)
      | true =>
        rw [show slR l c n = (slotV l c n, 0) by unfold slR; rw [he]; rfl] at hM
        have hrange := map_range_succ (fun j : Nat => slotV l c (j : Int)) n
        generalize hsv : slotV l c n = sv at hM hrange
        have HRG := Lib.hid hrange
        have HM := Lib.hid hM
        have HOK2 : Hid (∀ j : Nat, j < n + 1 → slotE l c j = true) := Lib.hid (fun j hj => by
          by_cases e : j = n
          · subst e; exact he
          · exact HOK.out j (by omega))
        have hml : M.length = n := by
          have := congrArg List.length HX.out.2.2.1
          simpa using this
        have hlen : M.length ≤ 1000 := by rw [hml]; omega
        clear hM he hrange hsv HOK hml
        go_wp2_with fail
        refine HM.out.mono ?_
        rintro e w5 ⟨U, V, rfl, hoU, hoV, hb5⟩
        obtain ⟨a5, n5, p5, rfl⟩ := hoU.slice
        obtain ⟨a6, n6, p6, rfl⟩ := hoV.slice
        have HX5 := Lib.hid (And.intro (BlkAt.below HX.out.1 hb5) (And.intro (HX.out.2.1.below hb5) (And.intro HX.out.2.2.1 (HX.out.2.2.2.next hb5))))
        have HO5 := Lib.hid (And.intro (OwnI.le hoU HX.out.2.2.2.low.size) (OwnI.le hoV HX.out.2.2.2.low.size))
        clear hoU hoV hb5 HM HX f0 f1 f2 f3 f4 f5
        go_wp2_with (refine wpList_storeR rtSlot (by rfl) _ _ (by rfl) w5.heap.size #[.int .i64 sv.slab, .slice a5 n5 p5, .int .u64 sv.turn, .slice a6 n6 p6] (by rfl) (by rfl) (by rfl) (by simp [Value.oneCell']) _ (heap_new w5 sl0) rfl ?_; intro w6 h6 k6; refine Stop.mk ?_)
        unfold Stop
        have hb6 := below_one_kept (below_one (Below.refl w5.heap.size w5) sl0) k6 (Nat.le_refl _)
        have HX6 := Lib.hid (And.intro (BlkAt.below HX5.out.1 hb6) (And.intro (HX5.out.2.1.below hb6) (And.intro HX5.out.2.2.1 (HX5.out.2.2.2.next hb6))))
        have HO6 := Lib.hid (And.intro (HO5.out.1.below hb6) (HO5.out.2.below hb6))
        have c0 := BlkAt.cell h6 (j := 0) rfl
        have c1 := BlkAt.cell h6 (j := 1) rfl
        have c2 := BlkAt.cell h6 (j := 2) rfl
        have c3 := BlkAt.cell h6 (j := 3) rfl
        have e0 := HX6.out.1.cell (j := 0) (u := .slice ao1 m1 cp1) rfl
        have hJ2 := HJ.out
        have hsz6 := HX6.out.2.2.2.low.size
        clear h6 k6 hb6 HX5 HO5
        go_wp2_with (at_builtin; refine wpList_appendSl (by rfl) _ _ (by rfl) w.heap.size (.slice ao1 m1 cp1) M (sv, .slice a5 n5 p5, .slice a6 n6 p6) (by rfl) (by rfl) HX6.out.2.1 HO6.out hlen hsz6 ?_; intro ao7 cp7 w7 ho7 hkt7 hb7; refine Stop.mk ?_)
        unfold Stop
        have HB7 := Lib.hid (hkt7.blk (BlkAt.below HX6.out.1 (below_one (Below.refl _ _) _)) (by simp))
        have HC7 := Lib.hid (HX6.out.2.2.2.turn hkt7 hb7 (by simp) (by simp))
        have HO7 := Lib.hid ho7
        have HQ := Lib.hid HX6.out.2.2.1
        clear ho7 hkt7 hb7 HX6 HO6 c0 c1 c2 c3 e0 hsz6
        go_wp2_with (refine wpList_storeSl (by rfl) _ _ (by rfl) J 0 (.slice ao7 (M.length + 1) cp7) (by rfl) (by rfl) ⟨_, _, _, rfl⟩ _ HB7.out (by simp) ?_; intro w8 h8 k8; refine Stop.mk ?_)
        unfold Stop
        have HX8 : Hid (BlkAt 40 w8 J #[.slice ao7 (M.length + 1) cp7, .slice none 0 0, .bool lk, .slice none 0 0] ∧ OwnSl w.heap.size w8 (.slice ao7 (M.length + 1) cp7) (M ++ [(sv, .slice a5 n5 p5, .slice a6 n6 p6)]) ∧ (M ++ [((sv, Value.slice a5 n5 p5, Value.slice a6 n6 p6) : SlV)]).map (·.1) = (List.range (n + 1)).map (fun j : Nat => slotV l c (j : Int)) ∧ Cw w c w8) := Lib.hid ⟨h8, HO7.out.keptC k8 HB7.out, by rw [← HRG.out, ← HQ.out, List.map_append]; rfl, HC7.out.kept k8 hJ2⟩
        clear h8 k8 HB7 HC7 HO7 HQ HRG
        go_wp2
        go_roundw
        case rel => exact ⟨n + 1, ao7, M.length + 1, cp7, _, by go_num, by omega, HOK2, HX8⟩
        case measure => simp [intOf]; omega
    · have hnc : (n : Int) = c.cpus := by omega
      have HSA : Hid (∀ j : Nat, (j : Int) < c.cpus → slotE l c j = true) := Lib.hid (fun j hj => HOK.out j (by omega))
      have HQ1 : Hid (M.map (·.1) = slotsV l c) := Lib.hid (by rw [HX.out.2.2.1]; unfold slotsV; rw [show n = c.cpus.toNat by omega])
      have HM := Lib.hid (HSh.out wr (HU.out.below HX.out.2.2.2.low))
      clear HOK
      go_wp2_with fail
      refine HM.out.mono ?_
      rintro e w5 ⟨a5, p5, rfl, ho5, hb5⟩
      have HX5 := Lib.hid (And.intro (BlkAt.below HX.out.1 hb5) (And.intro (HX.out.2.1.below hb5) (HX.out.2.2.2.next hb5)))
      have HO5 := Lib.hid (OwnI.le ho5 HX.out.2.2.2.low.size)
      have HS5 := Lib.hid HX5.out.2.2
      clear ho5 hb5 HM HX f0 f1 f2 f3 f4 f5 hlt
      rcases HSE.out with hse | hse
      · have HSZ := Lib.hid hse
        have hse2 : ((shelfF l c).2 != 0) = false := by rw [hse]; rfl
        have hJ2 := HJ.out
        clear hse HSE
        go_wp2_with (refine wpList_storeS (by rfl) _ _ (by rfl) J 1 (.slice a5 (shelfF l c).1.length p5) (by rfl) (by rfl) ⟨_, _, _, rfl⟩ _ HX5.out.1 (by simp) ?_; intro w6 h6 k6; refine Stop.mk ?_)
        unfold Stop
        have HX6 : Hid (BlkAt 40 w6 J #[.slice ao1 m1 cp1, .slice a5 (shelfF l c).1.length p5, .bool lk, .slice none 0 0] ∧ OwnSl w.heap.size w6 (.slice ao1 m1 cp1) M ∧ OwnI w.heap.size w6 (.slice a5 (shelfF l c).1.length p5) (shelfF l c).1 ∧ Cw w c w6) := Lib.hid ⟨h6, HX5.out.2.1.keptC k6 HX5.out.1, HO5.out.keptC k6 HX5.out.1, HX5.out.2.2.kept k6 hJ2⟩
        clear h6 k6 HX5 HO5 HS5
        generalize hS2 : (shelfF l c).1 = S2 at *
        have HS2 := Lib.hid hS2
        clear hS2 hse2
        obtain ⟨s1, hs1⟩ : ∃ s1 : Value, .slice ao1 m1 cp1 = s1 := ⟨_, rfl⟩
        obtain ⟨s2, hs2⟩ : ∃ s2 : Value, .slice a5 S2.length p5 = s2 := ⟨_, rfl⟩
        have HX7 : Hid (BlkAt 40 w6 J #[s1, s2, .bool lk, .slice none 0 0] ∧ OwnSl w.heap.size w6 s1 M ∧ OwnI w.heap.size w6 s2 S2 ∧ Cw w c w6) := Lib.hid (by rw [← hs1, ← hs2]; exact HX6.out)
        have HV1 : Hid (s1.oneCell' = true ∧ s2.oneCell' = true) := Lib.hid (by rw [← hs1, ← hs2]; exact ⟨rfl, rfl⟩)
        clear hs1 hs2 HX6
        go_wp2
        go_loopw [12] (fun i wr => ∃ (n : Nat) (ao1 : Option Addr) (m1 cp1 : Nat) (N : List SbV), i = .int .i64 n ∧ (n : Int) ≤ c.slabs ∧ Hid (∀ j : Nat, j < n → slabE l c j = true) ∧ Hid (BlkAt 40 wr J #[s1, s2, .bool lk, .slice ao1 m1 cp1] ∧ OwnSb w.heap.size wr (.slice ao1 m1 cp1) N ∧ N.map (·.1) = (List.range n).map (fun j : Nat => slabV l c (j : Int)) ∧ Cw w c wr ∧ OwnSl w.heap.size wr s1 M ∧ OwnI w.heap.size wr s2 S2)) (fun i _ => c.slabs.toNat - (intOf i).toNat)
        case atStart => exact ⟨0, none, 0, 0, [], rfl, by omega, Lib.hid (fun j hj => by omega), Lib.hid ⟨HX7.out.1, OwnSb.nil _ _, rfl, HX7.out.2.2.2, HX7.out.2.1, HX7.out.2.2.1⟩⟩
        case round =>
          clear HX7
          obtain ⟨n, ao1, m1, cp1, N, rfl, hn, HOK, HX⟩ := hrel
          obtain ⟨f0, f1, f2, f3, f4, f5, _⟩ := HX.out.2.2.2.1.one.six
          by_cases hlt : (n : Int) < c.slabs
          · have HLT := Lib.hid hlt
            have hM := HSb.out n wr hlt (HU.out.below HX.out.2.2.2.1.low)
            cases he : slabE l c n with
            | false =>
              rw [show sbR l c n = (zSb, 150) by unfold sbR; rw [he]; rfl] at hM
              have HM := Lib.hid hM
              have HE := Lib.hid he
              clear hM he
              go_wp2_with fail
              refine HM.out.mono ?_
              rintro e w7 ⟨U, rfl, hoU, hb7⟩
              obtain ⟨a7, n7, p7, rfl⟩ := hoU.slice
              have HS7 := Lib.hid (HX.out.2.2.2.1.next hb7)
              clear hoU hb7 HM HX f0 f1 f2 f3 f4 f5
              go_wp2_with (refine wpList_storeR rtSlab (by rfl) _ _ (by rfl) w7.heap.size #[.int .i64 zSb.ct.i, .int .i64 zSb.ct.n, .bool zSb.ct.f, .bool zSb.ct.l, .slice a7 n7 p7] (by rfl) (by rfl) (by rfl) (by simp [Value.oneCell']) _ (heap_new w7 sb0) rfl ?_; intro w8 h8 k8; refine Stop.mk ?_)
              unfold Stop
              have HS8 := Lib.hid (HS7.out.next (below_one_kept (below_one (Below.refl w7.heap.size w7) sb0) k8 (Nat.le_refl _)))
              clear h8 k8 HS7
              obtain rfl : R = (zCr, 150) := by rw [← HR.out]; exact see_slab H.out HLT.out HE.out
              clear HR
              go_wp2_with (refine wpList_storeR rtCore (by rfl) _ _ (by rfl) (w.heap.size + 1) zCrC (by rfl) (by rfl) (by rfl) (by simp [Value.oneCell']) _ HS8.out.at2 rfl ?_; intro w9 h9 k9; refine Stop.mk ?_)
              unfold Stop
              go_wp2
              try rw [Exit.noGoto_ret]
              exact bodyPost_ret (res_core rfl rfl h9) rfl (gives_zcr (below_kept HS8.out.low k9 (by rintro k rfl; omega)) _)
            | true =>
              rw [show sbR l c n = (slabV l c n, 0) by unfold sbR; rw [he]; rfl] at hM
              have hrange := map_range_succ (fun j : Nat => slabV l c (j : Int)) n
              generalize hsv : slabV l c n = sv at hM hrange
              have HRG := Lib.hid hrange
              have HM := Lib.hid hM
              have HOK2 : Hid (∀ j : Nat, j < n + 1 → slabE l c j = true) := Lib.hid (fun j hj => by
                by_cases e : j = n
                · subst e; exact he
                · exact HOK.out j (by omega))
              have hml : N.length = n := by
                have := congrArg List.length HX.out.2.2.1
                simpa using this
              have hlen : N.length ≤ 1000 := by rw [hml]; omega
              clear hM he hrange hsv HOK hml
              go_wp2_with fail
              refine HM.out.mono ?_
              rintro e w7 ⟨U, rfl, hoU, hb7⟩
              obtain ⟨a7, n7, p7, rfl⟩ := hoU.slice
              have HX7 := Lib.hid (And.intro (BlkAt.below HX.out.1 hb7) (And.intro (HX.out.2.1.below hb7) (And.intro HX.out.2.2.1 (And.intro (HX.out.2.2.2.1.next hb7) (And.intro (HX.out.2.2.2.2.1.below hb7) (HX.out.2.2.2.2.2.below hb7))))))
              have HO7 := Lib.hid (OwnI.le hoU HX.out.2.2.2.1.low.size)
              clear hoU hb7 HM HX f0 f1 f2 f3 f4 f5
              go_wp2_with (refine wpList_storeR rtSlab (by rfl) _ _ (by rfl) w7.heap.size #[.int .i64 sv.ct.i, .int .i64 sv.ct.n, .bool sv.ct.f, .bool sv.ct.l, .slice a7 n7 p7] (by rfl) (by rfl) (by rfl) (by simp [Value.oneCell']) _ (heap_new w7 sb0) rfl ?_; intro w8 h8 k8; refine Stop.mk ?_)
              unfold Stop
              have hb8 := below_one_kept (below_one (Below.refl w7.heap.size w7) sb0) k8 (Nat.le_refl _)
              have HX8 := Lib.hid (And.intro (BlkAt.below HX7.out.1 hb8) (And.intro (HX7.out.2.1.below hb8) (And.intro HX7.out.2.2.1 (And.intro (HX7.out.2.2.2.1.next hb8) (And.intro (HX7.out.2.2.2.2.1.below hb8) (HX7.out.2.2.2.2.2.below hb8))))))
              have HO8 := Lib.hid (HO7.out.below hb8)
              have c0 := BlkAt.cell h8 (j := 0) rfl
              have c1 := BlkAt.cell h8 (j := 1) rfl
              have c2 := BlkAt.cell h8 (j := 2) rfl
              have c3 := BlkAt.cell h8 (j := 3) rfl
              have c4 := BlkAt.cell h8 (j := 4) rfl
              have e0 := HX8.out.1.cell (j := 3) (u := .slice ao1 m1 cp1) rfl
              have hJ2 := HJ.out
              have hsz8 := HX8.out.2.2.2.1.low.size
              clear h8 k8 hb8 HX7 HO7
              go_wp2_with (at_builtin; refine wpList_appendSb (by rfl) _ _ (by rfl) w.heap.size (.slice ao1 m1 cp1) N (sv, .slice a7 n7 p7) (by rfl) (by rfl) HX8.out.2.1 HO8.out hlen hsz8 ?_; intro ao9 cp9 w9 ho9 hkt9 hb9; refine Stop.mk ?_)
              unfold Stop
              have hb0 := below_one (Below.refl w8.heap.size w8) (.cells (sbC (sv, .slice a7 n7 p7)).toArray 63)
              have HB9 := Lib.hid (hkt9.blk (BlkAt.below HX8.out.1 hb0) (by simp))
              have HC9 := Lib.hid (HX8.out.2.2.2.1.turn hkt9 hb9 (by simp) (by simp))
              have HO9 := Lib.hid (And.intro ho9 (And.intro (OwnSl.turn (OwnSl.below HX8.out.2.2.2.2.1 hb0) hkt9 (by simp) (by simp)) (hkt9.ownI (OwnI.below HX8.out.2.2.2.2.2 hb0) (by simp))))
              have HQ := Lib.hid HX8.out.2.2.1
              clear ho9 hkt9 hb9 hb0 HX8 HO8 c0 c1 c2 c3 c4 e0 hsz8
              go_wp2_with (refine wpList_storeSb (by rfl) _ _ (by rfl) J 3 (.slice ao9 (N.length + 1) cp9) (by rfl) (by rfl) ⟨_, _, _, rfl⟩ _ HB9.out (by simp) ?_; intro w10 h10 k10; refine Stop.mk ?_)
              unfold Stop
              have HX10 : Hid (BlkAt 40 w10 J #[s1, s2, .bool lk, .slice ao9 (N.length + 1) cp9] ∧ OwnSb w.heap.size w10 (.slice ao9 (N.length + 1) cp9) (N ++ [(sv, .slice a7 n7 p7)]) ∧ (N ++ [((sv, Value.slice a7 n7 p7) : SbV)]).map (·.1) = (List.range (n + 1)).map (fun j : Nat => slabV l c (j : Int)) ∧ Cw w c w10 ∧ OwnSl w.heap.size w10 s1 M ∧ OwnI w.heap.size w10 s2 S2) := Lib.hid ⟨h10, HO9.out.1.keptC k10 HB9.out, by rw [← HRG.out, ← HQ.out, List.map_append]; rfl, HC9.out.kept k10 hJ2, HO9.out.2.1.keptC k10 HB9.out, HO9.out.2.2.keptC k10 HB9.out⟩
              clear h10 k10 HB9 HC9 HO9 HQ HRG
              go_wp2
              go_roundw
              case rel => exact ⟨n + 1, ao9, N.length + 1, cp9, _, by go_num, by omega, HOK2, HX10⟩
              case measure => simp [intOf]; omega
          · have hnc : (n : Int) = c.slabs := by omega
            have hyes := see_yes H.out HSA.out HSZ.out (fun j hj => HOK.out j (by omega))
            have hcr : coreV l c = ⟨M.map (·.1), S2, lk, N.map (·.1)⟩ := by
              unfold coreV
              rw [HQ1.out, HX.out.2.2.1, HS2.out, HLV.out]
              unfold slabsV
              rw [show n = c.slabs.toNat by omega]
            rw [hcr] at hyes
            obtain rfl : R = (⟨M.map (·.1), S2, lk, N.map (·.1)⟩, 0) := by rw [← HR.out]; exact hyes
            have e0 := HX.out.1.cell (j := 0) (u := s1) rfl
            have e1 := HX.out.1.cell (j := 1) (u := s2) rfl
            have e2 := HX.out.1.cell (j := 2) (u := .bool lk) rfl
            have e3 := HX.out.1.cell (j := 3) (u := .slice ao1 m1 cp1) rfl
            obtain ⟨hv1, hv2⟩ := HV1.out
            clear HR hyes hcr
            go_wp2_with (refine wpList_storeR rtCore (by rfl) _ _ (by rfl) (w.heap.size + 1) #[s1, s2, .bool lk, .slice ao1 m1 cp1] (by rfl) (by rfl) (by rfl) (by simp [hv1, hv2, show (Value.bool lk).oneCell' = true from rfl, show (Value.slice ao1 m1 cp1).oneCell' = true from rfl]) _ HX.out.2.2.2.1.at2 rfl ?_; intro w8 h8 k8)
            have hz2 := HX.out.2.2.2.1.at2
            exact bodyPost_ret (res_core rfl rfl h8) rfl ⟨_, _, _, M, N, rfl, HX.out.2.2.2.2.1.keptC k8 hz2, rfl, HX.out.2.2.2.2.2.keptC k8 hz2, HX.out.2.1.keptC k8 hz2, rfl, below_kept HX.out.2.2.2.1.low k8 (by rintro k rfl; omega)⟩
      · clear HSE
        obtain rfl : R = (zCr, 150) := by rw [← HR.out]; exact see_shelf H.out (by rw [hse]; decide)
        clear HR
        go_wp2_with (refine wpList_storeR rtCore (by rfl) _ _ (by rfl) (w.heap.size + 1) zCrC (by rfl) (by rfl) (by rfl) (by simp [Value.oneCell']) _ HS5.out.at2 rfl ?_; intro w6 h6 k6)
        exact bodyPost_ret (res_core rfl rfl h6) rfl (gives_zcr (below_kept HS5.out.low k6 (by rintro k rfl; omega)) _)
end Go.Proofs.Ytnnfmlbgoplnaaa
