/-
  slot of the document.
-/
import Derived.Test.YtnnfmlbgoplnaaaBlk
set_option linter.unusedVariables false
set_option linter.unusedSimpArgs false
namespace Go.Proofs.Ytnnfmlbgoplnaaa
open Go Go.RowKit

abbrev zSlC : Array Value := #[.int .i64 0, .slice none 0 0, .int .u64 0, .slice none 0 0]
abbrev sl0 : Obj := .cells #[.int .i64 0, .slice none 0 0, .int .u64 0, .slice none 0 0] 59
def slR (l : List Int) (c : Ch) (i : Int) : Sl × Int := if slotE l c i = true then (slotV l c i, 0) else (zSl, 150)
/-- a slot that is answered -/
def GivesSl (w : World) (r : Sl × Int) (e : Ending) (w' : World) : Prop := ∃ U V, e = .returned (.tuple #[.agg #[.int .i64 r.1.slab, U, .int .u64 r.1.turn, V], .int .i64 r.2]) ∧ OwnI w.heap.size w' U r.1.list ∧ OwnI w.heap.size w' V r.1.parts ∧ Below w.heap.size w w'
theorem gives_zsl {w w' : World} (hb : Below w.heap.size w w') (x : Int) : GivesSl w (zSl, x) (.returned (.tuple #[.agg zSlC, .int .i64 x])) w' := ⟨_, _, rfl, OwnI.nil _ _, OwnI.nil _ _, hb⟩
theorem res_slot {tmps : Array Value} {K : Nat} {w : World} {a b c d : Value} {e : Int} (h6 : tmps.getD 6 undef = .pointer (some ⟨K, 0, none⟩)) (h7 : tmps.getD 7 undef = .int .i64 e) (hb : BlkAt 59 w K #[a, b, c, d]) :
    (results Try.f52 tmps).run Try.prog w = .ok (.tuple #[.agg #[a, b, c, d], .int .i64 e]) w := by
  have c0 := hb.cell (j := 0) rfl
  have c1 := hb.cell (j := 1) rfl
  have c2 := hb.cell (j := 2) rfl
  have c3 := hb.cell (j := 3) rfl
  rw [Array.getD_eq_getD_getElem?] at h6 h7
  simp [results, Try.f52, h6, h7, c0, c1, c2, c3, go_sem]
/-- the chart and the result, in a world above another one -/
structure Sw (W : World) (c : Ch) (w : World) : Prop where
  at1 : ChAt w W.heap.size c
  at2 : BlkAt 59 w (W.heap.size + 1) zSlC
  low : Below W.heap.size W w
  sz : W.heap.size + 2 ≤ w.heap.size
theorem Sw.next {W w w' : World} {c : Ch} (h : Sw W c w) (hb : Below w.heap.size w w') : Sw W c w' := ⟨h.at1.below hb, h.at2.below hb, below_then h.low hb, Nat.le_trans h.sz hb.size⟩
theorem Sw.kept {W w w' : World} {c : Ch} {g : Nat} (h : Sw W c w) (hk : Kept (· = g) w w') (hg : W.heap.size + 2 ≤ g) : Sw W c w' :=
  ⟨BlkAt.kept h.at1 hk (by omega), BlkAt.kept h.at2 hk (by omega), below_kept h.low hk (by rintro k rfl; omega), Nat.le_trans h.sz hk.size⟩
theorem Sw.drew {W w : World} {c : Ch} (h : Sw W c w) : Sw W c w.drew := ⟨h.at1, h.at2, ⟨h.low.os, h.low.tape, h.low.output, h.low.size, h.low.block⟩, h.sz⟩
theorem Sw.one {W w : World} {c : Ch} (h : Sw W c w) : One W W.heap.size c w := ⟨h.at1, h.low⟩
theorem sw_new (W : World) (c : Ch) : Sw W c ((W.alloc (chO c)).alloc sl0) := ⟨heap_low2 _ _ _, heap_new2 _ _ _, below_one (below_one (Below.refl _ _) _) _, by rw [size_alloc, size_alloc]; omega⟩
/-- a slot made up -/
def mkSl (b : Bool) (s t : Int) (H PR : List Int × Int) : Sl × Int := if b = true ∧ H.2 = 0 ∧ PR.2 = 0 then (⟨s, H.1, t, PR.1⟩, 0) else (zSl, 150)
theorem mk_ok {s t : Int} {H PR : List Int × Int} (h1 : H.2 = 0) (h2 : PR.2 = 0) : mkSl true s t H PR = (⟨s, H.1, t, PR.1⟩, 0) := if_pos ⟨rfl, h1, h2⟩
theorem mk_b {s t : Int} {H PR : List Int × Int} : mkSl false s t H PR = (zSl, 150) := if_neg (fun e => by cases e.1)
theorem mk_h {b : Bool} {s t : Int} {H PR : List Int × Int} (h : H.2 ≠ 0) : mkSl b s t H PR = (zSl, 150) := if_neg (fun e => h e.2.1)
theorem mk_p {b : Bool} {s t : Int} {H PR : List Int × Int} (h : PR.2 ≠ 0) : mkSl b s t H PR = (zSl, 150) := if_neg (fun e => h e.2.2)
theorem slR_mk {l : List Int} {c : Ch} {i : Int} {P : Nat} (hP : 4 * i = P) : slR l c i = mkSl (decide (isH (pk l P))) (hS (pk l P)) (pk l (P + 1)) (hdF l c i) (prW l c [] (pk l (P + 2))) := by
  unfold slR slotE slotV mkSl
  rw [hP, show (P : Int) + 1 = ((P + 1 : Nat) : Int) by omega, show (P : Int) + 2 = ((P + 2 : Nat) : Int) by omega]
  simp only [Int.toNat_natCast, decide_eq_true_eq]
theorem hdF_at {l : List Int} {c : Ch} {i : Int} {P : Nat} (hP : 4 * i = P) : hdF l c i = if hS (pk l P) < 0 then ([], 0) else listF l c (hS (pk l P)) (hO (pk l P)) := by
  unfold hdF
  rw [hP]
  simp only [Int.toNat_natCast]
theorem Sw.eight {W w : World} {c : Ch} (h : Sw W c w) {p : Addr} {u : Value} (d : w.cell? p = some u) : w.cell? ⟨W.heap.size, 0, none⟩ = some (.int .i64 c.cpus) ∧ w.cell? ⟨W.heap.size, 1, none⟩ = some (.int .i64 c.slabs) ∧ w.cell? ⟨W.heap.size, 2, none⟩ = some (.int .i64 c.objs) ∧
    w.cell? ⟨W.heap.size, 3, none⟩ = some (.int .i64 c.min) ∧ w.cell? ⟨W.heap.size, 4, none⟩ = some (.int .i64 c.cap) ∧ w.cell? ⟨W.heap.size, 5, none⟩ = some (.int .u64 c.key) ∧ w.cell? p = some u ∧ Sw W c w :=
  ⟨h.at1.cells.1, h.at1.cells.2.1, h.at1.cells.2.2.1, h.at1.cells.2.2.2.1, h.at1.cells.2.2.2.2.1, h.at1.cells.2.2.2.2.2, d, h⟩
/-- a processor's words are within -/
theorem cpu_at {c : Ch} (ho : c.ok) {i : Int} (h0 : 0 ≤ i) (h1 : i < c.cpus) : ∃ P : Nat, 4 * i = P ∧ (P : Int) + 3 < c.n ∧ c.head i = P := by
  have hp := Ch.prod ho
  have ho' := ho
  obtain ⟨⟨o1, o2⟩, ⟨o3, o4⟩, ⟨o5, o6⟩, _⟩ := ho
  refine ⟨(4 * i).toNat, by omega, by unfold Ch.n; omega, ?_⟩
  unfold Ch.head
  rw [show inB i c.cpus = true by simp [inB]; omega, Ch.at_yes ho']
  omega
set_option maxHeartbeats 8000000 in
set_option maxRecDepth 100000 in
theorem rSlot (u : Value) (l : List Int) (c : Ch) (hw : c.wf) (ho : c.ok) (hl : (l.length : Int) = c.n) (hy : Wordy l) (i : Int) (h0 : 0 ≤ i) (h1 : i < c.cpus) (w : World) (hu : ShowU w u l) :
    Calls Try.prog 52 #[u, c.agg, .int .i64 i] w (GivesSl w (slR l c i)) := by
  have HU := Lib.hid hu
  obtain ⟨ao, cap, rfl, ⟨hc1, hc2⟩, hat⟩ := hu.form
  obtain ⟨P, hP, hPn, hhd⟩ := cpu_at ho h0 h1
  have hPl : P + 3 < l.length := by omega
  obtain ⟨b0, q0, rfl, g0⟩ := hat P (by omega)
  obtain ⟨b1, q1, e1, g1⟩ := hat (P + 1) (by omega)
  obtain ⟨rfl, rfl⟩ : b0 = b1 ∧ q0 = q1 := by cases e1; exact ⟨rfl, rfl⟩
  obtain ⟨b2, q2, e2, g2⟩ := hat (P + 2) (by omega)
  obtain ⟨rfl, rfl⟩ : b0 = b2 ∧ q0 = q2 := by cases e2; exact ⟨rfl, rfl⟩
  have hH := fun w => dHead c hw i w
  rw [hhd] at hH
  have HH := Lib.hid hH
  have hPa : ∀ w', ShowU w' (.slice (some ⟨b0, q0, none⟩) l.length cap) l → Calls Try.prog 66 #[.slice (some ⟨b0, q0, none⟩) l.length cap, c.agg, .int .u64 (pk l (P + 2))] w' (Gives w' (prW l c [] (pk l (P + 2)))) := fun w' h => rParts _ l c hw ho hl hy _ (hy _) w' h
  rw [slR_mk hP]
  have hep : (prW l c [] (pk l (P + 2))).2 = 0 ∨ prW l c [] (pk l (P + 2)) = ([], 150) := prF_err _ _ _ _ _
  have HS := Lib.hid (rHeadOf (pk l P) (hy P))
  have HSw := Lib.hid (sw_new w c)
  have hh := hdF_at (l := l) (c := c) hP
  generalize hdF l c i = H at *
  have hlf : ∀ s a w', ShowU w' (.slice (some ⟨b0, q0, none⟩) l.length cap) l → Calls Try.prog 65 #[.slice (some ⟨b0, q0, none⟩) l.length cap, c.agg, .int .i64 s, .int .i64 a] w' (Gives w' (listF l c s a)) := fun s a w' h => rListF _ l c hw ho hl s a w' h
  have hle := listF_err l c
  generalize hS (pk l P) = s at *
  generalize hO (pk l P) = a at *
  have HL2 : Hid (0 ≤ s → (∀ w', ShowU w' (.slice (some ⟨b0, q0, none⟩) l.length cap) l → Calls Try.prog 65 #[.slice (some ⟨b0, q0, none⟩) l.length cap, c.agg, .int .i64 s, .int .i64 a] w' (Gives w' H)) ∧ (H.2 = 0 ∨ H = ([], 150))) := Lib.hid (fun h => by
    rw [if_neg (by omega)] at hh
    rw [hh]
    exact ⟨hlf s a, hle s a⟩)
  have HL0 : Hid (s < 0 → H = ([], 0)) := Lib.hid (fun h => by rw [hh, if_pos h])
  generalize prW l c [] (pk l (P + 2)) = PR at *
  generalize decide (isH (pk l P)) = b at *
  have HPa := Lib.hid hPa
  have HEP := Lib.hid hep
  obtain ⟨R, hR⟩ : ∃ R, mkSl b s (pk l (P + 1)) H PR = R := ⟨_, rfl⟩
  rw [hR]
  have HR := Lib.hid hR
  have HG := Lib.hid (And.intro g0 (And.intro g1 g2))
  have hPc : (P : Int) + 2 < (l.length : Int) := by omega
  have hP3 : (0 : Int) ≤ (P : Int) + 2 := by omega
  have hP4 : ((P : Int) + 2).toNat = P + 2 := by omega
  have hP1 : IntKind.i64.wrap ((P : Int) + 1) = (P : Int) + 1 := IntWalk.i64_in _ (by omega)
  have hP2 : IntKind.i64.wrap ((P : Int) + 2) = (P : Int) + 2 := IntWalk.i64_in _ (by omega)
  clear hh hlf hle hPa hep hR hat e1 e2 hhd hP hPn hH g0 g1 g2 hw ho hl hy h0 h1 hu
  generalize pk l P = x0 at *
  generalize pk l (P + 1) = x1 at *
  generalize pk l (P + 2) = x2 at *
  go_enter Try.func52, Try.ntmps52
  go_wp2_with fail
  refine (HH.out _).mono ?_
  rintro e w1 ⟨rfl, hb1⟩
  have HS1 := Lib.hid (HSw.out.next hb1)
  clear hb1 HSw HH
  have d0 := cell_keep HS1.out.low HG.out.1
  have d1 := cell_keep HS1.out.low HG.out.2.1
  go_wp2_with fail
  refine (HS.out _).mono ?_
  rintro e w1 ⟨rfl, rfl⟩
  clear HS
  go_wp2_with (refine wpList_storeR rtSlot (by rfl) _ _ (by rfl) w1.heap.size #[.int .i64 s, .slice none 0 0, .int .u64 x1, .slice none 0 0] (by rfl) (by rfl) (by rfl) (by simp [Value.oneCell']) _ (heap_new w1 sl0) rfl ?_; intro w2 h2 k2; refine Stop.mk ?_)
  unfold Stop
  have HS2 := Lib.hid ((HS1.out.next (below_one (Below.refl _ _) sl0)).kept k2 HS1.out.sz)
  have HB2 := Lib.hid h2
  have HJ := Lib.hid HS1.out.sz
  clear h2 k2 HS1 d0 d1
  generalize w1.heap.size = J at *
  cases b with
  | false =>
    obtain rfl : R = (zSl, 150) := by rw [← HR.out]; exact mk_b
    clear HR
    go_wp2_with (refine wpList_storeR rtSlot (by rfl) _ _ (by rfl) (w.heap.size + 1) zSlC (by rfl) (by rfl) (by rfl) (by simp [Value.oneCell']) _ HS2.out.at2 rfl ?_; intro w3 h3 k3)
    exact bodyPost_ret (res_slot rfl rfl h3) rfl (gives_zsl (below_kept HS2.out.low k3 (by rintro k rfl; omega)) _)
  | true =>
    by_cases hs : s < 0
    · obtain rfl := HL0.out hs
      have HO2 : Hid (OwnI w.heap.size w2 (.slice none 0 0) (([], 0) : List Int × Int).1) := Lib.hid (OwnI.nil _ _)
      clear HL0 HL2
      obtain ⟨H, hH⟩ : ∃ H : List Int × Int, ([], 0) = H := ⟨_, rfl⟩
      rw [hH] at HO2 HR
      have HH0 : Hid (H.2 = 0) := Lib.hid (by rw [← hH])
      clear hH
      have hTk := HS2.out.drew
      have d2 := cell_keep HS2.out.low HG.out.2.2
      have HM := Lib.hid (HPa.out w2.drew (show ShowU w2.drew _ l from HU.out.below HS2.out.drew.low))
      go_wp2
      go_region_held3 (fun w' => w'.cell? ⟨w.heap.size, 0, none⟩ = some (.int .i64 c.cpus) ∧ w'.cell? ⟨w.heap.size, 1, none⟩ = some (.int .i64 c.slabs) ∧ w'.cell? ⟨w.heap.size, 2, none⟩ = some (.int .i64 c.objs) ∧ w'.cell? ⟨w.heap.size, 3, none⟩ = some (.int .i64 c.min) ∧ w'.cell? ⟨w.heap.size, 4, none⟩ = some (.int .i64 c.cap) ∧ w'.cell? ⟨w.heap.size, 5, none⟩ = some (.int .u64 c.key) ∧ w'.cell? ⟨b0, q0 + (P + 2), none⟩ = some (.int .u64 x2) ∧ Sw w c w')
        (first | exact hTk.eight d2 | exact hT3.eight d3)
        (first
          | (go_at_call 66; refine HM.out.mono ?_; rintro e w3 ⟨ao3, cp3, rfl, ho3, hb3⟩; have hT3 := Sw.next hTk hb3; have d3 := cell_keep hT3.low HG.out.2.2; have HV3 := Lib.hid (And.intro (OwnI.le ho3 (show w.heap.size ≤ w2.drew.heap.size from HS2.out.low.size)) (And.intro (show OwnI w.heap.size w3 (.slice none 0 0) H.1 from OwnI.below (w := w2.drew) HO2.out hb3) (show BlkAt 59 w3 J _ from BlkAt.below (w := w2.drew) HB2.out hb3))); clear ho3 hb3))
      all_goals
        have HS3 := Lib.hid hT3
        clear hTk d2 hT3 d3 HM
        rcases HEP.out with hpe | hpe
        · have HPE := Lib.hid hpe
          have hpe2 : (PR.2 != 0) = false := by rw [hpe]; rfl
          obtain rfl : R = (⟨s, H.1, x1, PR.1⟩, 0) := by rw [← HR.out]; exact mk_ok HH0.out hpe
          obtain ⟨hoV, hoU, hJB⟩ := HV3.out
          have HOV := Lib.hid hoV
          have HOU := Lib.hid hoU
          have HJB := Lib.hid hJB
          have hJ2 := HJ.out
          clear HR hpe hoV hoU hJB HV3
          generalize PR.2 = pe at *
          obtain rfl := HPE.out
          go_wp2_with (refine wpList_storeS (by rfl) _ _ (by rfl) J 3 (.slice ao3 PR.1.length cp3) (by rfl) (by rfl) ⟨_, _, _, rfl⟩ _ HJB.out (by simp) ?_; intro w4 h4 k4; refine Stop.mk ?_)
          unfold Stop
          have HS4 := Lib.hid (HS3.out.kept k4 hJ2)
          have hV4 := own_kept HOV.out k4 HJB.out intSlot
          have hU4 := own_kept HOU.out k4 HJB.out intSlot
          have hB4 : BlkAt 59 w4 J #[.int .i64 s, (.slice none 0 0), .int .u64 x1, .slice ao3 PR.1.length cp3] := h4
          go_wp2_with (first | (refine wpList_loadR rtSlot (by rfl) _ (by rfl) J #[.int .i64 s, (.slice none 0 0), .int .u64 x1, .slice ao3 PR.1.length cp3] (by rfl) (by rfl) hB4 ?_) | (refine wpList_storeR rtSlot (by rfl) _ _ (by rfl) (w.heap.size + 1) #[.int .i64 s, (.slice none 0 0), .int .u64 x1, .slice ao3 PR.1.length cp3] (by rfl) (by rfl) (by rfl) (by simp [Value.oneCell']) _ HS4.out.at2 rfl ?_; intro w5 h5 k5))
          exact bodyPost_ret (res_slot rfl rfl h5) rfl ⟨_, _, rfl, own_kept hU4 k5 HS4.out.at2 intSlot, own_kept hV4 k5 HS4.out.at2 intSlot, below_kept HS4.out.low k5 (by rintro k rfl; omega)⟩
        · subst hpe
          obtain rfl : R = (zSl, 150) := by rw [← HR.out]; exact mk_p (by decide)
          clear HR
          go_wp2_with (refine wpList_storeR rtSlot (by rfl) _ _ (by rfl) (w.heap.size + 1) zSlC (by rfl) (by rfl) (by rfl) (by simp [Value.oneCell']) _ HS3.out.at2 rfl ?_; intro w4 h4 k4)
          exact bodyPost_ret (res_slot rfl rfl h4) rfl (gives_zsl (below_kept HS3.out.low k4 (by rintro k rfl; omega)) _)
    · obtain ⟨hl2, hlr⟩ := HL2.out (by omega)
      have HL3 := Lib.hid hl2
      have HLR := Lib.hid hlr
      clear HL0 HL2 hl2 hlr
      obtain ⟨f0, f1, f2, f3, f4, f5, _⟩ := HS2.out.one.six
      go_wp2_with fail
      refine (HL3.out _ (HU.out.below HS2.out.low)).mono ?_
      rintro e w3 ⟨ao3, cp3, rfl, ho3, hb3⟩
      have HS3 := Lib.hid (HS2.out.next hb3)
      have HB3 := Lib.hid (BlkAt.below HB2.out hb3)
      have HO3 := Lib.hid (OwnI.le ho3 HS2.out.low.size)
      have hJ2 := HJ.out
      clear ho3 hb3 HS2 HB2 HL3 f0 f1 f2 f3 f4 f5
      go_wp2_with (refine wpList_storeS (by rfl) _ _ (by rfl) J 1 (.slice ao3 H.1.length cp3) (by rfl) (by rfl) ⟨_, _, _, rfl⟩ _ HB3.out (by simp) ?_; intro w4 h4 k4; refine Stop.mk ?_)
      unfold Stop
      have HS4 := Lib.hid (HS3.out.kept k4 hJ2)
      have HO4 := Lib.hid (own_kept HO3.out k4 HB3.out intSlot)
      have HB4 : Hid (BlkAt 59 w4 J #[.int .i64 s, .slice ao3 H.1.length cp3, .int .u64 x1, .slice none 0 0]) := Lib.hid h4
      clear h4 k4 HS3 HB3 HO3 hJ2
      rcases HLR.out with hle | hle
      · have HH0 := Lib.hid hle
        have hle2 : (H.2 != 0) = false := by rw [hle]; rfl
        clear HLR
        have hTk := HS4.out.drew
        have d2 := cell_keep HS4.out.low HG.out.2.2
        have HM := Lib.hid (HPa.out w4.drew (show ShowU w4.drew _ l from HU.out.below HS4.out.drew.low))
        go_wp2
        go_region_held3 (fun w' => w'.cell? ⟨w.heap.size, 0, none⟩ = some (.int .i64 c.cpus) ∧ w'.cell? ⟨w.heap.size, 1, none⟩ = some (.int .i64 c.slabs) ∧ w'.cell? ⟨w.heap.size, 2, none⟩ = some (.int .i64 c.objs) ∧ w'.cell? ⟨w.heap.size, 3, none⟩ = some (.int .i64 c.min) ∧ w'.cell? ⟨w.heap.size, 4, none⟩ = some (.int .i64 c.cap) ∧ w'.cell? ⟨w.heap.size, 5, none⟩ = some (.int .u64 c.key) ∧ w'.cell? ⟨b0, q0 + (P + 2), none⟩ = some (.int .u64 x2) ∧ Sw w c w')
          (first | exact hTk.eight d2 | exact hT5.eight d5)
          (first
            | (go_at_call 66; refine HM.out.mono ?_; rintro e w5 ⟨ao5, cp5, rfl, ho5, hb5⟩; have hT5 := Sw.next hTk hb5; have d5 := cell_keep hT5.low HG.out.2.2; have HV5 := Lib.hid (And.intro (OwnI.le ho5 (show w.heap.size ≤ w4.drew.heap.size from HS4.out.low.size)) (And.intro (show OwnI w.heap.size w5 (.slice ao3 H.1.length cp3) H.1 from OwnI.below (w := w4.drew) HO4.out hb5) (show BlkAt 59 w5 J _ from BlkAt.below (w := w4.drew) HB4.out hb5))); clear ho5 hb5))
        all_goals
          have HS5 := Lib.hid hT5
          clear hTk d2 hT5 d5 HM
          rcases HEP.out with hpe | hpe
          · have HPE := Lib.hid hpe
            have hpe2 : (PR.2 != 0) = false := by rw [hpe]; rfl
            obtain rfl : R = (⟨s, H.1, x1, PR.1⟩, 0) := by rw [← HR.out]; exact mk_ok HH0.out hpe
            obtain ⟨hoV, hoU, hJB⟩ := HV5.out
            have HOV := Lib.hid hoV
            have HOU := Lib.hid hoU
            have HJB := Lib.hid hJB
            have hJ2 := HJ.out
            clear HR hpe hoV hoU hJB HV5
            generalize PR.2 = pe at *
            obtain rfl := HPE.out
            go_wp2_with (refine wpList_storeS (by rfl) _ _ (by rfl) J 3 (.slice ao5 PR.1.length cp5) (by rfl) (by rfl) ⟨_, _, _, rfl⟩ _ HJB.out (by simp) ?_; intro w6 h6 k6; refine Stop.mk ?_)
            unfold Stop
            have HS6 := Lib.hid (HS5.out.kept k6 hJ2)
            have hV6 := own_kept HOV.out k6 HJB.out intSlot
            have hU6 := own_kept HOU.out k6 HJB.out intSlot
            have hB6 : BlkAt 59 w6 J #[.int .i64 s, (.slice ao3 H.1.length cp3), .int .u64 x1, .slice ao5 PR.1.length cp5] := h6
            go_wp2_with (first | (refine wpList_loadR rtSlot (by rfl) _ (by rfl) J #[.int .i64 s, (.slice ao3 H.1.length cp3), .int .u64 x1, .slice ao5 PR.1.length cp5] (by rfl) (by rfl) hB6 ?_) | (refine wpList_storeR rtSlot (by rfl) _ _ (by rfl) (w.heap.size + 1) #[.int .i64 s, (.slice ao3 H.1.length cp3), .int .u64 x1, .slice ao5 PR.1.length cp5] (by rfl) (by rfl) (by rfl) (by simp [Value.oneCell']) _ HS6.out.at2 rfl ?_; intro w7 h7 k7))
            exact bodyPost_ret (res_slot rfl rfl h7) rfl ⟨_, _, rfl, own_kept hU6 k7 HS6.out.at2 intSlot, own_kept hV6 k7 HS6.out.at2 intSlot, below_kept HS6.out.low k7 (by rintro k rfl; omega)⟩
          · subst hpe
            obtain rfl : R = (zSl, 150) := by rw [← HR.out]; exact mk_p (by decide)
            clear HR
            go_wp2_with (refine wpList_storeR rtSlot (by rfl) _ _ (by rfl) (w.heap.size + 1) zSlC (by rfl) (by rfl) (by rfl) (by simp [Value.oneCell']) _ HS5.out.at2 rfl ?_; intro w6 h6 k6)
            exact bodyPost_ret (res_slot rfl rfl h6) rfl (gives_zsl (below_kept HS5.out.low k6 (by rintro k rfl; omega)) _)
      · subst hle
        obtain rfl : R = (zSl, 150) := by rw [← HR.out]; exact mk_h (by decide)
        clear HR
        go_wp2_with (refine wpList_storeR rtSlot (by rfl) _ _ (by rfl) (w.heap.size + 1) zSlC (by rfl) (by rfl) (by rfl) (by simp [Value.oneCell']) _ HS4.out.at2 rfl ?_; intro w5 h5 k5)
        exact bodyPost_ret (res_slot rfl rfl h5) rfl (gives_zsl (below_kept HS4.out.low k5 (by rintro k rfl; omega)) _)
end Go.Proofs.Ytnnfmlbgoplnaaa
