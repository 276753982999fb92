/-
  The document's own Copy.
-/
import Derived.Test.YtifkkblmcdggmaaCopy0
set_option linter.unusedVariables false
set_option linter.unusedSimpArgs false
namespace Go.Proofs.Ytifkkblmcdggmaa
open Go Go.RowKit

theorem below_drewn {w w' : World} (h : Below w.drew.heap.size w.drew w') : Below w.heap.size w w' := ⟨h.os, h.tape, h.output, h.size, h.block⟩
theorem own_below' {W W' : World} {B n size : Nat} {e : TypeId} {v : Value} {xs : List Value} (h : W.ownsRow B e size v n xs) (hb : Below W.heap.size W W') : W'.ownsRow B e size v n xs := by
  refine h.kept (grown_of_below (row := none) hb) ?_
  cases hv : v.ownBlock with
  | none => exact .inl rfl
  | some k => exact .inr (by simp)
theorem cres : Try.f9.results = #[.cell 2 25] := rfl
set_option maxHeartbeats 2000000 in
set_option maxRecDepth 100000 in
theorem cCopy (v : Value) (S : Scr) (w : World) (hv : ShowScr w v S) (hP : S.picks.length * 8 ≤ 140737488355328) (hL : S.calls.length * 24 ≤ 140737488355328) (hC : ∀ l ∈ S.calls, l.length * 32 ≤ 140737488355328) :
    Calls Try.prog 9 #[v] w fun e w' => ∃ a1 n1 c1 a2 n2 c2, e = .returned (.agg #[.int .i64 S.cpus, .int .i64 S.pages, .slice a1 n1 c1, .slice a2 n2 c2]) ∧ ShowScr w' (.agg #[.int .i64 S.cpus, .int .i64 S.pages, .slice a1 n1 c1, .slice a2 n2 c2]) S ∧ Below w.heap.size w w' := by
  have hvv := hv
  obtain ⟨vc, vp, rfl, hc, hp⟩ := hv
  obtain ⟨cpus, pages, L, P⟩ := S
  dsimp only at hc hp hP hL hC ⊢
  obtain ⟨ao, cap, rfl, hcap, hat⟩ := hc.form
  obtain ⟨ap, capp, rfl, hcapp, hatp⟩ := hp.form
  have HPP := Lib.hid hp
  clear hatp hc hp
  go_enter Try.func9, Try.ntmps9
  go_wp2_with fail
  have hW0 := heap_low2 w (.cells #[.int .i64 cpus, .int .i64 pages, .slice ao L.length cap, .slice ap P.length capp] 25) (.cells #[.int .i64 0, .int .i64 0, .slice none 0 0, .slice none 0 0] 25)
  have hW1 := heap_new2 w (.cells #[.int .i64 cpus, .int .i64 pages, .slice ao L.length cap, .slice ap P.length capp] 25) (.cells #[.int .i64 0, .int .i64 0, .slice none 0 0, .slice none 0 0] 25)
  have hbW : Below w.heap.size w ((w.alloc (.cells #[.int .i64 cpus, .int .i64 pages, .slice ao L.length cap, .slice ap P.length capp] 25)).alloc (.cells #[.int .i64 0, .int .i64 0, .slice none 0 0, .slice none 0 0] 25)) := below_one (below_one (Below.refl _ _) _) _
  have hzW : ((w.alloc (.cells #[.int .i64 cpus, .int .i64 pages, .slice ao L.length cap, .slice ap P.length capp] 25)).alloc (.cells #[.int .i64 0, .int .i64 0, .slice none 0 0, .slice none 0 0] 25)).heap.size = w.heap.size + 1 + 1 := by rw [size_alloc, size_alloc]
  generalize (w.alloc (.cells #[.int .i64 cpus, .int .i64 pages, .slice ao L.length cap, .slice ap P.length capp] 25)).alloc (.cells #[.int .i64 0, .int .i64 0, .slice none 0 0, .slice none 0 0] 25) = W at *
  have hcells := self4 hW0
  have HZW := Lib.hid hzW
  have HW1 := Lib.hid hW1
  have hzW1 : w.heap.size + 1 < W.heap.size := by omega
  have HW0 := Lib.hid hW0
  have hzW0 : w.heap.size ≤ W.heap.size := by omega
  clear hzW hW0 hW1
  have HPW := Lib.hid (HPP.out.below hbW)
  go_region_held3 (fun w' => w'.cell? ⟨w.heap.size, 0, none⟩ = some (.int .i64 cpus) ∧ w'.cell? ⟨w.heap.size, 1, none⟩ = some (.int .i64 pages) ∧ w'.cell? ⟨w.heap.size, 2, none⟩ = some (.slice ao L.length cap) ∧ w'.cell? ⟨w.heap.size, 3, none⟩ = some (.slice ap P.length capp) ∧ Below W.heap.size W w')
    (first | exact key4c hcells (by assumption) | exact key4c hcells (Below.drew (Below.refl _ _)) | exact key4c hcells (below_one hb5 _) | exact key4c hcells (Below.drew (below_one (Below.refl _ _) _)) | exact key4c hcells ((((hb5.setCell (p := ⟨W.heap.size, 0, none⟩) (Nat.le_refl _) _).setCell (p := ⟨W.heap.size, 1, none⟩) (Nat.le_refl _) _).setCell (p := ⟨W.heap.size, 2, none⟩) (Nat.le_refl _) _).setCell (p := ⟨W.heap.size, 3, none⟩) (Nat.le_refl _) _))
    (first
      | (go_at_call 21; refine (cCopyIntsF _ P _ (HPW.out.below (show _ ∧ _ ∧ _ ∧ _ ∧ Below W.heap.size W _ from by assumption).2.2.2.2) hP).mono ?_; rintro e w5 ⟨a5, n5, c5, rfl, own5, h5⟩; have hb5 : Below W.heap.size W w5 := below_then (show _ ∧ _ ∧ _ ∧ _ ∧ Below W.heap.size W _ from by assumption).2.2.2.2 h5; try (have hK5 := below_newd h5; obtain ⟨k0, k1, k2, k3⟩ := self4 hK5; have z0 := self_free hK5 0; have z1 := self_free hK5 1; have z2 := self_free hK5 2; have z3 := self_free hK5 3)))
  · have hb5' := hb5
    have hF1 : SelfIs (w5.alloc (.cells #[.int .i64 cpus, .int .i64 pages, .slice none 0 0, .slice a5 n5 c5] 25)) w5.heap.size cpus pages (.slice none 0 0) (.slice a5 n5 c5) := heap_new _ _
    have hF2 : OwnInts W.heap.size (w5.alloc (.cells #[.int .i64 cpus, .int .i64 pages, .slice none 0 0, .slice a5 n5 c5] 25)) (.slice a5 n5 c5) P := World.ownsRow.alloc (OwnInts.mono own5 (Nat.le_refl W.heap.size)) _
    have hF4 : Below W.heap.size W (w5.alloc (.cells #[.int .i64 cpus, .int .i64 pages, .slice none 0 0, .slice a5 n5 c5] 25)) := below_one hb5 _
    have hF3 : W.heap.size ≤ w5.heap.size := hb5.size
    have hF5 : ∀ g, (Value.slice a5 n5 c5).ownBlock = some g → g ≠ w5.heap.size := fun g hg => by have := (World.ownsRow.lt own5 g hg).2; omega
    clear own5 h5 hb5 hb5'
    try clear hK5 k0 k1 k2 k3 z0 z1 z2 z3
    generalize w5.heap.size = K3 at *
    generalize w5.alloc (.cells #[.int .i64 cpus, .int .i64 pages, .slice none 0 0, .slice a5 n5 c5] 25) = W3 at *
    have hK3 := lt_of_block hF1
    have HPLT : Hid (∀ g, (Value.slice a5 n5 c5).ownBlock = some g → g < W3.heap.size) := Lib.hid (fun g hg => (World.ownsRow.lt hF2 g hg).2)
    have HPI := Lib.hid hF2
    have HF5 := Lib.hid hF5
    clear hF2 hF5
    go_wp2
    go_loopw [4] (fun i wr => ∃ (j : Nat) (vc : Value), j ≤ L.length ∧ i = .int .i64 j ∧ SelfIs wr K3 cpus pages vc (.slice a5 n5 c5) ∧ Lists W3.heap.size wr vc (L.take j) ∧ OwnInts W.heap.size wr (.slice a5 n5 c5) P ∧ Below W.heap.size W wr ∧ W3.heap.size ≤ wr.heap.size) (fun i _ => L.length - (intOf i).toNat)
    case atStart => exact ⟨0, _, by omega, rfl, hF1, Lists.nil _ _, HPI.out, hF4, Nat.le_refl _⟩
    case round =>
      clear hF1 hF4
      obtain ⟨j, vc, hj, rfl, hself, hlists, hints, hbW2, hz⟩ := hrel
      have hbw := hbW.trans (hbW2.mono hzW0)
      have hbox := (hbW2.block w.heap.size (by omega)).trans HW0.out
      obtain ⟨e0, e1, e2, e3⟩ := self4 hbox
      obtain ⟨f0, f1, f2, f3⟩ := self4 hself
      by_cases hlt : j < L.length
      · obtain ⟨vs, hvs, hvl, hvall⟩ := hlists
        obtain ⟨b, o, u, rfl, hu, hcs⟩ := hat j hlt
        have hu2 := (hbw.cell (p := ⟨b, o + j, none⟩) (World.block_lt_of_cell? w _ hu)).trans hu
        have hcs2 := hcs.below hbw
        have hlC := hC _ (List.getElem_mem hlt)
        have HT : Hid (L.take (j + 1) = L.take j ++ [L[j]]) := Lib.hid (List.take_succ_eq_append_getElem hlt)
        have hvl2 : (vs.length + 1) * 24 ≤ 140737488355328 := by
          rw [hvl, List.length_take]
          have : (min j L.length + 1) ≤ L.length := by omega
          exact Nat.le_trans (Nat.mul_le_mul_right 24 this) hL
        have HV := Lib.hid hvall
        have HVL := Lib.hid hvl
        have HVL2 := Lib.hid hvl2
        have hvlt : ∀ i, vc.ownBlock = some i → W3.heap.size ≤ i := fun i hi => (World.ownsRow.lt hvs i hi).1
        have hneS : vc.ownBlock ≠ some K3 := fun e => by have := hvlt _ e; omega
        have hplt : ∀ g, (Value.slice a5 n5 c5).ownBlock = some g → g < W3.heap.size := HPLT.out
        clear hu hcs hvall hvl hvl2 e0 e1 e3 f0 f1 f3
        generalize L[j] = l at hcs2 hlC HT
        go_wp2_with fail
        go_region_law (first
          | (refine step_copy (by rfl) _ _ (by rfl) (by rfl) u l (show ShowCalls wr.drew u l from hcs2) (by rfl) hlC ?_; intro aC mC capC wC ownC hbC'; have hbC := below_drewn hbC'; have hsC : SelfIs wC K3 cpus pages vc (.slice a5 n5 c5) := (hbC.block K3 (lt_of_block hself)).trans hself; have hzC := hbC.size; have c2C := (self4 hsC).2.2.1; have hltC : K3 < wC.heap.size := lt_of_block hsC)
          | (refine step_valsB (by rfl) _ _ (by rfl) vc vs (World.ownsRow.alloc (own_below' hvs hbC) _) (by rfl) (.slice aC mC capC) rfl wC.heap.size (0, 0) (heap_new _ _) (by rfl) HVL2.out (by rw [size_alloc]; omega) ?_; intro aD mD capD wD ownD gD; have hsD := self_after hsC gD hneS; have d2 := (self4 hsD).2.2.1; have df := self_free hsD 2))
        all_goals
          have gD' := Grew.ofAlloc gD
          have hlD : Lists W3.heap.size wD (.slice aD mD capD) (L.take (j + 1)) := by
            rw [HT.out]
            exact Lists.snoc (own_below' hvs hbC) ownD gD'.grow HVL.out (fun i h h' => own_below' (HV.out i h h') hbC) (OwnCalls.mono ownC (show W3.heap.size ≤ wr.heap.size from hz))
          have hiD : OwnInts W.heap.size wD (.slice a5 n5 c5) P := by
            refine World.ownsRow.kept (own_below' hints hbC) gD'.grow ?_
            by_cases hn : (Value.slice a5 n5 c5).ownBlock = none
            · exact .inl hn
            · right
              intro e
              obtain ⟨g, hg⟩ : ∃ g, (Value.slice a5 n5 c5).ownBlock = some g := by
                cases hb : (Value.slice a5 n5 c5).ownBlock with
                | none => exact absurd hb hn
                | some g => exact ⟨g, rfl⟩
              have h1 := hplt g hg
              have h2 := hvlt g (e.symm.trans hg)
              omega
          have hbD : Below W.heap.size W wD := (hbW2.trans (hbC.mono hbW2.size)).trans (gD'.below (by have := hbW2.size; omega) (fun i hi => by have := hvlt i hi; omega))
          have hzD := gD'.grow.size
          have hi2 : ∀ v', OwnInts W.heap.size (wD.setCell ⟨K3, 2, none⟩ v') (.slice a5 n5 c5) P := fun v' => ownsRow_setCell_other hiD (fun e => HF5.out K3 e rfl) v'
          clear HV HVL HT gD' gD ownD ownC hbC hbC' hvlt hplt
          go_wp2
          go_roundw
          case rel => exact ⟨j + 1, .slice aD mD capD, by omega, by go_num, hsD.set2 _, hlD.set (by omega) _ _, hi2 _, hbD.setCell (p := ⟨K3, 2, none⟩) hF3 _, by simp; omega⟩
          case measure => simp [intOf]; omega
      · have hje : j = L.length := by omega
        subst hje
        rw [List.take_length] at hlists
        have hres := (hbW2.block (w.heap.size + 1) (by omega)).trans HW1.out
        obtain ⟨d0, d1, d2, d3⟩ := self4 hres
        have g0 := self_free hres 0
        have g1 := self_free hres 1
        have g2 := self_free hres 2
        have g3 := self_free hres 3
        obtain ⟨ac, mc, capc, rfl⟩ : ∃ ac mc capc, vc = .slice ac mc capc := by
          obtain ⟨vs, hvs, _⟩ := hlists
          obtain ⟨ac, capc, e⟩ := own_form hvs
          exact ⟨ac, _, capc, e⟩
        have hK1 : w.heap.size + 1 < W3.heap.size := by omega
        have HLS := Lib.hid hlists
        have HIN := Lib.hid hints
        have HBW := Lib.hid hbw
        clear hres hlists hints hbw hself hbox
        go_wp2
        refine bodyPost_ret (v := .agg #[.int .i64 cpus, .int .i64 pages, .slice ac mc capc, .slice a5 n5 c5]) (by simp [results, cres, go_sem, d0, d1, d2, d3]) rfl ?_
        refine ⟨_, _, _, _, _, _, rfl, ⟨_, _, rfl, ((((HLS.out.set hK1 0 _).set hK1 1 _).set hK1 2 _).set hK1 3 _).shows, ((((HIN.out.set hzW1 0 _).set hzW1 1 _).set hzW1 2 _).set hzW1 3 _).shows⟩, (((HBW.out.setCell (p := ⟨w.heap.size + 1, 0, none⟩) (Nat.le_succ _) _).setCell (p := ⟨w.heap.size + 1, 1, none⟩) (Nat.le_succ _) _).setCell (p := ⟨w.heap.size + 1, 2, none⟩) (Nat.le_succ _) _).setCell (p := ⟨w.heap.size + 1, 3, none⟩) (Nat.le_succ _) _⟩
  · have hz5 : (W.alloc (.cells #[.int .i64 0, .int .i64 0, .slice none 0 0, .slice none 0 0] 25)).heap.size = W.heap.size + 1 := size_alloc _ _
    have hol : ∀ g, (Value.slice a5 n5 c5).ownBlock = some g → W.heap.size + 1 ≤ g ∧ g < w5.heap.size := fun g hg => by
      have h1 := World.ownsRow.lt own5 g hg
      have h2 : (W.alloc (.cells #[.int .i64 0, .int .i64 0, .slice none 0 0, .slice none 0 0] 25)).heap.size ≤ g := h1.1
      rw [hz5] at h2
      exact ⟨h2, h1.2⟩
    have hF1 : SelfIs ((((w5.setCell ⟨W.heap.size, 0, none⟩ (.int .i64 cpus)).setCell ⟨W.heap.size, 1, none⟩ (.int .i64 pages)).setCell ⟨W.heap.size, 2, none⟩ (.slice none 0 0)).setCell ⟨W.heap.size, 3, none⟩ (.slice a5 n5 c5)) W.heap.size cpus pages (.slice none 0 0) (.slice a5 n5 c5) := cells_set (cells_set (cells_set (cells_set hK5 0 _) 1 _) 2 _) 3 _
    have hne : (Value.slice a5 n5 c5).ownBlock ≠ some W.heap.size := fun e => by have := (hol _ e).1; omega
    have own5' : OwnInts W.heap.size w5 (.slice a5 n5 c5) P := OwnInts.mono own5 (by show W.heap.size ≤ (W.alloc _).heap.size; rw [hz5]; omega)
    have hF2 : OwnInts W.heap.size ((((w5.setCell ⟨W.heap.size, 0, none⟩ (.int .i64 cpus)).setCell ⟨W.heap.size, 1, none⟩ (.int .i64 pages)).setCell ⟨W.heap.size, 2, none⟩ (.slice none 0 0)).setCell ⟨W.heap.size, 3, none⟩ (.slice a5 n5 c5)) (.slice a5 n5 c5) P :=
      ownsRow_setCell_other (ownsRow_setCell_other (ownsRow_setCell_other (ownsRow_setCell_other own5' hne _) hne _) hne _) hne _
    have hF4 : Below W.heap.size W ((((w5.setCell ⟨W.heap.size, 0, none⟩ (.int .i64 cpus)).setCell ⟨W.heap.size, 1, none⟩ (.int .i64 pages)).setCell ⟨W.heap.size, 2, none⟩ (.slice none 0 0)).setCell ⟨W.heap.size, 3, none⟩ (.slice a5 n5 c5)) := (((hb5.setCell (p := ⟨W.heap.size, 0, none⟩) (Nat.le_refl _) _).setCell (p := ⟨W.heap.size, 1, none⟩) (Nat.le_refl _) _).setCell (p := ⟨W.heap.size, 2, none⟩) (Nat.le_refl _) _).setCell (p := ⟨W.heap.size, 3, none⟩) (Nat.le_refl _) _
    obtain ⟨K3, hK3e⟩ : ∃ K3, W.heap.size = K3 := ⟨_, rfl⟩
    have hF5 : ∀ g, (Value.slice a5 n5 c5).ownBlock = some g → g ≠ W.heap.size := fun g hg => by have := (hol _ hg).1; omega
    have hF3 : W.heap.size ≤ W.heap.size := Nat.le_refl _
    clear own5 h5 hb5 hK5 k0 k1 k2 k3 z0 z1 z2 z3 hz5 hol hne own5' hK3e
    generalize (((w5.setCell ⟨W.heap.size, 0, none⟩ (.int .i64 cpus)).setCell ⟨W.heap.size, 1, none⟩ (.int .i64 pages)).setCell ⟨W.heap.size, 2, none⟩ (.slice none 0 0)).setCell ⟨W.heap.size, 3, none⟩ (.slice a5 n5 c5) = W3 at *
    have hK3 := lt_of_block hF1
    have HPLT : Hid (∀ g, (Value.slice a5 n5 c5).ownBlock = some g → g < W3.heap.size) := Lib.hid (fun g hg => (World.ownsRow.lt hF2 g hg).2)
    have HPI := Lib.hid hF2
    have HF5 := Lib.hid hF5
    clear hF2 hF5
    go_wp2
    go_loopw [4] (fun i wr => ∃ (j : Nat) (vc : Value), j ≤ L.length ∧ i = .int .i64 j ∧ SelfIs wr W.heap.size cpus pages vc (.slice a5 n5 c5) ∧ Lists W3.heap.size wr vc (L.take j) ∧ OwnInts W.heap.size wr (.slice a5 n5 c5) P ∧ Below W.heap.size W wr ∧ W3.heap.size ≤ wr.heap.size) (fun i _ => L.length - (intOf i).toNat)
    case atStart => exact ⟨0, _, by omega, rfl, hF1, Lists.nil _ _, HPI.out, hF4, Nat.le_refl _⟩
    case round =>
      clear hF1 hF4
      obtain ⟨j, vc, hj, rfl, hself, hlists, hints, hbW2, hz⟩ := hrel
      have hbw := hbW.trans (hbW2.mono hzW0)
      have hbox := (hbW2.block w.heap.size (by omega)).trans HW0.out
      obtain ⟨e0, e1, e2, e3⟩ := self4 hbox
      obtain ⟨f0, f1, f2, f3⟩ := self4 hself
      by_cases hlt : j < L.length
      · obtain ⟨vs, hvs, hvl, hvall⟩ := hlists
        obtain ⟨b, o, u, rfl, hu, hcs⟩ := hat j hlt
        have hu2 := (hbw.cell (p := ⟨b, o + j, none⟩) (World.block_lt_of_cell? w _ hu)).trans hu
        have hcs2 := hcs.below hbw
        have hlC := hC _ (List.getElem_mem hlt)
        have HT : Hid (L.take (j + 1) = L.take j ++ [L[j]]) := Lib.hid (List.take_succ_eq_append_getElem hlt)
        have hvl2 : (vs.length + 1) * 24 ≤ 140737488355328 := by
          rw [hvl, List.length_take]
          have : (min j L.length + 1) ≤ L.length := by omega
          exact Nat.le_trans (Nat.mul_le_mul_right 24 this) hL
        have HV := Lib.hid hvall
        have HVL := Lib.hid hvl
        have HVL2 := Lib.hid hvl2
        have hvlt : ∀ i, vc.ownBlock = some i → W3.heap.size ≤ i := fun i hi => (World.ownsRow.lt hvs i hi).1
        have hneS : vc.ownBlock ≠ some W.heap.size := fun e => by have := hvlt _ e; omega
        have hplt : ∀ g, (Value.slice a5 n5 c5).ownBlock = some g → g < W3.heap.size := HPLT.out
        clear hu hcs hvall hvl hvl2 e0 e1 e3 f0 f1 f3
        generalize L[j] = l at hcs2 hlC HT
        go_wp2_with fail
        go_region_law (first
          | (refine step_copy (by rfl) _ _ (by rfl) (by rfl) u l (show ShowCalls wr.drew u l from hcs2) (by rfl) hlC ?_; intro aC mC capC wC ownC hbC'; have hbC := below_drewn hbC'; have hsC : SelfIs wC W.heap.size cpus pages vc (.slice a5 n5 c5) := (hbC.block W.heap.size (lt_of_block hself)).trans hself; have hzC := hbC.size; have c2C := (self4 hsC).2.2.1; have hltC : W.heap.size < wC.heap.size := lt_of_block hsC)
          | (refine step_valsB (by rfl) _ _ (by rfl) vc vs (World.ownsRow.alloc (own_below' hvs hbC) _) (by rfl) (.slice aC mC capC) rfl wC.heap.size (0, 0) (heap_new _ _) (by rfl) HVL2.out (by rw [size_alloc]; omega) ?_; intro aD mD capD wD ownD gD; have hsD := self_after hsC gD hneS; have d2 := (self4 hsD).2.2.1; have df := self_free hsD 2))
        all_goals
          have gD' := Grew.ofAlloc gD
          have hlD : Lists W3.heap.size wD (.slice aD mD capD) (L.take (j + 1)) := by
            rw [HT.out]
            exact Lists.snoc (own_below' hvs hbC) ownD gD'.grow HVL.out (fun i h h' => own_below' (HV.out i h h') hbC) (OwnCalls.mono ownC (show W3.heap.size ≤ wr.heap.size from hz))
          have hiD : OwnInts W.heap.size wD (.slice a5 n5 c5) P := by
            refine World.ownsRow.kept (own_below' hints hbC) gD'.grow ?_
            by_cases hn : (Value.slice a5 n5 c5).ownBlock = none
            · exact .inl hn
            · right
              intro e
              obtain ⟨g, hg⟩ : ∃ g, (Value.slice a5 n5 c5).ownBlock = some g := by
                cases hb : (Value.slice a5 n5 c5).ownBlock with
                | none => exact absurd hb hn
                | some g => exact ⟨g, rfl⟩
              have h1 := hplt g hg
              have h2 := hvlt g (e.symm.trans hg)
              omega
          have hbD : Below W.heap.size W wD := (hbW2.trans (hbC.mono hbW2.size)).trans (gD'.below (by have := hbW2.size; omega) (fun i hi => by have := hvlt i hi; omega))
          have hzD := gD'.grow.size
          have hi2 : ∀ v', OwnInts W.heap.size (wD.setCell ⟨W.heap.size, 2, none⟩ v') (.slice a5 n5 c5) P := fun v' => ownsRow_setCell_other hiD (fun e => HF5.out W.heap.size e rfl) v'
          clear HV HVL HT gD' gD ownD ownC hbC hbC' hvlt hplt
          go_wp2
          go_roundw
          case rel => exact ⟨j + 1, .slice aD mD capD, by omega, by go_num, hsD.set2 _, hlD.set (by omega) _ _, hi2 _, hbD.setCell (p := ⟨W.heap.size, 2, none⟩) hF3 _, by simp; omega⟩
          case measure => simp [intOf]; omega
      · have hje : j = L.length := by omega
        subst hje
        rw [List.take_length] at hlists
        have hres := (hbW2.block (w.heap.size + 1) (by omega)).trans HW1.out
        obtain ⟨d0, d1, d2, d3⟩ := self4 hres
        have g0 := self_free hres 0
        have g1 := self_free hres 1
        have g2 := self_free hres 2
        have g3 := self_free hres 3
        obtain ⟨ac, mc, capc, rfl⟩ : ∃ ac mc capc, vc = .slice ac mc capc := by
          obtain ⟨vs, hvs, _⟩ := hlists
          obtain ⟨ac, capc, e⟩ := own_form hvs
          exact ⟨ac, _, capc, e⟩
        have hK1 : w.heap.size + 1 < W3.heap.size := by omega
        have HLS := Lib.hid hlists
        have HIN := Lib.hid hints
        have HBW := Lib.hid hbw
        clear hres hlists hints hbw hself hbox
        go_wp2
        refine bodyPost_ret (v := .agg #[.int .i64 cpus, .int .i64 pages, .slice ac mc capc, .slice a5 n5 c5]) (by simp [results, cres, go_sem, d0, d1, d2, d3]) rfl ?_
        refine ⟨_, _, _, _, _, _, rfl, ⟨_, _, rfl, ((((HLS.out.set hK1 0 _).set hK1 1 _).set hK1 2 _).set hK1 3 _).shows, ((((HIN.out.set hzW1 0 _).set hzW1 1 _).set hzW1 2 _).set hzW1 3 _).shows⟩, (((HBW.out.setCell (p := ⟨w.heap.size + 1, 0, none⟩) (Nat.le_succ _) _).setCell (p := ⟨w.heap.size + 1, 1, none⟩) (Nat.le_succ _) _).setCell (p := ⟨w.heap.size + 1, 2, none⟩) (Nat.le_succ _) _).setCell (p := ⟨w.heap.size + 1, 3, none⟩) (Nat.le_succ _) _⟩
end Go.Proofs.Ytifkkblmcdggmaa
