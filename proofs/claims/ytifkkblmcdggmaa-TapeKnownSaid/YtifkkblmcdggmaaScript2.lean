/-
  The program's Script.
-/
import Derived.Test.YtifkkblmcdggmaaScript
import Derived.Deep.RegionLaw
set_option linter.unusedVariables false
set_option linter.unusedSimpArgs false
namespace Go.Proofs.Ytifkkblmcdggmaa
open Go Go.RowKit

theorem rd_start {w : World} {ao : Option Addr} {l : List Int} {cap : Nat} (o : Obj) (hcap : l.length ≤ cap ∧ cap ≤ 9223372036854775807)
    (hat : ∀ i (hi : i < l.length), ∃ b o, ao = some ⟨b, o, none⟩ ∧ w.cell? ⟨b, o + i, none⟩ = some (.int .u8 l[i])) :
    Rd w.heap.size ((w.alloc o).alloc (.cells #[.slice ao l.length cap] 51)) (w.heap.size + 1) l := by
  refine ⟨by omega, ao, cap, heap_new2 _ _ _, hcap, fun j hj => ?_⟩
  obtain ⟨b, o', e, hx⟩ := hat j hj
  have hB := World.block_lt_of_cell? w _ hx
  have hb : Below w.heap.size w ((w.alloc o).alloc (.cells #[.slice ao l.length cap] 51)) := below_one (below_one (Below.refl _ _) _) _
  exact ⟨b, o', e, hB, (hb.cell (p := ⟨b, o' + j, none⟩) hB).trans hx⟩

theorem drew_grown {w w' : World} {r : Option Nat} (h : w.drew.grownBy w' r) : w.grownBy w' r := ⟨h.os, h.tape, h.output, h.size, h.block⟩
theorem self_after {w w' : World} {o : Obj} {K : Nat} {cpus pages : Int} {vc vp v v' : Value} (h : SelfIs w K cpus pages vc vp) (g : Grew (w.alloc o) w' v v') (hne : v.ownBlock ≠ some K) : SelfIs w' K cpus pages vc vp :=
  SelfIs.grew (w := w) h (Grew.ofAlloc g) hne
theorem res18 : Try.f18.results = #[.cell 2 25] := rfl
theorem cReadCalls' (B k : Nat) (l : List Int) (w : World) (h : Rd B w k l) (hy : Bytey l) :
    Calls Try.prog 30 #[nextOf k] w fun e w' => ∃ ao m cap, e = .returned (.slice ao m cap) ∧ OwnCalls w.heap.size w' (.slice ao m cap) (decL l) ∧ Rd B w' k (stepL l) ∧ w.grownBy w' (some k) := by
  refine (cReadCalls B k l w h hy).mono ?_
  rintro e w' ⟨v, rfl, h1, h2, h3⟩
  obtain ⟨ao, cap, rfl⟩ := own_form h1
  exact ⟨ao, _, cap, rfl, h1, h2, h3⟩
set_option maxHeartbeats 8000000 in
set_option maxRecDepth 100000 in
theorem cScript (v : Value) (l : List Int) (w : World) (hv : ShowBytes w v l) (hy : Bytey l) :
    Calls Try.prog 18 #[v] w fun e w' => ∃ vc vp, e = .returned (.agg #[.int .i64 (dec l).cpus, .int .i64 (dec l).pages, vc, vp]) ∧ ShowLists w' vc (dec l).calls ∧ OwnInts w.heap.size w' vp (dec l).picks ∧ Below w.heap.size w w' := by
  obtain ⟨ao, cap, rfl, hcap, hat⟩ := hv.form
  obtain ⟨x0, e0⟩ : ∃ x, nx l = x := ⟨_, rfl⟩
  obtain ⟨x1, e1⟩ : ∃ x, two (l.drop 1) = x := ⟨_, rfl⟩
  obtain ⟨n, hn⟩ : ∃ n, cpusOf l = n := ⟨_, rfl⟩
  have hx0 : 0 ≤ x0 ∧ x0 ≤ 255 := by rw [← e0]; exact hy.nx
  have hx1 : 0 ≤ x1 ∧ x1 ≤ 65535 := by rw [← e1]; exact (hy.drop 1).two
  have hn8 : 1 ≤ n ∧ n ≤ 8 := by rw [← hn]; exact cpusOf_le l
  have hne : (n : Int) = 1 + x0 % 8 := by rw [← hn, ← e0]; exact cpusOf_eq l
  have hm0 : x0.tmod 8 = (n : Int) - 1 := by rw [Int.tmod_eq_emod_of_nonneg hx0.1]; omega
  obtain ⟨pg, hpg⟩ : ∃ pg, 1 + x1 % 1024 = pg := ⟨_, rfl⟩
  have hm1 : x1.tmod 1024 = pg - 1 := by rw [Int.tmod_eq_emod_of_nonneg hx1.1]; omega
  have hpg' : 1 ≤ pg ∧ pg ≤ 1024 := by omega
  have HD : Hid (dec l = { cpus := n, pages := pg, calls := decLs n (l.drop 3), picks := (rest n (l.drop 3)).take 4096 }) := Lib.hid (by
    unfold dec
    rw [hn, e0, e1, hpg, ← hne])
  have H0 := Lib.hid e0
  have H1 := Lib.hid e1
  have hy3 := hy.drop 3
  obtain ⟨l3, hl3⟩ : ∃ l3, l.drop 3 = l3 := ⟨_, rfl⟩
  have HL3 := Lib.hid hl3
  rw [HD.out]
  rw [hl3] at hy3 ⊢
  have hr0 := fun o => rd_start (w := w) o hcap hat
  have HR := Lib.hid hr0
  have e1n : (1 : Int) + ((n : Int) - 1) = n := by omega
  have e1p : (1 : Int) + (pg - 1) = pg := by omega
  clear e0 e1 hn hne hpg hv hat hl3 hr0
  go_enter Try.func18, Try.ntmps18
  go_wp2_with fail
  refine (cNext w.heap.size _ l _ (HR.out _) hy).mono ?_
  rintro e w1 ⟨rfl, r1, g1⟩
  rw [H0.out]
  go_wp2_with fail
  refine (cReadTwo w.heap.size _ _ _ r1 (hy.drop 1)).mono ?_
  rintro e w2 ⟨rfl, r2, g2⟩
  rw [H1.out]
  rw [List.drop_drop, show 1 + 2 = 3 from rfl, HL3.out] at r2
  have gA := grown_trans g1 g2
  have hzA := gA.size
  rw [size_alloc, size_alloc] at hzA
  have hbA : Below w.heap.size w w2 := (below_one (below_one (Below.refl _ _) _) _).trans (below_grown gA (by omega) (by rw [size_alloc, size_alloc]; omega))
  have hres : w2.heap[w.heap.size]? = some (.cells #[.int .i64 0, .int .i64 0, .slice none 0 0, .slice none 0 0] 25 (0, 0)) := by
    rw [gA.block _ (by rw [size_alloc, size_alloc]; omega) (fun e => by have := Option.some.inj e; omega), Below.heap_alloc _ _ _ (by rw [size_alloc]; omega)]
    exact heap_new _ _
  clear r1 g1 g2
  go_wp2
  go_loopw [20] (fun i wr => ∃ (j : Nat) (vc : Value), j ≤ n ∧ i = .int .i64 j ∧ SelfIs wr w2.heap.size n pg vc (.slice none 0 0) ∧ Lists (w2.heap.size + 1) wr vc (decLs j l3) ∧ Rd w.heap.size wr (w.heap.size + 1) (rest j l3) ∧ w2.grownBy wr (some (w.heap.size + 1))) (fun i _ => n - (intOf i).toNat)
  case atStart => exact ⟨0, _, by omega, rfl, heap_new _ _, Lists.nil _ _, r2.alloc _, grown_alloc (grown_refl _ _) _⟩
  case round =>
    obtain ⟨j, vc, hj, rfl, hself, hlists, hr, hg⟩ := hrel
    have hz := hg.size
    have hsz := lt_of_block hself
    by_cases hlt : j < n
    · obtain ⟨vs, hvs, hvl, hvall⟩ := hlists
      have hyj := hy3.rest j
      have HS : Hid (rest (j + 1) l3 = stepL (rest j l3)) := Lib.hid rfl
      have HL : Hid (decLs (j + 1) l3 = decLs j l3 ++ [decL (rest j l3)]) := Lib.hid (decLs_succ _ _)
      have HV := Lib.hid hvall
      have HVL := Lib.hid hvl
      have hvs5 : vs.length ≤ 100000 := by rw [hvl, decLs_length]; omega
      obtain ⟨c0, c1, c2, c3⟩ := self4 hself
      have hneS : vc.ownBlock ≠ some w2.heap.size := fun e => by have := (World.ownsRow.lt hvs _ e).1; omega
      clear hvall hvl c0 c1 c3
      go_wp2_with fail
      go_region_law (first
        | (refine step_vals (by rfl) _ _ (by rfl) vc vs (World.ownsRow.alloc (kept_grown hvs gC (by omega)) _) (by rfl) (.slice aC mC capC) rfl wC.heap.size (0, 0) (heap_new _ _) (by rfl) hvs5 (by rw [size_alloc]; omega) ?_; intro aD mD capD wD ownD gD; have hsD := self_after hsC gD hneS; have d2 := (self4 hsD).2.2.1; have df := self_free hsD 2)
        | (go_simp; go_at_call 30; refine (cReadCalls' w.heap.size (w.heap.size + 1) (rest j l3) _ (show Rd w.heap.size wr.drew (w.heap.size + 1) (rest j l3) from hr) hyj).mono ?_; rintro e wC ⟨aC, mC, capC, rfl, ownC, rC, gC'⟩; have gC := drew_grown gC'; have hsC : SelfIs wC w2.heap.size n pg vc (.slice none 0 0) := SelfIs.grown hself gC (by omega); have hzC := gC.size; have c2C := (self4 hsC).2.2.1; have hltC : w2.heap.size < wC.heap.size := lt_of_block hsC))
      all_goals
        have gD' := Grew.ofAlloc gD
        have hvlt : ∀ i, vc.ownBlock = some i → w2.heap.size + 1 ≤ i := fun i hi => (World.ownsRow.lt hvs i hi).1
        have hlD : Lists (w2.heap.size + 1) wD (.slice aD mD capD) (decLs (j + 1) l3) := by
          rw [HL.out]
          exact Lists.snoc (kept_grown hvs gC (by omega)) ownD gD'.grow HVL.out (fun i h h' => kept_grown (HV.out i h h') gC (by omega)) (ownC.mono (show w2.heap.size + 1 ≤ wr.heap.size by omega))
        have hrD : Rd w.heap.size wD (w.heap.size + 1) (rest (j + 1) l3) := by
          rw [HS.out]
          exact rC.keep (gD'.grow.block _ (by omega) (fun e => by have := hvlt _ e.symm; omega)) (gD'.below (by omega) (fun i hi => by have := hvlt i hi; omega))
        have hgD : w2.grownBy wD (some (w.heap.size + 1)) := grown_own (grown_trans hg gC) gD' (Nat.le_succ _) hvlt
        clear HS HL HV HVL gD' hvlt gD gC ownD ownC rC
        go_wp2
        go_roundw
        case rel => exact ⟨j + 1, .slice aD mD capD, by omega, by go_num, hsD.set2 _, hlD.set (by omega) _ _, hrD.set (by omega) (by omega) _ _, grown_new hgD (Nat.le_refl _) _ _⟩
        case measure => simp [intOf]; omega
    · have hke : j = n := by omega
      subst hke
      obtain ⟨l4, hl4⟩ : ∃ l4, rest j l3 = l4 := ⟨_, rfl⟩
      have hy4 : Bytey l4 := by rw [← hl4]; exact hy3.rest j
      rw [hl4] at hr
      have HL4 := Lib.hid hl4
      obtain ⟨hBk, ar, capr, hrc, hrcap, hrat⟩ := hr
      have hr : Rd w.heap.size wr (w.heap.size + 1) l4 := ⟨hBk, ar, capr, hrc, hrcap, hrat⟩
      have hrcell : wr.cell? ⟨w.heap.size + 1, 0, none⟩ = some (.slice ar l4.length capr) := cell_of_one hrc
      obtain ⟨m, hm⟩ : ∃ m, min l4.length 4096 = m := ⟨_, rfl⟩
      have hmin : min (l4.length : Int) 4096 = (m : Int) := by omega
      have hm1 : m ≤ 4096 := by omega
      have hm2 : m ≤ l4.length := by omega
      have HM : Hid (l4.take 4096 = l4.take m) := Lib.hid (by rw [← hm, Nat.min_comm, List.take_eq_take_min])
      clear hm hrat hrc hl4
      have hside : (l4.length ≤ 4096 ∧ m ≤ l4.length ∧ l4.length ≤ m) ∨ (4096 < l4.length ∧ m ≤ 4096 ∧ 4096 ≤ m) := by omega
      clear hmin hm1
      rcases hside with ⟨hs1, hs2, hs3⟩ | ⟨hs1, hs2, hs3⟩
      all_goals
        go_wp2
        go_loopw [34] (fun i wr => ∃ (q : Nat) (vp : Value), q ≤ m ∧ i = .int .i64 q ∧ SelfIs wr w2.heap.size j pg vc vp ∧ OwnInts (w2.heap.size + 1) wr vp (l4.take q) ∧ Lists (w2.heap.size + 1) wr vc (decLs j l3) ∧ Rd w.heap.size wr (w.heap.size + 1) (l4.drop q) ∧ w2.grownBy wr (some (w.heap.size + 1))) (fun i _ => m - (intOf i).toNat)
        case atStart => exact ⟨0, _, by omega, rfl, hself, World.ownsRow_nil _ _ _ _, hlists, hr, hg⟩
        case round =>
          clear hself hlists hr hg hz hsz hrcell
          obtain ⟨q, vp, hq, rfl, hself, hints, hlists, hr, hg⟩ := hrel
          have hz := hg.size
          have hsz := lt_of_block hself
          by_cases hlt : q < m
          · have hlq : q < l4.length := by omega
            have HT : Hid (l4.take (q + 1) = l4.take q ++ [nx (l4.drop q)]) := Lib.hid (by
              rw [List.take_succ_eq_append_getElem hlq, List.drop_eq_getElem_cons hlq]
              rfl)
            have hyq := hy4.drop q
            have hlen : (l4.take q).length ≤ 100000 := by rw [List.length_take]; omega
            have hneS : vp.ownBlock ≠ some w2.heap.size := fun e => by have := (World.ownsRow.lt hints _ e).1; omega
            obtain ⟨c0, c1, c2, c3⟩ := self4 hself
            clear c0 c1 c2
            go_wp2_with fail
            go_region_law (first
              | (refine step_ints (by rfl) _ _ (by rfl) vp (l4.take q) (World.ownsRow.alloc (kept_grown hints gC (by omega)) _) (by rfl) (nx (l4.drop q)) wC.heap.size (0, 0) (heap_new _ _) (by rfl) hlen (by rw [size_alloc]; omega) ?_; intro aD mD capD wD ownD gD; have hsD := self_after hsC gD hneS; have d2 := (self4 hsD).2.2.2; have df := self_free hsD 3)
              | (go_simp; go_at_call 28; refine (cNext w.heap.size (w.heap.size + 1) (l4.drop q) _ (show Rd w.heap.size wr.drew (w.heap.size + 1) (l4.drop q) from hr) hyq).mono ?_; rintro e wC ⟨rfl, rC, gC'⟩; have gC := drew_grown gC'; have hsC : SelfIs wC w2.heap.size j pg vc vp := SelfIs.grown hself gC (by omega); have hzC := gC.size; have c2C := (self4 hsC).2.2.2; have hltC : w2.heap.size < wC.heap.size := lt_of_block hsC))
            all_goals
              have gD' := Grew.ofAlloc gD
              have hvlt : ∀ i, vp.ownBlock = some i → w2.heap.size + 1 ≤ i := fun i hi => (World.ownsRow.lt hints i hi).1
              have hiD : OwnInts (w2.heap.size + 1) wD (.slice aD mD capD) (l4.take (q + 1)) := by
                rw [HT.out]
                exact ownD
              have hlD : Lists (w2.heap.size + 1) wD vc (decLs j l3) := (hlists.kept gC (by omega)).other (kept_grown hints gC (by omega)) gD'.grow
              have hrD : Rd w.heap.size wD (w.heap.size + 1) (l4.drop (q + 1)) := by
                rw [List.drop_drop] at rC
                exact rC.keep (gD'.grow.block _ (by omega) (fun e => by have := hvlt _ e.symm; omega)) (gD'.below (by omega) (fun i hi => by have := hvlt i hi; omega))
              have hgD : w2.grownBy wD (some (w.heap.size + 1)) := grown_own (grown_trans hg gC) gD' (Nat.le_succ _) hvlt
              clear HT gD' hvlt gD gC ownD rC
              go_wp2
              go_roundw
              case rel => exact ⟨q + 1, .slice aD mD capD, by omega, by go_num, hsD.set3 _, hiD.set (by omega) _ _, hlD.set (by omega) _ _, hrD.set (by omega) (by omega) _ _, grown_new hgD (Nat.le_refl _) _ _⟩
              case measure => simp [intOf]; omega
          · have hqe : q = m := by omega
            subst hqe
            have hresr : wr.heap[w.heap.size]? = _ := (hg.block _ (by omega) (fun e => by have := Option.some.inj e; omega)).trans hres
            obtain ⟨c0, c1, c2, c3⟩ := self4 hself
            obtain ⟨d0, d1, d2, d3⟩ := self4 hresr
            have f0 := self_free hresr 0
            have f1 := self_free hresr 1
            have f2 := self_free hresr 2
            have f3 := self_free hresr 3
            have hbF : Below w.heap.size w wr := hbA.trans (below_grown hg (by omega) (by omega))
            clear hresr
            obtain ⟨ac, mc, capc, rfl⟩ : ∃ ac mc capc, vc = .slice ac mc capc := by
              obtain ⟨vs, hvs, _⟩ := hlists
              obtain ⟨ac, capc, e⟩ := own_form hvs
              exact ⟨ac, _, capc, e⟩
            obtain ⟨ap, mp, capp, rfl⟩ : ∃ ap mp capp, vp = .slice ap mp capp := by
              obtain ⟨ap, capp, e⟩ := own_form hints
              exact ⟨ap, _, capp, e⟩
            go_wp2
            refine bodyPost_ret (v := .agg #[.int .i64 j, .int .i64 pg, .slice ac mc capc, .slice ap mp capp]) (by simp [results, res18, go_sem, d0, d1, d2, d3]) rfl ?_
            have hK : w.heap.size < w2.heap.size + 1 := by omega
            refine ⟨_, _, rfl, ((((hlists.set hK 0 _).set hK 1 _).set hK 2 _).set hK 3 _).shows, ?_, (((hbF.setCell (p := ⟨w.heap.size, 0, none⟩) (Nat.le_refl _) _).setCell (p := ⟨w.heap.size, 1, none⟩) (Nat.le_refl _) _).setCell (p := ⟨w.heap.size, 2, none⟩) (Nat.le_refl _) _).setCell (p := ⟨w.heap.size, 3, none⟩) (Nat.le_refl _) _⟩
            rw [HL4.out, HM.out]
            exact ((((hints.set hK 0 _).set hK 1 _).set hK 2 _).set hK 3 _).mono (by omega)
end Go.Proofs.Ytifkkblmcdggmaa
