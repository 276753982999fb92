/-
  ChartNames walked.
-/
import Derived.Test.YtnnfmlbgoplnaaaWk
set_option linter.unusedVariables false
set_option linter.unusedSimpArgs false
namespace Go.Proofs.Ytnnfmlbgoplnaaa
open Go Go.RowKit

/-- charts that may not be -/
def badL : List Ch := [⟨0, 0, 0, 0, 0, 0⟩, ⟨9, 1, 1, 0, 0, 0⟩, ⟨1, 33, 1, 0, 0, 0⟩, ⟨1, 1, 17, 0, 0, 0⟩, ⟨1, 1, 1, 33, 0, 0⟩, ⟨1, 1, 1, 0, -1, 0⟩]
def badO : Obj := .cells (badL.flatMap (fun c => c.arr.toList)).toArray 24
def bigC : Ch := ⟨8, 32, 16, 32, 32, 0⟩
theorem big_wf : bigC.wf := by constructor <;> (first | (unfold okI bigC; dsimp only; omega) | (unfold okW bigC; dsimp only; omega))
theorem bad_at (w : World) (g : Nat) (h : w.heap[g]? = some badO) (k : Nat) (hk : k < 6) : ∃ d : Ch, d.wf ∧ ¬ d.ok ∧ w.cell? ⟨g, k * 6, none⟩ = some (.int .i64 d.cpus) ∧ w.cell? ⟨g, k * 6 + 1, none⟩ = some (.int .i64 d.slabs) ∧ w.cell? ⟨g, k * 6 + 2, none⟩ = some (.int .i64 d.objs) ∧
    w.cell? ⟨g, k * 6 + 3, none⟩ = some (.int .i64 d.min) ∧ w.cell? ⟨g, k * 6 + 4, none⟩ = some (.int .i64 d.cap) ∧ w.cell? ⟨g, k * 6 + 5, none⟩ = some (.int .u64 d.key) := by
  refine ⟨badL[k]'(by simp [badL]; omega), ?_, ?_, ?_⟩
  · have : k = 0 ∨ k = 1 ∨ k = 2 ∨ k = 3 ∨ k = 4 ∨ k = 5 := by omega
    rcases this with rfl | rfl | rfl | rfl | rfl | rfl <;> (constructor <;> (first | (unfold okI; simp [badL]) | (unfold okW; simp [badL])))
  · have : k = 0 ∨ k = 1 ∨ k = 2 ∨ k = 3 ∨ k = 4 ∨ k = 5 := by omega
    rcases this with rfl | rfl | rfl | rfl | rfl | rfl <;> simp [badL, Ch.ok]
  · have hc : ∀ j u, (badL.flatMap (fun c => c.arr.toList)).toArray[j]? = some u → w.cell? ⟨g, j, none⟩ = some u := fun j u hu => self_cell h j u hu
    have : k = 0 ∨ k = 1 ∨ k = 2 ∨ k = 3 ∨ k = 4 ∨ k = 5 := by omega
    rcases this with rfl | rfl | rfl | rfl | rfl | rfl <;> exact ⟨hc _ _ rfl, hc _ _ rfl, hc _ _ rfl, hc _ _ rfl, hc _ _ rfl, hc _ _ rfl⟩
set_option maxHeartbeats 8000000 in
set_option maxRecDepth 100000 in
theorem walkNames (W : World) : Calls Try.prog 7 #[] W fun e W' => e = .returned (.bool true) ∧ Below W.heap.size W W' := by
  have HSee : Hid (∀ (d : Ch) w, d.wf → ¬ d.ok → Calls Try.prog 33 #[.slice none 0 0, d.agg] w fun e w' => ∃ u1 u2 u3 M N, e = .returned (.tuple #[.agg #[u1, u2, .bool false, u3], .int .i64 2]) ∧ CrIn w.heap.size w' zCr u1 u2 u3 M N ∧ Below w.heap.size w w') := Lib.hid (fun d w hw hn => (pSeeBad _ [] d hw (fun e => hn e.1) w (ShowU.nil w)).mono (fun e w' h => by
    rw [see_no (fun e => hn e.1)] at h
    exact gives_in h))
  have HChk : Hid (∀ (d : Ch) w, d.wf → ¬ d.ok → Calls Try.prog 8 #[d.agg] w fun e w' => e = .returned (.int .i64 2) ∧ Below w.heap.size w w') := Lib.hid (fun d w hw hn => by have := pCheck d hw w; rwa [Ch.chk_no hn] at this)
  have HWds : Hid (∀ (d : Ch) w, d.wf → ¬ d.ok → Calls Try.prog 9 #[d.agg] w fun e w' => e = .returned (.int .i64 0) ∧ Below w.heap.size w w') := Lib.hid (fun d w hw hn => by have := pWords d hw w; rwa [show d.words = 0 from if_neg hn] at this)
  have HLck : Hid (∀ (d : Ch) w, d.wf → ¬ d.ok → Calls Try.prog 12 #[d.agg] w fun e w' => e = .returned (.int .i64 (-1)) ∧ Below w.heap.size w w') := Lib.hid (fun d w hw hn => by have := pLock d hw w; rwa [show d.lock = -1 from Ch.at_no hn] at this)
  have HSM := Lib.hid (fun w => cSmall w)
  have HSE : Hid (∀ u w, ShowU w u (List.replicate 35 0) → Calls Try.prog 33 #[u, smC.agg] w fun e w' => ∃ u1 u2 u3 M N, e = .returned (.tuple #[.agg #[u1, u2, .bool false, u3], .int .i64 2]) ∧ CrIn w.heap.size w' zCr u1 u2 u3 M N ∧ Below w.heap.size w w') := Lib.hid (fun u w hu => (pSeeBad u _ smC sm_wf (by decide) w hu).mono (fun e w' h => by
    rw [see_no (by decide)] at h
    exact gives_in h))
  have HK0 : Hid (∀ w, Calls Try.prog 29 #[smC.agg, .int .i64 0] w fun e w' => e = .returned (.int .u64 0) ∧ Below w.heap.size w w') := Lib.hid (fun w => pKey smC 0 w)
  have HK1 : Hid (∀ w, Calls Try.prog 29 #[smC.agg, .int .i64 1] w fun e w' => e = .returned (.int .u64 11400714819323198485) ∧ Below w.heap.size w w') := Lib.hid (fun w => pKey smC 1 w)
  obtain ⟨O, hO, hR⟩ := makeW 35 (by decide)
  have HR : Hid (∀ w : World, ShowU (w.alloc O) (.slice (some ⟨w.heap.size, 0, none⟩) 35 35) (List.replicate 35 0)) := Lib.hid (fun w => by rw [← fn_zero]; exact (hR w).shows (by decide))
  have HO2 : Hid (∀ w : World, (Instr.makeSlice 35 (.int .i64 35) (.int .i64 35)).run Try.prog w = .ok (.slice (some ⟨w.heap.size, 0, none⟩) 35 35) (w.alloc O)) := Lib.hid hO
  clear hR hO
  generalize smC = d at *
  have H0 : Hid (∀ w, Calls Try.prog 8 #[bigC.agg] w fun e w' => e = .returned (.int .i64 0) ∧ Below w.heap.size w w') := Lib.hid (fun w => pCheck bigC big_wf w)
  have H1 : Hid (∀ w, Calls Try.prog 9 #[bigC.agg] w fun e w' => e = .returned (.int .i64 676) ∧ Below w.heap.size w w') := Lib.hid (fun w => pWords bigC big_wf w)
  have H2 : Hid (∀ w, Calls Try.prog 10 #[bigC.agg, .int .i64 8] w fun e w' => e = .returned (.int .i64 (-1)) ∧ Below w.heap.size w w') := Lib.hid (fun w => pHead bigC big_wf 8 w)
  have H3 : Hid (∀ w, Calls Try.prog 15 #[bigC.agg, .int .i64 32] w fun e w' => e = .returned (.int .i64 (-1)) ∧ Below w.heap.size w w') := Lib.hid (fun w => pFirst bigC big_wf 32 w)
  have H4 : Hid (∀ w, Calls Try.prog 17 #[bigC.agg, .int .i64 (-1), .int .i64 0] w fun e w' => e = .returned (.int .i64 (-1)) ∧ Below w.heap.size w w') := Lib.hid (fun w => pLink bigC big_wf (-1) 0 w)
  go_enter Try.func7, Try.ntmps7
  go_wp2
  generalize hO : (Obj.cells _ 24 (0, 0)) = OB
  have hOB : OB = badO := by rw [← hO]; rfl
  clear hO
  subst hOB
  have HB0 : Hid ((W.alloc badO).heap[W.heap.size]? = some badO ∧ Below W.heap.size W (W.alloc badO)) := Lib.hid ⟨heap_new _ _, below_one (Below.refl _ _) _⟩
  go_loopw [2] (fun x wr => ∃ k : Nat, x = .int .i64 k ∧ k ≤ 6 ∧ Hid (wr.heap[W.heap.size]? = some badO ∧ Below W.heap.size W wr)) (fun x _ => 6 - (intOf x).toNat)
  case atStart => exact ⟨0, rfl, by omega, HB0⟩
  case round =>
    clear HB0
    obtain ⟨k, rfl, hk, HX⟩ := hrel
    by_cases hlt : k < 6
    · obtain ⟨d, hdw, hdn, e0, e1, e2, e3, e4, e5⟩ := bad_at wr W.heap.size HX.out.1 k hlt
      have HS := Lib.hid (fun w => HSee.out d w hdw hdn)
      have HC := Lib.hid (fun w => HChk.out d w hdw hdn)
      have HWd := Lib.hid (fun w => HWds.out d w hdw hdn)
      have HL := Lib.hid (fun w => HLck.out d w hdw hdn)
      have HE : Hid (∀ w', Below wr.heap.size wr w' → w'.cell? ⟨W.heap.size, k * 6, none⟩ = some (.int .i64 d.cpus) ∧ w'.cell? ⟨W.heap.size, k * 6 + 1, none⟩ = some (.int .i64 d.slabs) ∧ w'.cell? ⟨W.heap.size, k * 6 + 2, none⟩ = some (.int .i64 d.objs) ∧
          w'.cell? ⟨W.heap.size, k * 6 + 3, none⟩ = some (.int .i64 d.min) ∧ w'.cell? ⟨W.heap.size, k * 6 + 4, none⟩ = some (.int .i64 d.cap) ∧ w'.cell? ⟨W.heap.size, k * 6 + 5, none⟩ = some (.int .u64 d.key)) := Lib.hid (fun w' hb => ⟨cell_keep hb e0, cell_keep hb e1, cell_keep hb e2, cell_keep hb e3, cell_keep hb e4, cell_keep hb e5⟩)
      clear hdw hdn
      go_wp2_with fail
      refine (HS.out _).mono ?_
      rintro e w1 ⟨u1, u2, u3, M, N, rfl, hc, hb1⟩
      obtain ⟨a1, n1, p1, rfl⟩ := hc.slots.slice
      obtain ⟨a2, n2, p2, rfl⟩ := hc.shelf.slice
      obtain ⟨a3, n3, p3, rfl⟩ := hc.slabs.slice
      have HB1 := Lib.hid hb1
      clear hc hb1 HS e0 e1 e2 e3 e4 e5
      go_wp2_with (refine wpList_storeR rtCore (by rfl) _ _ (by rfl) w1.heap.size #[.slice a1 n1 p1, .slice a2 n2 p2, .bool false, .slice a3 n3 p3] (by rfl) (by rfl) (by rfl) (by simp [Value.oneCell']) _ (heap_new w1 cr0) rfl ?_; intro w2 h2 k2; refine Stop.mk ?_)
      unfold Stop
      have HB2 := Lib.hid (below_then HB1.out (below_one_kept (below_one (Below.refl w1.heap.size w1) cr0) k2 (Nat.le_refl _)))
      clear h2 k2 HB1
      obtain ⟨e0, e1, e2, e3, e4, e5⟩ := HE.out _ HB2.out
      go_wp2_with fail
      refine (HC.out _).mono ?_
      rintro e w3 ⟨rfl, hb3⟩
      have HB3 := Lib.hid (below_then HB2.out hb3)
      clear hb3 HB2 HC e0 e1 e2 e3 e4 e5
      obtain ⟨e0, e1, e2, e3, e4, e5⟩ := HE.out _ HB3.out
      go_wp2_with fail
      refine (HWd.out _).mono ?_
      rintro e w4 ⟨rfl, hb4⟩
      have HB4 := Lib.hid (below_then HB3.out hb4)
      clear hb4 HB3 HWd e0 e1 e2 e3 e4 e5
      obtain ⟨e0, e1, e2, e3, e4, e5⟩ := HE.out _ HB4.out
      go_wp2_with fail
      refine (HL.out _).mono ?_
      rintro e w5 ⟨rfl, hb5⟩
      have HB5 := Lib.hid (below_then HB4.out hb5)
      clear hb5 HB4 HL e0 e1 e2 e3 e4 e5
      have HX2 := Lib.hid (And.intro (keep_block HX.out.1 HB5.out) (below_then HX.out.2 HB5.out))
      go_wp2
      go_roundw
      case rel => exact ⟨k + 1, by go_num, by omega, HX2⟩
      case measure => simp [intOf]; omega
    · obtain rfl : k = 6 := by omega
      rw [show ((6 : Nat) : Int) = 6 from rfl]
      have HL0 := Lib.hid HX.out.2
      clear HX HSee HChk HWds HLck
      go_wp2_with (refine wpList_storeR rtCh (by rfl) _ _ (by rfl) wr.heap.size bigC.arr (by rfl) (by rfl) (by rfl) (by simp [Value.oneCell']) _ (heap_new wr (chO zChart)) rfl ?_; intro w2 h2 k2; refine Stop.mk ?_)
      unfold Stop
      have HT2 : Hid (ChAt w2 wr.heap.size bigC ∧ Below W.heap.size W w2) := Lib.hid ⟨h2, below_then HL0.out (below_one_kept (below_one (Below.refl wr.heap.size wr) (chO zChart)) k2 (Nat.le_refl _))⟩
      clear h2 k2 HL0
      generalize bigC = b at *
      generalize wr.heap.size = J at *
      go_wp2
      go_cut [6, 7] from 56 (fun s6 s7 wx => s7 = .int .i64 2 ∧ Hid (ChAt wx J b ∧ Below W.heap.size W wx))
      case first =>
        have hO2 := HO2.out
        refine wp_region_held_drew (S := fun _ => True) (by kernel_rfl) trivial (fun hH1 => ?_)
        obtain ⟨y0, hy0⟩ : ∃ x, w2.drew = x := ⟨_, rfl⟩
        have hb : Below w2.drew.heap.size w2.drew y0 := by rw [← hy0]; exact Below.refl _ _
        rw [hy0]
        clear hy0 hH1
        refine wpAnyH_ready (rs := [0, 1, 6]) (by kernel_rfl) (by simp) ?_
        refine AllReadyH.cons rfl (fun K hK => ?_) ?_
        · have hz := below_one (Below.refl y0.heap.size y0) O
          replace hb := below_one hb O
          have hu := HR.out y0
          go_simp
          refine hK.out _ _ ?_ (fun hHn => ?_)
          · first | exact trivial | (dsimp only; exact trivial)
          clear hK K
          clear hz
          obtain ⟨y1, hw⟩ : ∃ x, y0.alloc O = x := ⟨_, rfl⟩
          rw [hw] at hb hu ⊢
          clear hw
          generalize y0.heap.size = gM at *
          refine wpAnyH_ready (rs := [1, 6]) (by kernel_rfl) (by simp) ?_
          refine AllReadyH.cons rfl (fun K hK => ?_) ?_
          · go_simp
            go_wp2_with (go_at_call 39; refine (HSM.out _).mono ?_; rintro e y2 ⟨rfl, hz⟩; replace hb := below_then hb hz; replace hu := hu.below hz)
            refine hK.out _ _ ?_ (fun hHn => ?_)
            · first | exact trivial | (dsimp only; exact trivial)
            clear hK K
            clear hz
            refine wpAnyH_ready (rs := [2, 6]) (by kernel_rfl) (by simp) ?_
            refine AllReadyH.cons rfl (fun K hK => ?_) ?_
            · go_simp
              go_wp2_with (go_at_call 33; refine (HSE.out _ _ hu).mono ?_; rintro e y3 ⟨u1, u2, u3, M, N, rfl, hc, hz⟩; replace hb := below_then hb hz; replace hu := hu.below hz; obtain ⟨a1, n1, p1, rfl⟩ := hc.slots.slice; obtain ⟨a2, n2, p2, rfl⟩ := hc.shelf.slice; obtain ⟨a3, n3, p3, rfl⟩ := hc.slabs.slice)
              refine hK.out _ _ ?_ (fun hHn => ?_)
              · first | exact trivial | (dsimp only; exact trivial)
              clear hK K
              clear hz
              refine' take_at (i := 3) (d := some 56) (v := _) rfl rfl (by kernel_rfl) (by kernel_rfl) (by kernel_rfl) (fun _ _ _ h => h) (Or.inl ⟨by rfl, ?hyt13⟩) (trivial) ?restt13
              case hyt13 => (intro w hSw; (try dsimp only at hSw); go_simp; try with_reducible rfl)
              try simp only [Act.put, List.setIfInBounds_toArray, List.set_cons_zero, List.set_cons_succ]
              refine' take_at (i := 4) (d := some 60) (v := _) rfl rfl (by kernel_rfl) (by kernel_rfl) (by kernel_rfl) (fun _ _ _ h => h) (Or.inl ⟨by rfl, ?hyt24⟩) (trivial) ?restt24
              case hyt24 => (intro w hSw; (try dsimp only at hSw); go_simp; try with_reducible rfl)
              try simp only [Act.put, List.setIfInBounds_toArray, List.set_cons_zero, List.set_cons_succ]
              refine' take_at (i := 5) (d := some 61) (v := _) rfl rfl (by kernel_rfl) (by kernel_rfl) (by kernel_rfl) (fun _ _ _ h => h) (Or.inl ⟨by rfl, ?hyt35⟩) (trivial) ?restt35
              case hyt35 => (intro w hSw; (try dsimp only at hSw); go_simp; try with_reducible rfl)
              try simp only [Act.put, List.setIfInBounds_toArray, List.set_cons_zero, List.set_cons_succ]
              refine wpAnyH_ready (rs := [6]) (by kernel_rfl) (by simp) ?_
              refine AllReadyH.cons rfl (fun K hK => ?_) AllReadyH.nil
              have hz := below_one (Below.refl y3.heap.size y3) cr0
              have hA := hb.size
              replace hb := below_one hb cr0
              replace hu := hu.below hz
              replace hc := hc.below hz
              have ha : BlkAt 40 (y3.alloc cr0) y3.heap.size zCrC := heap_new _ _
              go_simp
              refine hK.out _ _ ?_ (fun hHn => ?_)
              · first | exact trivial | (dsimp only; exact trivial)
              clear hK K
              clear hz
              obtain ⟨y4, hw⟩ : ∃ x, y3.alloc cr0 = x := ⟨_, rfl⟩
              rw [hw] at hb hu ha hc ⊢
              clear hw
              generalize y3.heap.size = gA at *
              refine wpAnyH_ready (rs := [7]) (by kernel_rfl) (by simp) ?_
              refine AllReadyH.cons rfl (fun K hK => ?_) AllReadyH.nil
              refine step_storeR rtCore (by rfl) _ _ (by rfl) gA #[.slice a1 n1 p1, .slice a2 n2 p2, .bool false, .slice a3 n3 p3] (by rfl) (by rfl) (by rfl) (by simp [Value.oneCell']) _ ha rfl ?_
              intro y5 hs ks
              replace hc := hc.keptC ks ha
              replace hb := below_kept hb ks (by rintro k rfl; exact hA)
              refine hK.out _ _ ?_ (fun hHn => ?_)
              · first | exact trivial | (dsimp only; exact trivial)
              clear hK K
              refine' take_at (i := 8) (d := some 7) (v := _) rfl rfl (by kernel_rfl) (by kernel_rfl) (by kernel_rfl) (fun _ _ _ h => h) (Or.inl ⟨by rfl, ?hyt48⟩) (trivial) ?restt48
              case hyt48 => (intro w hSw; (try dsimp only at hSw); go_simp; try with_reducible rfl)
              try simp only [Act.put, List.setIfInBounds_toArray, List.set_cons_zero, List.set_cons_succ]
              refine wpAnyH_done (by kernel_rfl) ?_ _
              go_wp2_with fail
              go_meet
              case rel => exact ⟨rfl, Lib.hid ⟨ChAt.below (w := w2.drew) HT2.out.1 hb, below_then (Below.drew HT2.out.2) hb⟩⟩
            refine AllReadyH.cons rfl (fun K hK => ?_) AllReadyH.nil
            have hz := below_one (Below.refl y2.heap.size y2) cr0
            have hA := hb.size
            replace hb := below_one hb cr0
            replace hu := hu.below hz
            have ha : BlkAt 40 (y2.alloc cr0) y2.heap.size zCrC := heap_new _ _
            go_simp
            refine hK.out _ _ ?_ (fun hHn => ?_)
            · first | exact trivial | (dsimp only; exact trivial)
            clear hK K
            clear hz
            obtain ⟨y3, hw⟩ : ∃ x, y2.alloc cr0 = x := ⟨_, rfl⟩
            rw [hw] at hb hu ha ⊢
            clear hw
            generalize y2.heap.size = gA at *
            refine wpAnyH_ready (rs := [2]) (by kernel_rfl) (by simp) ?_
            refine AllReadyH.cons rfl (fun K hK => ?_) AllReadyH.nil
            go_simp
            go_wp2_with (go_at_call 33; refine (HSE.out _ _ hu).mono ?_; rintro e y4 ⟨u1, u2, u3, M, N, rfl, hc, hz⟩; replace hb := below_then hb hz; replace hu := hu.below hz; replace ha := BlkAt.below ha hz; obtain ⟨a1, n1, p1, rfl⟩ := hc.slots.slice; obtain ⟨a2, n2, p2, rfl⟩ := hc.shelf.slice; obtain ⟨a3, n3, p3, rfl⟩ := hc.slabs.slice)
            refine hK.out _ _ ?_ (fun hHn => ?_)
            · first | exact trivial | (dsimp only; exact trivial)
            clear hK K
            clear hz
            refine' take_at (i := 3) (d := some 56) (v := _) rfl rfl (by kernel_rfl) (by kernel_rfl) (by kernel_rfl) (fun _ _ _ h => h) (Or.inl ⟨by rfl, ?hyt53⟩) (trivial) ?restt53
            case hyt53 => (intro w hSw; (try dsimp only at hSw); go_simp; try with_reducible rfl)
            try simp only [Act.put, List.setIfInBounds_toArray, List.set_cons_zero, List.set_cons_succ]
            refine' take_at (i := 4) (d := some 60) (v := _) rfl rfl (by kernel_rfl) (by kernel_rfl) (by kernel_rfl) (fun _ _ _ h => h) (Or.inl ⟨by rfl, ?hyt64⟩) (trivial) ?restt64
            case hyt64 => (intro w hSw; (try dsimp only at hSw); go_simp; try with_reducible rfl)
            try simp only [Act.put, List.setIfInBounds_toArray, List.set_cons_zero, List.set_cons_succ]
            refine' take_at (i := 5) (d := some 61) (v := _) rfl rfl (by kernel_rfl) (by kernel_rfl) (by kernel_rfl) (fun _ _ _ h => h) (Or.inl ⟨by rfl, ?hyt75⟩) (trivial) ?restt75
            case hyt75 => (intro w hSw; (try dsimp only at hSw); go_simp; try with_reducible rfl)
            try simp only [Act.put, List.setIfInBounds_toArray, List.set_cons_zero, List.set_cons_succ]
            refine wpAnyH_ready (rs := [7]) (by kernel_rfl) (by simp) ?_
            refine AllReadyH.cons rfl (fun K hK => ?_) AllReadyH.nil
            refine step_storeR rtCore (by rfl) _ _ (by rfl) gA #[.slice a1 n1 p1, .slice a2 n2 p2, .bool false, .slice a3 n3 p3] (by rfl) (by rfl) (by rfl) (by simp [Value.oneCell']) _ ha rfl ?_
            intro y5 hs ks
            replace hc := hc.keptC ks ha
            replace hb := below_kept hb ks (by rintro k rfl; exact hA)
            refine hK.out _ _ ?_ (fun hHn => ?_)
            · first | exact trivial | (dsimp only; exact trivial)
            clear hK K
            refine' take_at (i := 8) (d := some 7) (v := _) rfl rfl (by kernel_rfl) (by kernel_rfl) (by kernel_rfl) (fun _ _ _ h => h) (Or.inl ⟨by rfl, ?hyt88⟩) (trivial) ?restt88
            case hyt88 => (intro w hSw; (try dsimp only at hSw); go_simp; try with_reducible rfl)
            try simp only [Act.put, List.setIfInBounds_toArray, List.set_cons_zero, List.set_cons_succ]
            refine wpAnyH_done (by kernel_rfl) ?_ _
            go_wp2_with fail
            go_meet
            case rel => exact ⟨rfl, Lib.hid ⟨ChAt.below (w := w2.drew) HT2.out.1 hb, below_then (Below.drew HT2.out.2) hb⟩⟩
          refine AllReadyH.cons rfl (fun K hK => ?_) AllReadyH.nil
          have hz := below_one (Below.refl y1.heap.size y1) cr0
          have hA := hb.size
          replace hb := below_one hb cr0
          replace hu := hu.below hz
          have ha : BlkAt 40 (y1.alloc cr0) y1.heap.size zCrC := heap_new _ _
          go_simp
          refine hK.out _ _ ?_ (fun hHn => ?_)
          · first | exact trivial | (dsimp only; exact trivial)
          clear hK K
          clear hz
          obtain ⟨y2, hw⟩ : ∃ x, y1.alloc cr0 = x := ⟨_, rfl⟩
          rw [hw] at hb hu ha ⊢
          clear hw
          generalize y1.heap.size = gA at *
          refine wpAnyH_ready (rs := [1]) (by kernel_rfl) (by simp) ?_
          refine AllReadyH.cons rfl (fun K hK => ?_) AllReadyH.nil
          go_simp
          go_wp2_with (go_at_call 39; refine (HSM.out _).mono ?_; rintro e y3 ⟨rfl, hz⟩; replace hb := below_then hb hz; replace hu := hu.below hz; replace ha := BlkAt.below ha hz)
          refine hK.out _ _ ?_ (fun hHn => ?_)
          · first | exact trivial | (dsimp only; exact trivial)
          clear hK K
          clear hz
          refine wpAnyH_ready (rs := [2]) (by kernel_rfl) (by simp) ?_
          refine AllReadyH.cons rfl (fun K hK => ?_) AllReadyH.nil
          go_simp
          go_wp2_with (go_at_call 33; refine (HSE.out _ _ hu).mono ?_; rintro e y4 ⟨u1, u2, u3, M, N, rfl, hc, hz⟩; replace hb := below_then hb hz; replace hu := hu.below hz; replace ha := BlkAt.below ha hz; obtain ⟨a1, n1, p1, rfl⟩ := hc.slots.slice; obtain ⟨a2, n2, p2, rfl⟩ := hc.shelf.slice; obtain ⟨a3, n3, p3, rfl⟩ := hc.slabs.slice)
          refine hK.out _ _ ?_ (fun hHn => ?_)
          · first | exact trivial | (dsimp only; exact trivial)
          clear hK K
          clear hz
          refine' take_at (i := 3) (d := some 56) (v := _) rfl rfl (by kernel_rfl) (by kernel_rfl) (by kernel_rfl) (fun _ _ _ h => h) (Or.inl ⟨by rfl, ?hyt93⟩) (trivial) ?restt93
          case hyt93 => (intro w hSw; (try dsimp only at hSw); go_simp; try with_reducible rfl)
          try simp only [Act.put, List.setIfInBounds_toArray, List.set_cons_zero, List.set_cons_succ]
          refine' take_at (i := 4) (d := some 60) (v := _) rfl rfl (by kernel_rfl) (by kernel_rfl) (by kernel_rfl) (fun _ _ _ h => h) (Or.inl ⟨by rfl, ?hyt104⟩) (trivial) ?restt104
          case hyt104 => (intro w hSw; (try dsimp only at hSw); go_simp; try with_reducible rfl)
          try simp only [Act.put, List.setIfInBounds_toArray, List.set_cons_zero, List.set_cons_succ]
          refine' take_at (i := 5) (d := some 61) (v := _) rfl rfl (by kernel_rfl) (by kernel_rfl) (by kernel_rfl) (fun _ _ _ h => h) (Or.inl ⟨by rfl, ?hyt115⟩) (trivial) ?restt115
          case hyt115 => (intro w hSw; (try dsimp only at hSw); go_simp; try with_reducible rfl)
          try simp only [Act.put, List.setIfInBounds_toArray, List.set_cons_zero, List.set_cons_succ]
          refine wpAnyH_ready (rs := [7]) (by kernel_rfl) (by simp) ?_
          refine AllReadyH.cons rfl (fun K hK => ?_) AllReadyH.nil
          refine step_storeR rtCore (by rfl) _ _ (by rfl) gA #[.slice a1 n1 p1, .slice a2 n2 p2, .bool false, .slice a3 n3 p3] (by rfl) (by rfl) (by rfl) (by simp [Value.oneCell']) _ ha rfl ?_
          intro y5 hs ks
          replace hc := hc.keptC ks ha
          replace hb := below_kept hb ks (by rintro k rfl; exact hA)
          refine hK.out _ _ ?_ (fun hHn => ?_)
          · first | exact trivial | (dsimp only; exact trivial)
          clear hK K
          refine' take_at (i := 8) (d := some 7) (v := _) rfl rfl (by kernel_rfl) (by kernel_rfl) (by kernel_rfl) (fun _ _ _ h => h) (Or.inl ⟨by rfl, ?hyt128⟩) (trivial) ?restt128
          case hyt128 => (intro w hSw; (try dsimp only at hSw); go_simp; try with_reducible rfl)
          try simp only [Act.put, List.setIfInBounds_toArray, List.set_cons_zero, List.set_cons_succ]
          refine wpAnyH_done (by kernel_rfl) ?_ _
          go_wp2_with fail
          go_meet
          case rel => exact ⟨rfl, Lib.hid ⟨ChAt.below (w := w2.drew) HT2.out.1 hb, below_then (Below.drew HT2.out.2) hb⟩⟩
        refine AllReadyH.cons rfl (fun K hK => ?_) ?_
        · go_simp
          go_wp2_with (go_at_call 39; refine (HSM.out _).mono ?_; rintro e y1 ⟨rfl, hz⟩; replace hb := below_then hb hz; skip)
          refine hK.out _ _ ?_ (fun hHn => ?_)
          · first | exact trivial | (dsimp only; exact trivial)
          clear hK K
          clear hz
          refine wpAnyH_ready (rs := [0, 6]) (by kernel_rfl) (by simp) ?_
          refine AllReadyH.cons rfl (fun K hK => ?_) ?_
          · have hz := below_one (Below.refl y1.heap.size y1) O
            replace hb := below_one hb O
            have hu := HR.out y1
            go_simp
            refine hK.out _ _ ?_ (fun hHn => ?_)
            · first | exact trivial | (dsimp only; exact trivial)
            clear hK K
            clear hz
            obtain ⟨y2, hw⟩ : ∃ x, y1.alloc O = x := ⟨_, rfl⟩
            rw [hw] at hb hu ⊢
            clear hw
            generalize y1.heap.size = gM at *
            refine wpAnyH_ready (rs := [2, 6]) (by kernel_rfl) (by simp) ?_
            refine AllReadyH.cons rfl (fun K hK => ?_) ?_
            · go_simp
              go_wp2_with (go_at_call 33; refine (HSE.out _ _ hu).mono ?_; rintro e y3 ⟨u1, u2, u3, M, N, rfl, hc, hz⟩; replace hb := below_then hb hz; replace hu := hu.below hz; obtain ⟨a1, n1, p1, rfl⟩ := hc.slots.slice; obtain ⟨a2, n2, p2, rfl⟩ := hc.shelf.slice; obtain ⟨a3, n3, p3, rfl⟩ := hc.slabs.slice)
              refine hK.out _ _ ?_ (fun hHn => ?_)
              · first | exact trivial | (dsimp only; exact trivial)
              clear hK K
              clear hz
              refine' take_at (i := 3) (d := some 56) (v := _) rfl rfl (by kernel_rfl) (by kernel_rfl) (by kernel_rfl) (fun _ _ _ h => h) (Or.inl ⟨by rfl, ?hyt133⟩) (trivial) ?restt133
              case hyt133 => (intro w hSw; (try dsimp only at hSw); go_simp; try with_reducible rfl)
              try simp only [Act.put, List.setIfInBounds_toArray, List.set_cons_zero, List.set_cons_succ]
              refine' take_at (i := 4) (d := some 60) (v := _) rfl rfl (by kernel_rfl) (by kernel_rfl) (by kernel_rfl) (fun _ _ _ h => h) (Or.inl ⟨by rfl, ?hyt144⟩) (trivial) ?restt144
              case hyt144 => (intro w hSw; (try dsimp only at hSw); go_simp; try with_reducible rfl)
              try simp only [Act.put, List.setIfInBounds_toArray, List.set_cons_zero, List.set_cons_succ]
              refine' take_at (i := 5) (d := some 61) (v := _) rfl rfl (by kernel_rfl) (by kernel_rfl) (by kernel_rfl) (fun _ _ _ h => h) (Or.inl ⟨by rfl, ?hyt155⟩) (trivial) ?restt155
              case hyt155 => (intro w hSw; (try dsimp only at hSw); go_simp; try with_reducible rfl)
              try simp only [Act.put, List.setIfInBounds_toArray, List.set_cons_zero, List.set_cons_succ]
              refine wpAnyH_ready (rs := [6]) (by kernel_rfl) (by simp) ?_
              refine AllReadyH.cons rfl (fun K hK => ?_) AllReadyH.nil
              have hz := below_one (Below.refl y3.heap.size y3) cr0
              have hA := hb.size
              replace hb := below_one hb cr0
              replace hu := hu.below hz
              replace hc := hc.below hz
              have ha : BlkAt 40 (y3.alloc cr0) y3.heap.size zCrC := heap_new _ _
              go_simp
              refine hK.out _ _ ?_ (fun hHn => ?_)
              · first | exact trivial | (dsimp only; exact trivial)
              clear hK K
              clear hz
              obtain ⟨y4, hw⟩ : ∃ x, y3.alloc cr0 = x := ⟨_, rfl⟩
              rw [hw] at hb hu ha hc ⊢
              clear hw
              generalize y3.heap.size = gA at *
              refine wpAnyH_ready (rs := [7]) (by kernel_rfl) (by simp) ?_
              refine AllReadyH.cons rfl (fun K hK => ?_) AllReadyH.nil
              refine step_storeR rtCore (by rfl) _ _ (by rfl) gA #[.slice a1 n1 p1, .slice a2 n2 p2, .bool false, .slice a3 n3 p3] (by rfl) (by rfl) (by rfl) (by simp [Value.oneCell']) _ ha rfl ?_
              intro y5 hs ks
              replace hc := hc.keptC ks ha
              replace hb := below_kept hb ks (by rintro k rfl; exact hA)
              refine hK.out _ _ ?_ (fun hHn => ?_)
              · first | exact trivial | (dsimp only; exact trivial)
              clear hK K
              refine' take_at (i := 8) (d := some 7) (v := _) rfl rfl (by kernel_rfl) (by kernel_rfl) (by kernel_rfl) (fun _ _ _ h => h) (Or.inl ⟨by rfl, ?hyt168⟩) (trivial) ?restt168
              case hyt168 => (intro w hSw; (try dsimp only at hSw); go_simp; try with_reducible rfl)
              try simp only [Act.put, List.setIfInBounds_toArray, List.set_cons_zero, List.set_cons_succ]
              refine wpAnyH_done (by kernel_rfl) ?_ _
              go_wp2_with fail
              go_meet
              case rel => exact ⟨rfl, Lib.hid ⟨ChAt.below (w := w2.drew) HT2.out.1 hb, below_then (Below.drew HT2.out.2) hb⟩⟩
            refine AllReadyH.cons rfl (fun K hK => ?_) AllReadyH.nil
            have hz := below_one (Below.refl y2.heap.size y2) cr0
            have hA := hb.size
            replace hb := below_one hb cr0
            replace hu := hu.below hz
            have ha : BlkAt 40 (y2.alloc cr0) y2.heap.size zCrC := heap_new _ _
            go_simp
            refine hK.out _ _ ?_ (fun hHn => ?_)
            · first | exact trivial | (dsimp only; exact trivial)
            clear hK K
            clear hz
            obtain ⟨y3, hw⟩ : ∃ x, y2.alloc cr0 = x := ⟨_, rfl⟩
            rw [hw] at hb hu ha ⊢
            clear hw
            generalize y2.heap.size = gA at *
            refine wpAnyH_ready (rs := [2]) (by kernel_rfl) (by simp) ?_
            refine AllReadyH.cons rfl (fun K hK => ?_) AllReadyH.nil
            go_simp
            go_wp2_with (go_at_call 33; refine (HSE.out _ _ hu).mono ?_; rintro e y4 ⟨u1, u2, u3, M, N, rfl, hc, hz⟩; replace hb := below_then hb hz; replace hu := hu.below hz; replace ha := BlkAt.below ha hz; obtain ⟨a1, n1, p1, rfl⟩ := hc.slots.slice; obtain ⟨a2, n2, p2, rfl⟩ := hc.shelf.slice; obtain ⟨a3, n3, p3, rfl⟩ := hc.slabs.slice)
            refine hK.out _ _ ?_ (fun hHn => ?_)
            · first | exact trivial | (dsimp only; exact trivial)
            clear hK K
            clear hz
            refine' take_at (i := 3) (d := some 56) (v := _) rfl rfl (by kernel_rfl) (by kernel_rfl) (by kernel_rfl) (fun _ _ _ h => h) (Or.inl ⟨by rfl, ?hyt173⟩) (trivial) ?restt173
            case hyt173 => (intro w hSw; (try dsimp only at hSw); go_simp; try with_reducible rfl)
            try simp only [Act.put, List.setIfInBounds_toArray, List.set_cons_zero, List.set_cons_succ]
            refine' take_at (i := 4) (d := some 60) (v := _) rfl rfl (by kernel_rfl) (by kernel_rfl) (by kernel_rfl) (fun _ _ _ h => h) (Or.inl ⟨by rfl, ?hyt184⟩) (trivial) ?restt184
            case hyt184 => (intro w hSw; (try dsimp only at hSw); go_simp; try with_reducible rfl)
            try simp only [Act.put, List.setIfInBounds_toArray, List.set_cons_zero, List.set_cons_succ]
            refine' take_at (i := 5) (d := some 61) (v := _) rfl rfl (by kernel_rfl) (by kernel_rfl) (by kernel_rfl) (fun _ _ _ h => h) (Or.inl ⟨by rfl, ?hyt195⟩) (trivial) ?restt195
            case hyt195 => (intro w hSw; (try dsimp only at hSw); go_simp; try with_reducible rfl)
            try simp only [Act.put, List.setIfInBounds_toArray, List.set_cons_zero, List.set_cons_succ]
            refine wpAnyH_ready (rs := [7]) (by kernel_rfl) (by simp) ?_
            refine AllReadyH.cons rfl (fun K hK => ?_) AllReadyH.nil
            refine step_storeR rtCore (by rfl) _ _ (by rfl) gA #[.slice a1 n1 p1, .slice a2 n2 p2, .bool false, .slice a3 n3 p3] (by rfl) (by rfl) (by rfl) (by simp [Value.oneCell']) _ ha rfl ?_
            intro y5 hs ks
            replace hc := hc.keptC ks ha
            replace hb := below_kept hb ks (by rintro k rfl; exact hA)
            refine hK.out _ _ ?_ (fun hHn => ?_)
            · first | exact trivial | (dsimp only; exact trivial)
            clear hK K
            refine' take_at (i := 8) (d := some 7) (v := _) rfl rfl (by kernel_rfl) (by kernel_rfl) (by kernel_rfl) (fun _ _ _ h => h) (Or.inl ⟨by rfl, ?hyt208⟩) (trivial) ?restt208
            case hyt208 => (intro w hSw; (try dsimp only at hSw); go_simp; try with_reducible rfl)
            try simp only [Act.put, List.setIfInBounds_toArray, List.set_cons_zero, List.set_cons_succ]
            refine wpAnyH_done (by kernel_rfl) ?_ _
            go_wp2_with fail
            go_meet
            case rel => exact ⟨rfl, Lib.hid ⟨ChAt.below (w := w2.drew) HT2.out.1 hb, below_then (Below.drew HT2.out.2) hb⟩⟩
          refine AllReadyH.cons rfl (fun K hK => ?_) AllReadyH.nil
          have hz := below_one (Below.refl y1.heap.size y1) cr0
          have hA := hb.size
          replace hb := below_one hb cr0
          have ha : BlkAt 40 (y1.alloc cr0) y1.heap.size zCrC := heap_new _ _
          go_simp
          refine hK.out _ _ ?_ (fun hHn => ?_)
          · first | exact trivial | (dsimp only; exact trivial)
          clear hK K
          clear hz
          obtain ⟨y2, hw⟩ : ∃ x, y1.alloc cr0 = x := ⟨_, rfl⟩
          rw [hw] at hb ha ⊢
          clear hw
          generalize y1.heap.size = gA at *
          refine wpAnyH_ready (rs := [0]) (by kernel_rfl) (by simp) ?_
          refine AllReadyH.cons rfl (fun K hK => ?_) AllReadyH.nil
          have hz := below_one (Below.refl y2.heap.size y2) O
          replace hb := below_one hb O
          replace ha := BlkAt.below ha hz
          have hu := HR.out y2
          go_simp
          refine hK.out _ _ ?_ (fun hHn => ?_)
          · first | exact trivial | (dsimp only; exact trivial)
          clear hK K
          clear hz
          obtain ⟨y3, hw⟩ : ∃ x, y2.alloc O = x := ⟨_, rfl⟩
          rw [hw] at hb hu ha ⊢
          clear hw
          generalize y2.heap.size = gM at *
          refine wpAnyH_ready (rs := [2]) (by kernel_rfl) (by simp) ?_
          refine AllReadyH.cons rfl (fun K hK => ?_) AllReadyH.nil
          go_simp
          go_wp2_with (go_at_call 33; refine (HSE.out _ _ hu).mono ?_; rintro e y4 ⟨u1, u2, u3, M, N, rfl, hc, hz⟩; replace hb := below_then hb hz; replace hu := hu.below hz; replace ha := BlkAt.below ha hz; obtain ⟨a1, n1, p1, rfl⟩ := hc.slots.slice; obtain ⟨a2, n2, p2, rfl⟩ := hc.shelf.slice; obtain ⟨a3, n3, p3, rfl⟩ := hc.slabs.slice)
          refine hK.out _ _ ?_ (fun hHn => ?_)
          · first | exact trivial | (dsimp only; exact trivial)
          clear hK K
          clear hz
          refine' take_at (i := 3) (d := some 56) (v := _) rfl rfl (by kernel_rfl) (by kernel_rfl) (by kernel_rfl) (fun _ _ _ h => h) (Or.inl ⟨by rfl, ?hyt213⟩) (trivial) ?restt213
          case hyt213 => (intro w hSw; (try dsimp only at hSw); go_simp; try with_reducible rfl)
          try simp only [Act.put, List.setIfInBounds_toArray, List.set_cons_zero, List.set_cons_succ]
          refine' take_at (i := 4) (d := some 60) (v := _) rfl rfl (by kernel_rfl) (by kernel_rfl) (by kernel_rfl) (fun _ _ _ h => h) (Or.inl ⟨by rfl, ?hyt224⟩) (trivial) ?restt224
          case hyt224 => (intro w hSw; (try dsimp only at hSw); go_simp; try with_reducible rfl)
          try simp only [Act.put, List.setIfInBounds_toArray, List.set_cons_zero, List.set_cons_succ]
          refine' take_at (i := 5) (d := some 61) (v := _) rfl rfl (by kernel_rfl) (by kernel_rfl) (by kernel_rfl) (fun _ _ _ h => h) (Or.inl ⟨by rfl, ?hyt235⟩) (trivial) ?restt235
          case hyt235 => (intro w hSw; (try dsimp only at hSw); go_simp; try with_reducible rfl)
          try simp only [Act.put, List.setIfInBounds_toArray, List.set_cons_zero, List.set_cons_succ]
          refine wpAnyH_ready (rs := [7]) (by kernel_rfl) (by simp) ?_
          refine AllReadyH.cons rfl (fun K hK => ?_) AllReadyH.nil
          refine step_storeR rtCore (by rfl) _ _ (by rfl) gA #[.slice a1 n1 p1, .slice a2 n2 p2, .bool false, .slice a3 n3 p3] (by rfl) (by rfl) (by rfl) (by simp [Value.oneCell']) _ ha rfl ?_
          intro y5 hs ks
          replace hc := hc.keptC ks ha
          replace hb := below_kept hb ks (by rintro k rfl; exact hA)
          refine hK.out _ _ ?_ (fun hHn => ?_)
          · first | exact trivial | (dsimp only; exact trivial)
          clear hK K
          refine' take_at (i := 8) (d := some 7) (v := _) rfl rfl (by kernel_rfl) (by kernel_rfl) (by kernel_rfl) (fun _ _ _ h => h) (Or.inl ⟨by rfl, ?hyt248⟩) (trivial) ?restt248
          case hyt248 => (intro w hSw; (try dsimp only at hSw); go_simp; try with_reducible rfl)
          try simp only [Act.put, List.setIfInBounds_toArray, List.set_cons_zero, List.set_cons_succ]
          refine wpAnyH_done (by kernel_rfl) ?_ _
          go_wp2_with fail
          go_meet
          case rel => exact ⟨rfl, Lib.hid ⟨ChAt.below (w := w2.drew) HT2.out.1 hb, below_then (Below.drew HT2.out.2) hb⟩⟩
        refine AllReadyH.cons rfl (fun K hK => ?_) AllReadyH.nil
        have hz := below_one (Below.refl y0.heap.size y0) cr0
        have hA := hb.size
        replace hb := below_one hb cr0
        have ha : BlkAt 40 (y0.alloc cr0) y0.heap.size zCrC := heap_new _ _
        go_simp
        refine hK.out _ _ ?_ (fun hHn => ?_)
        · first | exact trivial | (dsimp only; exact trivial)
        clear hK K
        clear hz
        obtain ⟨y1, hw⟩ : ∃ x, y0.alloc cr0 = x := ⟨_, rfl⟩
        rw [hw] at hb ha ⊢
        clear hw
        generalize y0.heap.size = gA at *
        refine wpAnyH_ready (rs := [0, 1]) (by kernel_rfl) (by simp) ?_
        refine AllReadyH.cons rfl (fun K hK => ?_) ?_
        · have hz := below_one (Below.refl y1.heap.size y1) O
          replace hb := below_one hb O
          replace ha := BlkAt.below ha hz
          have hu := HR.out y1
          go_simp
          refine hK.out _ _ ?_ (fun hHn => ?_)
          · first | exact trivial | (dsimp only; exact trivial)
          clear hK K
          clear hz
          obtain ⟨y2, hw⟩ : ∃ x, y1.alloc O = x := ⟨_, rfl⟩
          rw [hw] at hb hu ha ⊢
          clear hw
          generalize y1.heap.size = gM at *
          refine wpAnyH_ready (rs := [1]) (by kernel_rfl) (by simp) ?_
          refine AllReadyH.cons rfl (fun K hK => ?_) AllReadyH.nil
          go_simp
          go_wp2_with (go_at_call 39; refine (HSM.out _).mono ?_; rintro e y3 ⟨rfl, hz⟩; replace hb := below_then hb hz; replace hu := hu.below hz; replace ha := BlkAt.below ha hz)
          refine hK.out _ _ ?_ (fun hHn => ?_)
          · first | exact trivial | (dsimp only; exact trivial)
          clear hK K
          clear hz
          refine wpAnyH_ready (rs := [2]) (by kernel_rfl) (by simp) ?_
          refine AllReadyH.cons rfl (fun K hK => ?_) AllReadyH.nil
          go_simp
          go_wp2_with (go_at_call 33; refine (HSE.out _ _ hu).mono ?_; rintro e y4 ⟨u1, u2, u3, M, N, rfl, hc, hz⟩; replace hb := below_then hb hz; replace hu := hu.below hz; replace ha := BlkAt.below ha hz; obtain ⟨a1, n1, p1, rfl⟩ := hc.slots.slice; obtain ⟨a2, n2, p2, rfl⟩ := hc.shelf.slice; obtain ⟨a3, n3, p3, rfl⟩ := hc.slabs.slice)
          refine hK.out _ _ ?_ (fun hHn => ?_)
          · first | exact trivial | (dsimp only; exact trivial)
          clear hK K
          clear hz
          refine' take_at (i := 3) (d := some 56) (v := _) rfl rfl (by kernel_rfl) (by kernel_rfl) (by kernel_rfl) (fun _ _ _ h => h) (Or.inl ⟨by rfl, ?hyt253⟩) (trivial) ?restt253
          case hyt253 => (intro w hSw; (try dsimp only at hSw); go_simp; try with_reducible rfl)
          try simp only [Act.put, List.setIfInBounds_toArray, List.set_cons_zero, List.set_cons_succ]
          refine' take_at (i := 4) (d := some 60) (v := _) rfl rfl (by kernel_rfl) (by kernel_rfl) (by kernel_rfl) (fun _ _ _ h => h) (Or.inl ⟨by rfl, ?hyt264⟩) (trivial) ?restt264
          case hyt264 => (intro w hSw; (try dsimp only at hSw); go_simp; try with_reducible rfl)
          try simp only [Act.put, List.setIfInBounds_toArray, List.set_cons_zero, List.set_cons_succ]
          refine' take_at (i := 5) (d := some 61) (v := _) rfl rfl (by kernel_rfl) (by kernel_rfl) (by kernel_rfl) (fun _ _ _ h => h) (Or.inl ⟨by rfl, ?hyt275⟩) (trivial) ?restt275
          case hyt275 => (intro w hSw; (try dsimp only at hSw); go_simp; try with_reducible rfl)
          try simp only [Act.put, List.setIfInBounds_toArray, List.set_cons_zero, List.set_cons_succ]
          refine wpAnyH_ready (rs := [7]) (by kernel_rfl) (by simp) ?_
          refine AllReadyH.cons rfl (fun K hK => ?_) AllReadyH.nil
          refine step_storeR rtCore (by rfl) _ _ (by rfl) gA #[.slice a1 n1 p1, .slice a2 n2 p2, .bool false, .slice a3 n3 p3] (by rfl) (by rfl) (by rfl) (by simp [Value.oneCell']) _ ha rfl ?_
          intro y5 hs ks
          replace hc := hc.keptC ks ha
          replace hb := below_kept hb ks (by rintro k rfl; exact hA)
          refine hK.out _ _ ?_ (fun hHn => ?_)
          · first | exact trivial | (dsimp only; exact trivial)
          clear hK K
          refine' take_at (i := 8) (d := some 7) (v := _) rfl rfl (by kernel_rfl) (by kernel_rfl) (by kernel_rfl) (fun _ _ _ h => h) (Or.inl ⟨by rfl, ?hyt288⟩) (trivial) ?restt288
          case hyt288 => (intro w hSw; (try dsimp only at hSw); go_simp; try with_reducible rfl)
          try simp only [Act.put, List.setIfInBounds_toArray, List.set_cons_zero, List.set_cons_succ]
          refine wpAnyH_done (by kernel_rfl) ?_ _
          go_wp2_with fail
          go_meet
          case rel => exact ⟨rfl, Lib.hid ⟨ChAt.below (w := w2.drew) HT2.out.1 hb, below_then (Below.drew HT2.out.2) hb⟩⟩
        refine AllReadyH.cons rfl (fun K hK => ?_) AllReadyH.nil
        go_simp
        go_wp2_with (go_at_call 39; refine (HSM.out _).mono ?_; rintro e y2 ⟨rfl, hz⟩; replace hb := below_then hb hz; replace ha := BlkAt.below ha hz)
        refine hK.out _ _ ?_ (fun hHn => ?_)
        · first | exact trivial | (dsimp only; exact trivial)
        clear hK K
        clear hz
        refine wpAnyH_ready (rs := [0]) (by kernel_rfl) (by simp) ?_
        refine AllReadyH.cons rfl (fun K hK => ?_) AllReadyH.nil
        have hz := below_one (Below.refl y2.heap.size y2) O
        replace hb := below_one hb O
        replace ha := BlkAt.below ha hz
        have hu := HR.out y2
        go_simp
        refine hK.out _ _ ?_ (fun hHn => ?_)
        · first | exact trivial | (dsimp only; exact trivial)
        clear hK K
        clear hz
        obtain ⟨y3, hw⟩ : ∃ x, y2.alloc O = x := ⟨_, rfl⟩
        rw [hw] at hb hu ha ⊢
        clear hw
        generalize y2.heap.size = gM at *
        refine wpAnyH_ready (rs := [2]) (by kernel_rfl) (by simp) ?_
        refine AllReadyH.cons rfl (fun K hK => ?_) AllReadyH.nil
        go_simp
        go_wp2_with (go_at_call 33; refine (HSE.out _ _ hu).mono ?_; rintro e y4 ⟨u1, u2, u3, M, N, rfl, hc, hz⟩; replace hb := below_then hb hz; replace hu := hu.below hz; replace ha := BlkAt.below ha hz; obtain ⟨a1, n1, p1, rfl⟩ := hc.slots.slice; obtain ⟨a2, n2, p2, rfl⟩ := hc.shelf.slice; obtain ⟨a3, n3, p3, rfl⟩ := hc.slabs.slice)
        refine hK.out _ _ ?_ (fun hHn => ?_)
        · first | exact trivial | (dsimp only; exact trivial)
        clear hK K
        clear hz
        refine' take_at (i := 3) (d := some 56) (v := _) rfl rfl (by kernel_rfl) (by kernel_rfl) (by kernel_rfl) (fun _ _ _ h => h) (Or.inl ⟨by rfl, ?hyt293⟩) (trivial) ?restt293
        case hyt293 => (intro w hSw; (try dsimp only at hSw); go_simp; try with_reducible rfl)
        try simp only [Act.put, List.setIfInBounds_toArray, List.set_cons_zero, List.set_cons_succ]
        refine' take_at (i := 4) (d := some 60) (v := _) rfl rfl (by kernel_rfl) (by kernel_rfl) (by kernel_rfl) (fun _ _ _ h => h) (Or.inl ⟨by rfl, ?hyt304⟩) (trivial) ?restt304
        case hyt304 => (intro w hSw; (try dsimp only at hSw); go_simp; try with_reducible rfl)
        try simp only [Act.put, List.setIfInBounds_toArray, List.set_cons_zero, List.set_cons_succ]
        refine' take_at (i := 5) (d := some 61) (v := _) rfl rfl (by kernel_rfl) (by kernel_rfl) (by kernel_rfl) (fun _ _ _ h => h) (Or.inl ⟨by rfl, ?hyt315⟩) (trivial) ?restt315
        case hyt315 => (intro w hSw; (try dsimp only at hSw); go_simp; try with_reducible rfl)
        try simp only [Act.put, List.setIfInBounds_toArray, List.set_cons_zero, List.set_cons_succ]
        refine wpAnyH_ready (rs := [7]) (by kernel_rfl) (by simp) ?_
        refine AllReadyH.cons rfl (fun K hK => ?_) AllReadyH.nil
        refine step_storeR rtCore (by rfl) _ _ (by rfl) gA #[.slice a1 n1 p1, .slice a2 n2 p2, .bool false, .slice a3 n3 p3] (by rfl) (by rfl) (by rfl) (by simp [Value.oneCell']) _ ha rfl ?_
        intro y5 hs ks
        replace hc := hc.keptC ks ha
        replace hb := below_kept hb ks (by rintro k rfl; exact hA)
        refine hK.out _ _ ?_ (fun hHn => ?_)
        · first | exact trivial | (dsimp only; exact trivial)
        clear hK K
        refine' take_at (i := 8) (d := some 7) (v := _) rfl rfl (by kernel_rfl) (by kernel_rfl) (by kernel_rfl) (fun _ _ _ h => h) (Or.inl ⟨by rfl, ?hyt328⟩) (trivial) ?restt328
        case hyt328 => (intro w hSw; (try dsimp only at hSw); go_simp; try with_reducible rfl)
        try simp only [Act.put, List.setIfInBounds_toArray, List.set_cons_zero, List.set_cons_succ]
        refine wpAnyH_done (by kernel_rfl) ?_ _
        go_wp2_with fail
        go_meet
        case rel => exact ⟨rfl, Lib.hid ⟨ChAt.below (w := w2.drew) HT2.out.1 hb, below_then (Below.drew HT2.out.2) hb⟩⟩
      case rest =>
        obtain ⟨rfl, HX0⟩ := hcut
        clear HT2 HSE HR HO2
        go_wp2_with fail
        refine (cWorks _).mono ?_
        rintro e v0 ⟨rfl, hb⟩
        have HX1 := Lib.hid (And.intro (ChAt.below HX0.out.1 hb) (below_then HX0.out.2 hb))
        clear hb HX0
        obtain ⟨c0, c1, c2, c3, c4, c5⟩ := HX1.out.1.cells
        go_wp2_with fail
        refine (H0.out _).mono ?_
        rintro e v1 ⟨rfl, hb⟩
        have HX2 := Lib.hid (And.intro (ChAt.below HX1.out.1 hb) (below_then HX1.out.2 hb))
        clear hb HX1 H0 c0 c1 c2 c3 c4 c5
        obtain ⟨c0, c1, c2, c3, c4, c5⟩ := HX2.out.1.cells
        go_wp2_with fail
        refine (H1.out _).mono ?_
        rintro e v2 ⟨rfl, hb⟩
        have HX3 := Lib.hid (And.intro (ChAt.below HX2.out.1 hb) (below_then HX2.out.2 hb))
        clear hb HX2 H1 c0 c1 c2 c3 c4 c5
        obtain ⟨c0, c1, c2, c3, c4, c5⟩ := HX3.out.1.cells
        go_wp2_with fail
        refine (H2.out _).mono ?_
        rintro e v3 ⟨rfl, hb⟩
        have HX4 := Lib.hid (And.intro (ChAt.below HX3.out.1 hb) (below_then HX3.out.2 hb))
        clear hb HX3 H2 c0 c1 c2 c3 c4 c5
        obtain ⟨c0, c1, c2, c3, c4, c5⟩ := HX4.out.1.cells
        go_wp2_with fail
        refine (H3.out _).mono ?_
        rintro e v4 ⟨rfl, hb⟩
        have HX5 := Lib.hid (And.intro (ChAt.below HX4.out.1 hb) (below_then HX4.out.2 hb))
        clear hb HX4 H3 c0 c1 c2 c3 c4 c5
        obtain ⟨c0, c1, c2, c3, c4, c5⟩ := HX5.out.1.cells
        go_wp2_with fail
        refine (H4.out _).mono ?_
        rintro e v5 ⟨rfl, hb⟩
        have HX6 := Lib.hid (And.intro (ChAt.below HX5.out.1 hb) (below_then HX5.out.2 hb))
        clear hb HX5 H4 c0 c1 c2 c3 c4 c5
        go_wp2_with fail
        refine (HSM.out _).mono ?_
        rintro e v6 ⟨rfl, hb⟩
        have HX7 := Lib.hid (And.intro (ChAt.below HX6.out.1 hb) (below_then HX6.out.2 hb))
        clear hb HX6
        go_wp2_with fail
        refine (HK0.out _).mono ?_
        rintro e v7 ⟨rfl, hb⟩
        have HX8 := Lib.hid (And.intro (ChAt.below HX7.out.1 hb) (below_then HX7.out.2 hb))
        clear hb HX7
        go_wp2_with fail
        refine (HSM.out _).mono ?_
        rintro e v8 ⟨rfl, hb⟩
        have HX9 := Lib.hid (And.intro (ChAt.below HX8.out.1 hb) (below_then HX8.out.2 hb))
        clear hb HX8
        go_wp2_with fail
        refine (HK1.out _).mono ?_
        rintro e v9 ⟨rfl, hb⟩
        have HX10 := Lib.hid (And.intro (ChAt.below HX9.out.1 hb) (below_then HX9.out.2 hb))
        clear hb HX9
        go_wp2
        go_ret
        exact ⟨rfl, HX10.out.2⟩
end Go.Proofs.Ytnnfmlbgoplnaaa
