/-
  The law ChargeKnown, walked.
-/
import Derived.Test.YtahkfagfobfliaaTabs
import Derived.Test.YtahkfagfobfliaaNone
import Derived.Test.YtahkfagfobfliaaLate
set_option linter.unusedVariables false
set_option linter.unusedSimpArgs false
namespace Go.Proofs.Ytahkfagfobfliaa
open Go Go.RowKit

/-- what an entry of a list must be -/
def Fit (w0 : World) (F : List Ent) : Prop := ∀ e ∈ F, (∃ a m c, e.2 = .slice a m c) ∧ ShowI w0 e.2 e.1.path ∧ Nice e.1.path ∧ e.1.path.length ≤ 9
theorem Fit.nil (w0 : World) : Fit w0 [] := fun e h => by cases h
theorem Fit.cons {w0 : World} {F : List Ent} {k x n : Int} {l : List Int} {a : Option Addr} {m c : Nat} (h : Fit w0 F) (hs : ShowI w0 (.slice a m c) l) (hn : Nice l) (hl : l.length ≤ 9) : Fit w0 ((⟨k, x, n, l⟩, .slice a m c) :: F) := fun e he => by
  rcases List.mem_cons.1 he with rfl | he
  · exact ⟨⟨a, m, c, rfl⟩, hs, hn, hl⟩
  · exact h e he
theorem Fit.none {w0 : World} {F : List Ent} {k x n : Int} (h : Fit w0 F) : Fit w0 ((⟨k, x, n, []⟩, .slice none 0 0) :: F) := h.cons (ShowI.nil _) Nice.nil (by decide)
set_option maxHeartbeats 16000000 in
set_option maxRecDepth 100000 in
theorem walkKnown (W : World) : Calls Try.prog 7 #[] W fun e W' => e = .returned (.bool true) ∧ Below W.heap.size W W' := by
  go_enter Try.func7, Try.ntmps7
  go_wp2
  go_loopw [1, 2] (fun p i wr => ∃ (k : Nat) (a : Option Addr), k ≤ 2 ∧ i = .int .i64 k ∧ p = .pointer a ∧ Hid (CZ wr a) ∧ Hid (Below W.heap.size W wr)) (fun _ i _ => 2 - (intOf i).toNat)
  case atStart => exact ⟨0, none, by omega, rfl, rfl, Lib.hid (.inl rfl), Lib.hid (Below.refl _ _)⟩
  case round =>
    obtain ⟨k, a, hk, rfl, rfl, HZ, HB⟩ := hrel
    by_cases hlt : k < 2
    · go_wp2_with fail
      refine (zTry HZ.out _ _).mono ?_
      rintro e w1 ⟨rfl, hb⟩
      have HZ1 := Lib.hid (HZ.out.below hb)
      have HB1 := Lib.hid (below_then HB.out hb)
      clear hb HZ HB
      go_wp2_with (first
        | (go_at_call 17; refine (zLimit HZ1.out _ _).mono ?_; rintro e wa ⟨rfl, rfl⟩)
        | (go_at_call 18; refine (zUp HZ1.out _ _).mono ?_; rintro e wa ⟨rfl, rfl⟩)
        | (go_at_call 19; refine (zDown HZ1.out _ _).mono ?_; rintro e wa ⟨rfl, rfl⟩)
        | (go_at_call 21; refine (zBack HZ1.out _ _).mono ?_; rintro e wa ⟨rfl, rfl⟩)
        | (go_at_call 11; refine (zUsed HZ1.out _).mono ?_; rintro e wa ⟨rfl, rfl⟩)
        | (go_at_call 13; refine (zMost HZ1.out _).mono ?_; rintro e wa ⟨rfl, rfl⟩))
      go_roundw
      case rel => exact ⟨k + 1, _, by omega, by go_num, rfl, Lib.hid (.inr ⟨_, rfl, heap_new _ _⟩), Lib.hid (below_one HB1.out _)⟩
      case measure => simp [intOf]; omega
    · obtain rfl : k = 2 := by omega
      rw [show ((2 : Nat) : Int) = 2 from rfl]
      clear HZ hlt hk
      have HT0 := Lib.hid (wtab_tab wr)
      have HBT := Lib.hid (below_then HB.out (wtab_below wr))
      clear HB
      go_wp2
      change Code.wp _ _ _ _ (wtab wr)
      generalize wtab wr = wt at HT0 HBT ⊢
      obtain ⟨T6, hT6⟩ : ∃ T6, wr.heap.size + 1 + 1 + 1 + 1 + 1 + 1 + 1 + 1 + 1 = T6 := ⟨_, rfl⟩
      rw [hT6] at HT0 ⊢
      clear hT6
      generalize wr.heap.size = T5 at HT0 ⊢
      go_loopw [7, 8] (fun v i wr => ∃ (j : Nat) (E : List Ent), j ≤ 8 ∧ i = .int .i64 j ∧ Hid (OwnE wt wr wt.heap.size v E) ∧ E.length = 10 * j) (fun _ i _ => 8 - (intOf i).toNat)
      case atStart => exact ⟨0, [], by omega, rfl, Lib.hid (OwnE.nil wt), rfl⟩
      case round =>
        obtain ⟨j, E, hj, rfl, HE, hE⟩ := hrel
        by_cases hj8 : j < 8
        · have hji : (j : Int) < 8 := by omega
          have hjc : (0 : Int) ≤ (j : Int) ∧ (j : Int) < 8 := by omega
          obtain ⟨N, hN⟩ : ∃ N, pk numsL j = N := ⟨_, rfl⟩
          have HN := Lib.hid hN
          clear hN
          go_wp2
          go_loopw [7, 9] (fun v i wr => ∃ (m : Nat) (E : List Ent), m ≤ 9 ∧ i = .int .i64 m ∧ Hid (OwnE wt wr wt.heap.size v E) ∧ E.length = 10 * j + m) (fun _ i _ => 9 - (intOf i).toNat)
          case atStart => exact ⟨0, E, by omega, rfl, HE, by omega⟩
          case round =>
            clear HE hE
            obtain ⟨m, E, hm, rfl, HE, hE⟩ := hrel
            by_cases hm9 : m < 9
            · have hmi : (m : Int) < 9 := by omega
              have hmc : (0 : Int) ≤ (m : Int) ∧ (m : Int) < 9 := by omega
              have hj0 : (0 : Int) ≤ (j : Int) := by omega
              have hm0 : (0 : Int) ≤ (m : Int) := by omega
              have hKT := HT0.out.below HE.out.low
              have c5 := hKT.n j hj8
              rw [HN.out] at c5
              obtain ⟨pa, pm, pc, c6, _⟩ := hKT.p m hm9
              obtain ⟨pa', pm', pc', c6', hsh⟩ := HT0.out.p m hm9
              have e6 := Option.some.inj ((cell_keep HE.out.low c6').symm.trans c6)
              rw [e6] at hsh
              have HF : Hid (Fit wt [(⟨3, 0, N, pathL m⟩, .slice pa pm pc)]) := Lib.hid ((Fit.nil wt).cons hsh (pathL_nice m hm9).1 (pathL_nice m hm9).2)
              clear hKT c6' e6 hsh
              go_wp2
              have HD := Lib.hid (HE.out.below (Below.refl _ wr).drew)
              have HD2 := Lib.hid (HD.out.below (below_one (Below.refl _ wr.drew) (.cells (ents [(⟨3, 0, N, pathL m⟩, .slice pa pm pc)]).toArray 30)))
              have HU := Lib.hid (lit_cells wr.drew 30 (ents [(⟨3, 0, N, pathL m⟩, .slice pa pm pc)]))
              clear HE HD
              go_region_law (refine step_appendE (by rfl) _ _ (by rfl) _ E [(⟨3, 0, N, pathL m⟩, .slice pa pm pc)] ⟨_, 0, none⟩ 1 1 (10 * j + (m + 1)) (by rfl) (by rfl) HD2.out rfl HF.out HU.out (by simp; omega) (by simp; omega) ?_; intro ao c w5 h5)
              all_goals
                have H5 := Lib.hid h5
                clear h5 HD2 HU HF c5 c6
                go_wp2
                go_roundw
                case rel => exact ⟨m + 1, _, by omega, by go_num, H5, by simp; omega⟩
                case measure => simp [intOf]; omega
            · obtain rfl : m = 9 := by omega
              rw [show ((9 : Nat) : Int) = 9 from rfl]
              have hj0 : (0 : Int) ≤ (j : Int) := by omega
              have hKT := HT0.out.below HE.out.low
              have c5 := hKT.n j hj8
              rw [HN.out] at c5
              have HF : Hid (Fit wt [(⟨1, 1, N, []⟩, .slice none 0 0)]) := Lib.hid (Fit.nil wt).none
              have HD2 := Lib.hid (HE.out.below (below_one (Below.refl _ wr) (.cells (ents [(⟨1, 1, N, []⟩, .slice none 0 0)]).toArray 30)))
              have HU := Lib.hid (lit_cells wr 30 (ents [(⟨1, 1, N, []⟩, .slice none 0 0)]))
              clear hKT HE
              go_wp2_with (at_builtin; refine wpList_appendE (by rfl) _ _ (by rfl) _ E [(⟨1, 1, N, []⟩, .slice none 0 0)] ⟨_, 0, none⟩ 1 1 (10 * (j + 1)) (by rfl) (by rfl) HD2.out rfl HF.out HU.out (by simp; omega) (by simp; omega) ?_)
              intro ao c w5 h5
              have H5 := Lib.hid h5
              clear h5 HD2 HU HF c5
              go_wp2
              go_roundw
              case rel => exact ⟨j + 1, _, by omega, by go_num, H5, by simp; omega⟩
              case measure => simp [intOf]; omega
        · obtain rfl : j = 8 := by omega
          rw [show ((8 : Nat) : Int) = 8 from rfl]
          clear hj hj8
          have HL := Lib.hid HE.out.shows
          have HLA := Lib.hid HE.out.alike
          have HT1 := Lib.hid (HT0.out.below HE.out.low)
          have HB1 := Lib.hid (below_then HBT.out HE.out.low)
          clear HE hE HT0 HBT
          obtain ⟨L, hL⟩ : ∃ L, E.map (·.1) = L := ⟨_, rfl⟩
          rw [hL] at HL HLA
          clear hL
          generalize hv7 : u7 = v7 at HL ⊢
          clear hv7
          obtain ⟨wl, hwl⟩ : ∃ wl, wr = wl := ⟨_, rfl⟩
          rw [hwl] at HL HT1 HB1 ⊢
          clear hwl
          go_wp2
          go_loopw [10, 11] (fun v i wr => ∃ (j : Nat) (E : List Ent), j ≤ 8 ∧ i = .int .i64 j ∧ Hid (OwnE wl wr wl.heap.size v E) ∧ E.length = 10 * j) (fun _ i _ => 8 - (intOf i).toNat)
          case atStart => exact ⟨0, [], by omega, rfl, Lib.hid (OwnE.nil wl), rfl⟩
          case round =>
            obtain ⟨j, E, hj, rfl, HE, hE⟩ := hrel
            by_cases hj8 : j < 8
            · have hji : (j : Int) < 8 := by omega
              have hj9 : (j : Int) < 9 := by omega
              have hj0 : (0 : Int) ≤ (j : Int) := by omega
              have hjc : (0 : Int) ≤ (j : Int) ∧ (j : Int) < 8 := by omega
              have hjc9 : (0 : Int) ≤ (j : Int) ∧ (j : Int) < 9 := by omega
              have hKT := HT1.out.below HE.out.low
              have c5 := hKT.n j hj8
              obtain ⟨N, hN⟩ : ∃ N, pk numsL j = N := ⟨_, rfl⟩
              rw [hN] at c5
              obtain ⟨pa, pm, pc, c6, _⟩ := hKT.p j (by omega)
              obtain ⟨pa', pm', pc', c6', hsh⟩ := HT1.out.p j (by omega)
              have e6 := Option.some.inj ((cell_keep HE.out.low c6').symm.trans c6)
              rw [e6] at hsh
              obtain ⟨qa, qm, qc, c7, _⟩ := hKT.p 2 (by omega)
              obtain ⟨qa', qm', qc', c7', hsh2⟩ := HT1.out.p 2 (by omega)
              have e7 := Option.some.inj ((cell_keep HE.out.low c7').symm.trans c7)
              rw [e7] at hsh2
              have HF : Hid (Fit wl [(⟨0, 2, N, []⟩, .slice none 0 0), (⟨1, 2, 100, []⟩, .slice none 0 0), (⟨1, 2, N, []⟩, .slice none 0 0), (⟨2, 2, N, []⟩, .slice none 0 0), (⟨4, 0, 50, pathL 2⟩, .slice qa qm qc), (⟨3, 0, 50, pathL 2⟩, .slice qa qm qc), (⟨4, 0, N, pathL j⟩, .slice pa pm pc), (⟨0, 17, 0, []⟩, .slice none 0 0), (⟨1, 0, 0, []⟩, .slice none 0 0), (⟨2, -1, 0, []⟩, .slice none 0 0)]) := Lib.hid
                (((Fit.nil wl).none.none.none.cons hsh (pathL_nice j (by omega)).1 (pathL_nice j (by omega)).2 |>.cons hsh2 (pathL_nice 2 (by omega)).1 (pathL_nice 2 (by omega)).2 |>.cons hsh2 (pathL_nice 2 (by omega)).1 (pathL_nice 2 (by omega)).2).none.none.none.none)
              clear hKT c6' e6 hsh c7' e7 hsh2 hN
              go_wp2
              have HD := Lib.hid (HE.out.below (Below.refl _ wr).drew)
              have HD2 := Lib.hid (HD.out.below (below_one (Below.refl _ wr.drew) (.cells (ents [(⟨0, 2, N, []⟩, .slice none 0 0), (⟨1, 2, 100, []⟩, .slice none 0 0), (⟨1, 2, N, []⟩, .slice none 0 0), (⟨2, 2, N, []⟩, .slice none 0 0), (⟨4, 0, 50, pathL 2⟩, .slice qa qm qc), (⟨3, 0, 50, pathL 2⟩, .slice qa qm qc), (⟨4, 0, N, pathL j⟩, .slice pa pm pc), (⟨0, 17, 0, []⟩, .slice none 0 0), (⟨1, 0, 0, []⟩, .slice none 0 0), (⟨2, -1, 0, []⟩, .slice none 0 0)]).toArray 30)))
              have HU := Lib.hid (lit_cells wr.drew 30 (ents [(⟨0, 2, N, []⟩, .slice none 0 0), (⟨1, 2, 100, []⟩, .slice none 0 0), (⟨1, 2, N, []⟩, .slice none 0 0), (⟨2, 2, N, []⟩, .slice none 0 0), (⟨4, 0, 50, pathL 2⟩, .slice qa qm qc), (⟨3, 0, 50, pathL 2⟩, .slice qa qm qc), (⟨4, 0, N, pathL j⟩, .slice pa pm pc), (⟨0, 17, 0, []⟩, .slice none 0 0), (⟨1, 0, 0, []⟩, .slice none 0 0), (⟨2, -1, 0, []⟩, .slice none 0 0)]))
              clear HE HD
              refine wp_region_late 37 (by kernel_rfl) (by kernel_rfl) rfl (fun c a w h => h) (.inl ⟨rfl, fun w => rfl⟩) ?_
              simp only [List.take_succ_cons, List.take_zero, List.drop_succ_cons, List.drop_zero]
              repeat still_step
              refine wpStill_nil ?_
              change wpList _ _ _ _ _ (World.drew _)
              go_wp2_with (at_builtin; refine wpList_appendE (by rfl) _ _ (by rfl) _ E [(⟨0, 2, N, []⟩, .slice none 0 0), (⟨1, 2, 100, []⟩, .slice none 0 0), (⟨1, 2, N, []⟩, .slice none 0 0), (⟨2, 2, N, []⟩, .slice none 0 0), (⟨4, 0, 50, pathL 2⟩, .slice qa qm qc), (⟨3, 0, 50, pathL 2⟩, .slice qa qm qc), (⟨4, 0, N, pathL j⟩, .slice pa pm pc), (⟨0, 17, 0, []⟩, .slice none 0 0), (⟨1, 0, 0, []⟩, .slice none 0 0), (⟨2, -1, 0, []⟩, .slice none 0 0)] ⟨_, 0, none⟩ 10 10 (10 * (j + 1)) (by rfl) (by rfl) HD2.out rfl HF.out HU.out (by simp; omega) (by simp; omega) ?_)
              intro ao c w5 h5
              all_goals
                have H5 := Lib.hid h5
                clear h5 HD2 HU HF c5 c6 c7
                go_wp2
                go_roundw
                case rel => exact ⟨j + 1, _, by omega, by go_num, H5, by simp; omega⟩
                case measure => simp [intOf]; omega
            · obtain rfl : j = 8 := by omega
              rw [show ((8 : Nat) : Int) = 8 from rfl]
              have HM := Lib.hid HE.out.shows
              have HMA := Lib.hid HE.out.alike
              have HBM := Lib.hid (below_then HB1.out HE.out.low)
              have HLM := Lib.hid (HL.out.below HE.out.low)
              clear HE hE HT1 HB1 HL hj hj8
              obtain ⟨M, hM⟩ : ∃ M, E.map (·.1) = M := ⟨_, rfl⟩
              rw [hM] at HM HMA
              clear hM
              go_wp2_with fail
              refine (works _).mono ?_
              rintro e w1 ⟨rfl, hb⟩
              have HB1 := Lib.hid (below_then HBM.out hb)
              have HL1 := Lib.hid (HLM.out.below hb)
              have HM1 := Lib.hid (HM.out.below hb)
              clear hb HBM HLM HM
              go_wp2_with fail
              refine (walkPlaysA _ _ _ HL1.out HLA.out).mono ?_
              rintro e w2 ⟨rfl, hb⟩
              have HB2 := Lib.hid (below_then HB1.out hb)
              have HL2 := Lib.hid (HL1.out.below hb)
              have HM2 := Lib.hid (HM1.out.below hb)
              clear hb HB1 HL1 HM1
              go_wp2_with fail
              refine (walkPlaysA _ _ _ HM2.out HMA.out).mono ?_
              rintro e w3 ⟨rfl, hb⟩
              have HB3 := Lib.hid (below_then HB2.out hb)
              have HL3 := Lib.hid (HL2.out.below hb)
              have HM3 := Lib.hid (HM2.out.below hb)
              clear hb HB2 HL2 HM2
              go_wp2_with fail
              refine (walkBounds _ _ _ HL3.out).mono ?_
              rintro e w4 ⟨rfl, hb⟩
              have HB4 := Lib.hid (below_then HB3.out hb)
              have HM4 := Lib.hid (HM3.out.below hb)
              clear hb HB3 HL3 HM3
              go_wp2_with fail
              refine (walkBounds _ _ _ HM4.out).mono ?_
              rintro e w5 ⟨rfl, hb⟩
              have HB5 := Lib.hid (below_then HB4.out hb)
              clear hb HB4 HM4
              go_wp2
              go_ret
              exact ⟨rfl, HB5.out⟩
end Go.Proofs.Ytahkfagfobfliaa
