/-
  Words of one's own; the chapter's chart; works.
-/
import Derived.Test.YtnnfmlbgoplnaaaPse
import Derived.Test.YtnnfmlbgoplnaaaPls
set_option linter.unusedVariables false
set_option linter.unusedSimpArgs false
namespace Go.Proofs.Ytnnfmlbgoplnaaa
open Go Go.RowKit

/-! a block of words, told by a function -/
def RowW (w : World) (g n : Nat) (f : Nat → Int) : Prop := w.rowIs g 22 n (fun i => .int .u64 (f i))
def fnL (n : Nat) (f : Nat → Int) : List Int := (List.range n).map f
theorem fn_len (n : Nat) (f : Nat → Int) : (fnL n f).length = n := by simp [fnL]
theorem fn_pk {n : Nat} (f : Nat → Int) {i : Nat} (h : i < n) : pk (fnL n f) i = f i := by
  unfold pk fnL
  simp [List.getD, List.getElem?_range h]
section
variable {w w' : World} {g n : Nat} {f : Nat → Int}
theorem RowW.cell (h : RowW w g n f) {i : Nat} (hi : i < n) : w.cell? ⟨g, i, none⟩ = some (.int .u64 (f i)) := World.rowIs.cell h hi
theorem RowW.free (h : RowW w g n f) (i : Nat) : w.frozen? ⟨g, i, none⟩ = false := World.rowIs.frozen h i
theorem RowW.lt (h : RowW w g n f) : g < w.heap.size := World.rowIs.lt h
theorem RowW.below (h : RowW w g n f) (hb : Below w.heap.size w w') : RowW w' g n f := row_kept h (S := fun _ => False) (Kept.ofBelow hb) id
theorem RowW.kept {S : Nat → Prop} (h : RowW w g n f) (hk : Kept S w w') (hn : ¬ S g) : RowW w' g n f := row_kept h hk hn
theorem RowW.set (h : RowW w g n f) (i : Nat) (x : Int) : RowW (w.setCell ⟨g, i, none⟩ (.int .u64 x)) g n (fun j => if j = i then x else f j) :=
  (World.rowIs.set h i _).congr fun j hj => by by_cases e : j = i <;> simp [e]
theorem RowW.shows (h : RowW w g n f) (hn : n ≤ 10000) : ShowU w (.slice (some ⟨g, 0, none⟩) n n) (fnL n f) := by
  unfold ShowU
  rw [fn_len]
  refine ⟨by simp [fn_len], _, n, rfl, ⟨Nat.le_refl _, by unfold maxLen; omega⟩, fun _ => ⟨g, 0, rfl, fun j hj => ?_⟩⟩
  rw [Nat.mul_one] at hj
  rw [Nat.zero_add, h.cell hj, ← fn_pk f hj]
  exact (wds_at (by rw [fn_len]; exact hj)).symm
end
theorem makeW (n : Nat) (hn : n ≤ 10000) : ∃ O : Obj, (∀ w : World, (Instr.makeSlice 35 (.int .i64 (n : Int)) (.int .i64 (n : Int))).run Try.prog w = .ok (.slice (some ⟨w.heap.size, 0, none⟩) n n) (w.alloc O)) ∧ ∀ w : World, RowW (w.alloc O) w.heap.size n (fun _ => 0) :=
  ⟨_, fun w => run_make_row' (P := Try.prog) 35 22 (.int .u64 0) 8 Try.underlying35 (by kernel_rfl) rfl .i64 .i64 n (by omega) (by omega) w, fun w => World.rowIs_made w _ n _⟩
theorem fn_zero (n : Nat) : fnL n (fun _ => 0) = List.replicate n 0 := by simp [fnL, List.map_const']
theorem wordy_zero (n : Nat) : Wordy (List.replicate n 0) := fun i => by
  have h : pk (List.replicate n 0) i = 0 := by
    unfold pk
    rw [List.getD_eq_getElem?_getD, List.getElem?_replicate]
    split <;> rfl
  rw [h]
  decide
/-! the chapter's chart -/
def smC : Ch := ⟨2, 3, 4, 0, 0, 0⟩
def kz : Cr := ⟨[⟨-1, [], 0, []⟩, ⟨-1, [], 0, []⟩], [], false, [⟨zC, []⟩, ⟨zC, []⟩, ⟨zC, []⟩]⟩
theorem see_z : see (List.replicate 36 0) smC = (kz, 0) := by decide +kernel
theorem sm_wf : smC.wf := by constructor <;> (first | (unfold okI smC; dsimp only; omega) | (unfold okW smC; dsimp only; omega))
section
variable {w w' : World} {B : Nat} {k : Cr} {u1 u2 u3 : Value} {M : List SlV} {N : List SbV}
theorem CrIn.keptC {g : Nat} {cs : Array Value} (h : CrIn B w k u1 u2 u3 M N) (hk : Kept (· = g) w w') (hb : BlkAt 40 w g cs) : CrIn B w' k u1 u2 u3 M N := ⟨h.slots.keptC hk hb, h.slotsIs, h.shelf.keptC hk hb, h.slabs.keptC hk hb, h.slabsIs⟩
theorem kz_cells (h : CrIn B w kz u1 u2 u3 M N) : ∃ b1 o1 ca1 b3 o3 ca3, u1 = .slice (some ⟨b1, o1, none⟩) 2 ca1 ∧ w.cell? ⟨b1, o1, none⟩ = some (.int .i64 (-1)) ∧ u3 = .slice (some ⟨b3, o3, none⟩) 3 ca3 ∧ w.cell? ⟨b3, o3 + 3, none⟩ = some (.bool false) := by
  have hm : M.length = 2 := by
    have := congrArg List.length h.slotsIs
    simpa [kz] using this
  have hn : N.length = 3 := by
    have := congrArg List.length h.slabsIs
    simpa [kz] using this
  obtain ⟨ao1, ca1, rfl, _, h1⟩ := h.slots.form
  obtain ⟨ao3, ca3, rfl, _, h3⟩ := h.slabs.form
  obtain ⟨b1, o1, x, rfl, hx, hc, _⟩ := h1 0 (by omega)
  obtain ⟨b3, o3, y, rfl, hy, _, _, _, hd, _⟩ := h3 0 (by omega)
  have e1 : x.1 = ⟨-1, [], 0, []⟩ := by
    have := congrArg (fun l => l[0]?) h.slotsIs
    simpa [hx, kz] using this
  have e3 : y.1 = ⟨zC, []⟩ := by
    have := congrArg (fun l => l[0]?) h.slabsIs
    simpa [hy, kz] using this
  rw [e1] at hc
  rw [e3] at hd
  refine ⟨b1, o1, ca1, b3, o3, ca3, by rw [hm], ?_, by rw [hn], ?_⟩
  · simpa using hc
  · simpa [zC] using hd
end
theorem gives_in {w w' : World} {r : Cr × Int} {e : Ending} (h : GivesCr w r e w') : ∃ u1 u2 u3 M N, e = .returned (.tuple #[.agg #[u1, u2, .bool r.1.locked, u3], .int .i64 r.2]) ∧ CrIn w.heap.size w' r.1 u1 u2 u3 M N ∧ Below w.heap.size w w' := by
  obtain ⟨u1, u2, u3, M, N, e1, h1, h2, h3, h4, h5, h6⟩ := h
  exact ⟨u1, u2, u3, M, N, e1, ⟨h1, h2, h3, h4, h5⟩, h6⟩
theorem res_small {tmps : Array Value} {K : Nat} {w : World} {c : Ch} (h2 : tmps.getD 0 undef = .pointer (some ⟨K, 0, none⟩)) (hb : ChAt w K c) :
    (results Try.f39 tmps).run Try.prog w = .ok c.agg w := by
  obtain ⟨c0, c1, c2, c3, c4, c5⟩ := hb.cells
  rw [Array.getD_eq_getD_getElem?] at h2
  simp [results, Try.f39, h2, c0, c1, c2, c3, c4, c5, go_sem]
set_option maxHeartbeats 1000000 in
theorem cSmall (w : World) : Calls Try.prog 39 #[] w fun e w' => e = .returned smC.agg ∧ Below w.heap.size w w' := by
  go_enter Try.func39, Try.ntmps39
  go_wp2_with (refine wpList_storeR rtCh (by rfl) _ _ (by rfl) w.heap.size smC.arr (by rfl) (by rfl) (by rfl) (by simp [Value.oneCell']) _ (heap_new w (chO zChart)) rfl ?_; intro w2 h2 k2)
  exact bodyPost_ret (res_small rfl h2) rfl ⟨rfl, below_kept (below_one (Below.refl _ _) _) k2 (by rintro k rfl; exact Nat.le_refl _)⟩
/-- what lies there, while works asks -/
structure Kz (W : World) (J : Nat) (d : Ch) (g b1 o1 ca1 b3 o3 ca3 : Nat) (u2 : Value) (w : World) : Prop where
  at1 : ChAt w J d
  at2 : BlkAt 40 w g #[.slice (some ⟨b1, o1, none⟩) 2 ca1, u2, .bool false, .slice (some ⟨b3, o3, none⟩) 3 ca3]
  c1 : w.cell? ⟨b1, o1, none⟩ = some (.int .i64 (-1))
  c3 : w.cell? ⟨b3, o3 + 3, none⟩ = some (.bool false)
  low : Below W.heap.size W w
theorem Kz.next {W w w' : World} {J : Nat} {d : Ch} {g b1 o1 ca1 b3 o3 ca3 : Nat} {u2 : Value} (h : Kz W J d g b1 o1 ca1 b3 o3 ca3 u2 w) (hb : Below w.heap.size w w') : Kz W J d g b1 o1 ca1 b3 o3 ca3 u2 w' := ⟨h.at1.below hb, BlkAt.below h.at2 hb, cell_keep hb h.c1, cell_keep hb h.c3, below_then h.low hb⟩
set_option maxHeartbeats 16000000 in
set_option maxRecDepth 100000 in
theorem cWorks (W : World) : Calls Try.prog 31 #[] W fun e w' => e = .returned (.bool true) ∧ Below W.heap.size W w' := by
  have HSM := Lib.hid (fun w => cSmall w)
  have HSE : Hid (∀ u w, ShowU w u (List.replicate 36 0) → Calls Try.prog 33 #[u, smC.agg] w fun e w' => ∃ u1 u2 u3 M N, e = .returned (.tuple #[.agg #[u1, u2, .bool false, u3], .int .i64 0]) ∧ CrIn w.heap.size w' kz u1 u2 u3 M N ∧ Below w.heap.size w w') := Lib.hid (fun u w hu => (pSee u _ smC sm_wf (wordy_zero 36) w hu).mono (fun e w' h => by
    rw [see_z] at h
    exact gives_in h))
  have H0 : Hid (∀ w, Calls Try.prog 9 #[smC.agg] w fun e w' => e = .returned (.int .i64 36) ∧ Below w.heap.size w w') := Lib.hid (fun w => pWords smC sm_wf w)
  have H1 : Hid (∀ w, Calls Try.prog 10 #[smC.agg, .int .i64 1] w fun e w' => e = .returned (.int .i64 4) ∧ Below w.heap.size w w') := Lib.hid (fun w => pHead smC sm_wf 1 w)
  have H2 : Hid (∀ w, Calls Try.prog 11 #[smC.agg, .int .i64 1] w fun e w' => e = .returned (.int .i64 6) ∧ Below w.heap.size w w') := Lib.hid (fun w => pPart smC sm_wf 1 w)
  have H3 : Hid (∀ w, Calls Try.prog 12 #[smC.agg] w fun e w' => e = .returned (.int .i64 8) ∧ Below w.heap.size w w') := Lib.hid (fun w => pLock smC sm_wf w)
  have H4 : Hid (∀ w, Calls Try.prog 14 #[smC.agg] w fun e w' => e = .returned (.int .i64 10) ∧ Below w.heap.size w w') := Lib.hid (fun w => pHeld smC sm_wf w)
  have H5 : Hid (∀ w, Calls Try.prog 15 #[smC.agg, .int .i64 0] w fun e w' => e = .returned (.int .i64 12) ∧ Below w.heap.size w w') := Lib.hid (fun w => pFirst smC sm_wf 0 w)
  have H6 : Hid (∀ w, Calls Try.prog 16 #[smC.agg, .int .i64 2] w fun e w' => e = .returned (.int .i64 22) ∧ Below w.heap.size w w') := Lib.hid (fun w => pNext smC sm_wf 2 w)
  have H7 : Hid (∀ w, Calls Try.prog 17 #[smC.agg, .int .i64 2, .int .i64 3] w fun e w' => e = .returned (.int .i64 35) ∧ Below w.heap.size w w') := Lib.hid (fun w => pLink smC sm_wf 2 3 w)
  have H8 : Hid (∀ w, Calls Try.prog 17 #[smC.agg, .int .i64 2, .int .i64 4] w fun e w' => e = .returned (.int .i64 (-1)) ∧ Below w.heap.size w w') := Lib.hid (fun w => pLink smC sm_wf 2 4 w)
  have HD : Hid (∀ w K, ChAt w K smC → True) := Lib.hid (fun _ _ _ => trivial)
  obtain ⟨O, hO, hR⟩ := makeW 36 (by decide)
  have HR : Hid (∀ w : World, ShowU (w.alloc O) (.slice (some ⟨w.heap.size, 0, none⟩) 36 36) (List.replicate 36 0)) := Lib.hid (fun w => by rw [← fn_zero]; exact (hR w).shows (by decide))
  have hO2 : ∀ w : World, (Instr.makeSlice 35 (.int .i64 36) (.int .i64 36)).run Try.prog w = .ok (.slice (some ⟨w.heap.size, 0, none⟩) 36 36) (w.alloc O) := hO
  clear hR hO
  have hsz : smC.arr.size = 6 := rfl
  generalize smC = d at *
  go_enter Try.func31, Try.ntmps31
  go_wp2_with fail
  refine (HSM.out _).mono ?_
  rintro e w1 ⟨rfl, hb1⟩
  have HB1 := Lib.hid hb1
  clear hb1
  go_wp2_with (refine wpList_storeR rtCh (by rfl) _ _ (by rfl) w1.heap.size d.arr (by rfl) (by rfl) (by rfl) (by simp [Value.oneCell']) _ (heap_new w1 (chO zChart)) rfl ?_; intro w2 h2 k2; refine Stop.mk ?_)
  unfold Stop
  have HT2 : Hid (ChAt w2 w1.heap.size d ∧ Below W.heap.size W w2) := Lib.hid ⟨h2, below_then HB1.out (below_one_kept (below_one (Below.refl w1.heap.size w1) (chO zChart)) k2 (Nat.le_refl _))⟩
  clear h2 k2 HB1
  generalize w1.heap.size = J at *
  go_wp2
  go_cut [2, 3] from 5 (fun s2 s3 wx => ∃ (B g : Nat) (u1 u2 u3 : Value) (M : List SlV) (N : List SbV), s2 = .pointer (some ⟨g, 0, none⟩) ∧ s3 = .int .i64 0 ∧ Hid (ChAt wx J d ∧ BlkAt 40 wx g #[u1, u2, .bool false, u3] ∧ CrIn B wx kz u1 u2 u3 M N ∧ Below W.heap.size W wx))
  case first =>
    have HIN : Hid (∀ w', Below w2.drew.heap.size w2.drew w' → w'.cell? ⟨J, 0, none⟩ = some (.int .i64 d.cpus) ∧ w'.cell? ⟨J, 1, none⟩ = some (.int .i64 d.slabs) ∧ w'.cell? ⟨J, 2, none⟩ = some (.int .i64 d.objs) ∧ w'.cell? ⟨J, 3, none⟩ = some (.int .i64 d.min) ∧ w'.cell? ⟨J, 4, none⟩ = some (.int .i64 d.cap) ∧ w'.cell? ⟨J, 5, none⟩ = some (.int .u64 d.key)) := Lib.hid (fun w' hb => ChAt.cells (ChAt.below (w := w2.drew) HT2.out.1 hb))
    refine wp_region_held_drew (S := fun w' => w'.cell? ⟨J, 0, none⟩ = some (.int .i64 d.cpus) ∧ w'.cell? ⟨J, 1, none⟩ = some (.int .i64 d.slabs) ∧ w'.cell? ⟨J, 2, none⟩ = some (.int .i64 d.objs) ∧ w'.cell? ⟨J, 3, none⟩ = some (.int .i64 d.min) ∧ w'.cell? ⟨J, 4, none⟩ = some (.int .i64 d.cap) ∧ w'.cell? ⟨J, 5, none⟩ = some (.int .u64 d.key)) (by kernel_rfl) ?_ (fun hH1 => ?_)
    · exact HIN.out _ (Below.refl _ _)
    refine' take_at (i := 1) (d := some 7) (v := _) rfl rfl (by kernel_rfl) (by kernel_rfl) (by kernel_rfl) (fun _ _ _ h => h) (Or.inl ⟨by rfl, ?hyt11⟩) (HIN.out _ (Below.refl _ _)) ?restt11
    case hyt11 => (intro w hSw; (try dsimp only at hSw); go_simp; try with_reducible rfl)
    try simp only [Act.put, List.setIfInBounds_toArray, List.set_cons_zero, List.set_cons_succ]
    obtain ⟨y0, hy0⟩ : ∃ x, w2.drew = x := ⟨_, rfl⟩
    have hb : Below w2.drew.heap.size w2.drew y0 := by rw [← hy0]; exact Below.refl _ _
    rw [hy0]
    clear hy0 hH1
    refine wpAnyH_ready (rs := [0, 6]) (by kernel_rfl) (by simp) ?_
    refine AllReadyH.cons rfl (fun K hK => ?_) ?_
    · have hz := below_one (Below.refl y0.heap.size y0) O
      replace hb := below_one hb O
      have hu := HR.out y0
      go_simp
      refine hK.out _ _ ?_ (fun hHn => ?_)
      · first | exact HIN.out _ hb | (dsimp only; exact HIN.out _ hb)
      clear hK K
      clear hz
      obtain ⟨y1, hw⟩ : ∃ x, y0.alloc O = x := ⟨_, rfl⟩
      rw [hw] at hb hu ⊢
      clear hw
      generalize y0.heap.size = gM at *
      refine wpAnyH_ready (rs := [2, 6]) (by kernel_rfl) (by simp) ?_
      refine AllReadyH.cons rfl (fun K hK => ?_) ?_
      · go_simp
        go_wp2_with (go_at_call 33; refine (HSE.out _ _ hu).mono ?_; rintro e y2 ⟨u1, u2, u3, M, N, rfl, hc, hz⟩; replace hb := below_then hb hz; replace hu := hu.below hz; obtain ⟨a1, n1, p1, rfl⟩ := hc.slots.slice; obtain ⟨a2, n2, p2, rfl⟩ := hc.shelf.slice; obtain ⟨a3, n3, p3, rfl⟩ := hc.slabs.slice)
        refine hK.out _ _ ?_ (fun hHn => ?_)
        · first | exact HIN.out _ hb | (dsimp only; exact HIN.out _ hb)
        clear hK K
        clear hz
        refine' take_at (i := 3) (d := some 5) (v := _) rfl rfl (by kernel_rfl) (by kernel_rfl) (by kernel_rfl) (fun _ _ _ h => h) (Or.inl ⟨by rfl, ?hyt23⟩) (HIN.out _ hb) ?restt23
        case hyt23 => (intro w hSw; (try dsimp only at hSw); go_simp; try with_reducible rfl)
        try simp only [Act.put, List.setIfInBounds_toArray, List.set_cons_zero, List.set_cons_succ]
        refine' take_at (i := 4) (d := some 9) (v := _) rfl rfl (by kernel_rfl) (by kernel_rfl) (by kernel_rfl) (fun _ _ _ h => h) (Or.inl ⟨by rfl, ?hyt34⟩) (HIN.out _ hb) ?restt34
        case hyt34 => (intro w hSw; (try dsimp only at hSw); go_simp; try with_reducible rfl)
        try simp only [Act.put, List.setIfInBounds_toArray, List.set_cons_zero, List.set_cons_succ]
        refine' take_at (i := 5) (d := some 10) (v := _) rfl rfl (by kernel_rfl) (by kernel_rfl) (by kernel_rfl) (fun _ _ _ h => h) (Or.inl ⟨by rfl, ?hyt45⟩) (HIN.out _ hb) ?restt45
        case hyt45 => (intro w hSw; (try dsimp only at hSw); go_simp; try with_reducible rfl)
        try simp only [Act.put, List.setIfInBounds_toArray, List.set_cons_zero, List.set_cons_succ]
        refine wpAnyH_ready (rs := [6]) (by kernel_rfl) (by simp) ?_
        refine AllReadyH.cons rfl (fun K hK => ?_) AllReadyH.nil
        have hz := below_one (Below.refl y2.heap.size y2) cr0
        have hA := hb.size
        replace hb := below_one hb cr0
        replace hu := hu.below hz
        replace hc := hc.below hz
        have ha : BlkAt 40 (y2.alloc cr0) y2.heap.size zCrC := heap_new _ _
        go_simp
        refine hK.out _ _ ?_ (fun hHn => ?_)
        · first | exact HIN.out _ hb | (dsimp only; exact HIN.out _ hb)
        clear hK K
        clear hz
        obtain ⟨y3, hw⟩ : ∃ x, y2.alloc cr0 = x := ⟨_, rfl⟩
        rw [hw] at hb hu ha hc ⊢
        clear hw
        generalize y2.heap.size = gA at *
        refine wpAnyH_ready (rs := [7]) (by kernel_rfl) (by simp) ?_
        refine AllReadyH.cons rfl (fun K hK => ?_) AllReadyH.nil
        refine step_storeR rtCore (by rfl) _ _ (by rfl) gA #[.slice a1 n1 p1, .slice a2 n2 p2, .bool false, .slice a3 n3 p3] (by rfl) (by rfl) (by rfl) (by simp [Value.oneCell']) _ ha rfl ?_
        intro y4 hs ks
        replace hc := hc.keptC ks ha
        replace hb := below_kept hb ks (by rintro k rfl; exact hA)
        refine hK.out _ _ ?_ (fun hHn => ?_)
        · first | exact HIN.out _ hb | (dsimp only; exact HIN.out _ hb)
        clear hK K
        refine' take_at (i := 8) (d := some 3) (v := _) rfl rfl (by kernel_rfl) (by kernel_rfl) (by kernel_rfl) (fun _ _ _ h => h) (Or.inl ⟨by rfl, ?hyt58⟩) (HIN.out _ hb) ?restt58
        case hyt58 => (intro w hSw; (try dsimp only at hSw); go_simp; try with_reducible rfl)
        try simp only [Act.put, List.setIfInBounds_toArray, List.set_cons_zero, List.set_cons_succ]
        refine wpAnyH_done (by kernel_rfl) ?_ _
        go_wp2_with fail
        go_meet
        case rel => exact ⟨_, gA, _, _, _, _, _, rfl, rfl, Lib.hid ⟨ChAt.below (w := w2.drew) HT2.out.1 hb, hs, hc, below_then (Below.drew HT2.out.2) hb⟩⟩
      refine AllReadyH.cons rfl (fun K hK => ?_) AllReadyH.nil
      have hz := below_one (Below.refl y1.heap.size y1) cr0
      have hA := hb.size
      replace hb := below_one hb cr0
      replace hu := hu.below hz
      have ha : BlkAt 40 (y1.alloc cr0) y1.heap.size zCrC := heap_new _ _
      go_simp
      refine hK.out _ _ ?_ (fun hHn => ?_)
      · first | exact HIN.out _ hb | (dsimp only; exact HIN.out _ hb)
      clear hK K
      clear hz
      obtain ⟨y2, hw⟩ : ∃ x, y1.alloc cr0 = x := ⟨_, rfl⟩
      rw [hw] at hb hu ha ⊢
      clear hw
      generalize y1.heap.size = gA at *
      refine wpAnyH_ready (rs := [2]) (by kernel_rfl) (by simp) ?_
      refine AllReadyH.cons rfl (fun K hK => ?_) AllReadyH.nil
      go_simp
      go_wp2_with (go_at_call 33; refine (HSE.out _ _ hu).mono ?_; rintro e y3 ⟨u1, u2, u3, M, N, rfl, hc, hz⟩; replace hb := below_then hb hz; replace hu := hu.below hz; replace ha := BlkAt.below ha hz; obtain ⟨a1, n1, p1, rfl⟩ := hc.slots.slice; obtain ⟨a2, n2, p2, rfl⟩ := hc.shelf.slice; obtain ⟨a3, n3, p3, rfl⟩ := hc.slabs.slice)
      refine hK.out _ _ ?_ (fun hHn => ?_)
      · first | exact HIN.out _ hb | (dsimp only; exact HIN.out _ hb)
      clear hK K
      clear hz
      refine' take_at (i := 3) (d := some 5) (v := _) rfl rfl (by kernel_rfl) (by kernel_rfl) (by kernel_rfl) (fun _ _ _ h => h) (Or.inl ⟨by rfl, ?hyt63⟩) (HIN.out _ hb) ?restt63
      case hyt63 => (intro w hSw; (try dsimp only at hSw); go_simp; try with_reducible rfl)
      try simp only [Act.put, List.setIfInBounds_toArray, List.set_cons_zero, List.set_cons_succ]
      refine' take_at (i := 4) (d := some 9) (v := _) rfl rfl (by kernel_rfl) (by kernel_rfl) (by kernel_rfl) (fun _ _ _ h => h) (Or.inl ⟨by rfl, ?hyt74⟩) (HIN.out _ hb) ?restt74
      case hyt74 => (intro w hSw; (try dsimp only at hSw); go_simp; try with_reducible rfl)
      try simp only [Act.put, List.setIfInBounds_toArray, List.set_cons_zero, List.set_cons_succ]
      refine' take_at (i := 5) (d := some 10) (v := _) rfl rfl (by kernel_rfl) (by kernel_rfl) (by kernel_rfl) (fun _ _ _ h => h) (Or.inl ⟨by rfl, ?hyt85⟩) (HIN.out _ hb) ?restt85
      case hyt85 => (intro w hSw; (try dsimp only at hSw); go_simp; try with_reducible rfl)
      try simp only [Act.put, List.setIfInBounds_toArray, List.set_cons_zero, List.set_cons_succ]
      refine wpAnyH_ready (rs := [7]) (by kernel_rfl) (by simp) ?_
      refine AllReadyH.cons rfl (fun K hK => ?_) AllReadyH.nil
      refine step_storeR rtCore (by rfl) _ _ (by rfl) gA #[.slice a1 n1 p1, .slice a2 n2 p2, .bool false, .slice a3 n3 p3] (by rfl) (by rfl) (by rfl) (by simp [Value.oneCell']) _ ha rfl ?_
      intro y4 hs ks
      replace hc := hc.keptC ks ha
      replace hb := below_kept hb ks (by rintro k rfl; exact hA)
      refine hK.out _ _ ?_ (fun hHn => ?_)
      · first | exact HIN.out _ hb | (dsimp only; exact HIN.out _ hb)
      clear hK K
      refine' take_at (i := 8) (d := some 3) (v := _) rfl rfl (by kernel_rfl) (by kernel_rfl) (by kernel_rfl) (fun _ _ _ h => h) (Or.inl ⟨by rfl, ?hyt98⟩) (HIN.out _ hb) ?restt98
      case hyt98 => (intro w hSw; (try dsimp only at hSw); go_simp; try with_reducible rfl)
      try simp only [Act.put, List.setIfInBounds_toArray, List.set_cons_zero, List.set_cons_succ]
      refine wpAnyH_done (by kernel_rfl) ?_ _
      go_wp2_with fail
      go_meet
      case rel => exact ⟨_, gA, _, _, _, _, _, rfl, rfl, Lib.hid ⟨ChAt.below (w := w2.drew) HT2.out.1 hb, hs, hc, below_then (Below.drew HT2.out.2) hb⟩⟩
    refine AllReadyH.cons rfl (fun K hK => ?_) AllReadyH.nil
    have hz := below_one (Below.refl y0.heap.size y0) cr0
    have hA := hb.size
    replace hb := below_one hb cr0
    have ha : BlkAt 40 (y0.alloc cr0) y0.heap.size zCrC := heap_new _ _
    go_simp
    refine hK.out _ _ ?_ (fun hHn => ?_)
    · first | exact HIN.out _ hb | (dsimp only; exact HIN.out _ hb)
    clear hK K
    clear hz
    obtain ⟨y1, hw⟩ : ∃ x, y0.alloc cr0 = x := ⟨_, rfl⟩
    rw [hw] at hb ha ⊢
    clear hw
    generalize y0.heap.size = gA at *
    refine wpAnyH_ready (rs := [0]) (by kernel_rfl) (by simp) ?_
    refine AllReadyH.cons rfl (fun K hK => ?_) AllReadyH.nil
    have hz := below_one (Below.refl y1.heap.size y1) O
    replace hb := below_one hb O
    replace ha := BlkAt.below ha hz
    have hu := HR.out y1
    go_simp
    refine hK.out _ _ ?_ (fun hHn => ?_)
    · first | exact HIN.out _ hb | (dsimp only; exact HIN.out _ hb)
    clear hK K
    clear hz
    obtain ⟨y2, hw⟩ : ∃ x, y1.alloc O = x := ⟨_, rfl⟩
    rw [hw] at hb hu ha ⊢
    clear hw
    generalize y1.heap.size = gM at *
    refine wpAnyH_ready (rs := [2]) (by kernel_rfl) (by simp) ?_
    refine AllReadyH.cons rfl (fun K hK => ?_) AllReadyH.nil
    go_simp
    go_wp2_with (go_at_call 33; refine (HSE.out _ _ hu).mono ?_; rintro e y3 ⟨u1, u2, u3, M, N, rfl, hc, hz⟩; replace hb := below_then hb hz; replace hu := hu.below hz; replace ha := BlkAt.below ha hz; obtain ⟨a1, n1, p1, rfl⟩ := hc.slots.slice; obtain ⟨a2, n2, p2, rfl⟩ := hc.shelf.slice; obtain ⟨a3, n3, p3, rfl⟩ := hc.slabs.slice)
    refine hK.out _ _ ?_ (fun hHn => ?_)
    · first | exact HIN.out _ hb | (dsimp only; exact HIN.out _ hb)
    clear hK K
    clear hz
    refine' take_at (i := 3) (d := some 5) (v := _) rfl rfl (by kernel_rfl) (by kernel_rfl) (by kernel_rfl) (fun _ _ _ h => h) (Or.inl ⟨by rfl, ?hyt103⟩) (HIN.out _ hb) ?restt103
    case hyt103 => (intro w hSw; (try dsimp only at hSw); go_simp; try with_reducible rfl)
    try simp only [Act.put, List.setIfInBounds_toArray, List.set_cons_zero, List.set_cons_succ]
    refine' take_at (i := 4) (d := some 9) (v := _) rfl rfl (by kernel_rfl) (by kernel_rfl) (by kernel_rfl) (fun _ _ _ h => h) (Or.inl ⟨by rfl, ?hyt114⟩) (HIN.out _ hb) ?restt114
    case hyt114 => (intro w hSw; (try dsimp only at hSw); go_simp; try with_reducible rfl)
    try simp only [Act.put, List.setIfInBounds_toArray, List.set_cons_zero, List.set_cons_succ]
    refine' take_at (i := 5) (d := some 10) (v := _) rfl rfl (by kernel_rfl) (by kernel_rfl) (by kernel_rfl) (fun _ _ _ h => h) (Or.inl ⟨by rfl, ?hyt125⟩) (HIN.out _ hb) ?restt125
    case hyt125 => (intro w hSw; (try dsimp only at hSw); go_simp; try with_reducible rfl)
    try simp only [Act.put, List.setIfInBounds_toArray, List.set_cons_zero, List.set_cons_succ]
    refine wpAnyH_ready (rs := [7]) (by kernel_rfl) (by simp) ?_
    refine AllReadyH.cons rfl (fun K hK => ?_) AllReadyH.nil
    refine step_storeR rtCore (by rfl) _ _ (by rfl) gA #[.slice a1 n1 p1, .slice a2 n2 p2, .bool false, .slice a3 n3 p3] (by rfl) (by rfl) (by rfl) (by simp [Value.oneCell']) _ ha rfl ?_
    intro y4 hs ks
    replace hc := hc.keptC ks ha
    replace hb := below_kept hb ks (by rintro k rfl; exact hA)
    refine hK.out _ _ ?_ (fun hHn => ?_)
    · first | exact HIN.out _ hb | (dsimp only; exact HIN.out _ hb)
    clear hK K
    refine' take_at (i := 8) (d := some 3) (v := _) rfl rfl (by kernel_rfl) (by kernel_rfl) (by kernel_rfl) (fun _ _ _ h => h) (Or.inl ⟨by rfl, ?hyt138⟩) (HIN.out _ hb) ?restt138
    case hyt138 => (intro w hSw; (try dsimp only at hSw); go_simp; try with_reducible rfl)
    try simp only [Act.put, List.setIfInBounds_toArray, List.set_cons_zero, List.set_cons_succ]
    refine wpAnyH_done (by kernel_rfl) ?_ _
    go_wp2_with fail
    go_meet
    case rel => exact ⟨_, gA, _, _, _, _, _, rfl, rfl, Lib.hid ⟨ChAt.below (w := w2.drew) HT2.out.1 hb, hs, hc, below_then (Below.drew HT2.out.2) hb⟩⟩
  case rest =>
    obtain ⟨B, g, u1, u2, u3, M, N, rfl, rfl, HX⟩ := hcut
    obtain ⟨b1, o1, ca1, b3, o3, ca3, rfl, hc1, rfl, hc3⟩ := kz_cells HX.out.2.2.1
    have HK := Lib.hid (Kz.mk HX.out.1 HX.out.2.1 hc1 hc3 HX.out.2.2.2)
    clear hc1 hc3 HX HT2 HSE HSM HR hO2
    obtain ⟨c0, c1, c2, c3, c4, c5⟩ := HK.out.at1.cells
    go_wp2_with fail
    refine (H0.out _).mono ?_
    rintro e v0 ⟨rfl, hb⟩
    have HK1 := Lib.hid (HK.out.next hb)
    clear hb HK H0 c0 c1 c2 c3 c4 c5
    obtain ⟨c0, c1, c2, c3, c4, c5⟩ := HK1.out.at1.cells
    go_wp2_with fail
    refine (H1.out _).mono ?_
    rintro e v1 ⟨rfl, hb⟩
    have HK2 := Lib.hid (HK1.out.next hb)
    clear hb HK1 H1 c0 c1 c2 c3 c4 c5
    obtain ⟨c0, c1, c2, c3, c4, c5⟩ := HK2.out.at1.cells
    go_wp2_with fail
    refine (H2.out _).mono ?_
    rintro e v2 ⟨rfl, hb⟩
    have HK3 := Lib.hid (HK2.out.next hb)
    clear hb HK2 H2 c0 c1 c2 c3 c4 c5
    obtain ⟨c0, c1, c2, c3, c4, c5⟩ := HK3.out.at1.cells
    go_wp2_with fail
    refine (H3.out _).mono ?_
    rintro e v3 ⟨rfl, hb⟩
    have HK4 := Lib.hid (HK3.out.next hb)
    clear hb HK3 H3 c0 c1 c2 c3 c4 c5
    obtain ⟨c0, c1, c2, c3, c4, c5⟩ := HK4.out.at1.cells
    go_wp2_with fail
    refine (H4.out _).mono ?_
    rintro e v4 ⟨rfl, hb⟩
    have HK5 := Lib.hid (HK4.out.next hb)
    clear hb HK4 H4 c0 c1 c2 c3 c4 c5
    obtain ⟨c0, c1, c2, c3, c4, c5⟩ := HK5.out.at1.cells
    go_wp2_with fail
    refine (H5.out _).mono ?_
    rintro e v5 ⟨rfl, hb⟩
    have HK6 := Lib.hid (HK5.out.next hb)
    clear hb HK5 H5 c0 c1 c2 c3 c4 c5
    obtain ⟨c0, c1, c2, c3, c4, c5⟩ := HK6.out.at1.cells
    go_wp2_with fail
    refine (H6.out _).mono ?_
    rintro e v6 ⟨rfl, hb⟩
    have HK7 := Lib.hid (HK6.out.next hb)
    clear hb HK6 H6 c0 c1 c2 c3 c4 c5
    obtain ⟨c0, c1, c2, c3, c4, c5⟩ := HK7.out.at1.cells
    go_wp2_with fail
    refine (H7.out _).mono ?_
    rintro e v7 ⟨rfl, hb⟩
    have HK8 := Lib.hid (HK7.out.next hb)
    clear hb HK7 H7 c0 c1 c2 c3 c4 c5
    obtain ⟨c0, c1, c2, c3, c4, c5⟩ := HK8.out.at1.cells
    go_wp2_with fail
    refine (H8.out _).mono ?_
    rintro e v8 ⟨rfl, hb⟩
    have HK9 := Lib.hid (HK8.out.next hb)
    clear hb HK8 H8 c0 c1 c2 c3 c4 c5
    have d0 := HK9.out.at2.cell (j := 0) (u := .slice (some ⟨b1, o1, none⟩) 2 ca1) rfl
    have d3 := HK9.out.at2.cell (j := 3) (u := .slice (some ⟨b3, o3, none⟩) 3 ca3) rfl
    have e1 := HK9.out.c1
    have e3 := HK9.out.c3
    go_wp2
    go_ret
    exact ⟨rfl, HK9.out.low⟩
end Go.Proofs.Ytnnfmlbgoplnaaa
