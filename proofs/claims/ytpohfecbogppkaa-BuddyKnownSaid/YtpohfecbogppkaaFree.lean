/-
  Free, of the program: the free blocks' pages, added up.
-/
import Derived.Test.YtpohfecbogppkaaCheck
set_option linter.unusedVariables false
set_option linter.unusedSimpArgs false
namespace Go.Proofs.Ytpohfecbogppkaa
open Go Go.RowKit Go.Shelf

attribute [local go_sem] Oper.semAt_some

theorem freeIn_le (l : List Pg) (ys : List (Bk l)) : freeIn l (vals ys) ≤ ys.length * 1024 := by
  have key : ∀ zs : List (Bk l), freeOf l (zs.map (·.1)) ≤ zs.length * 1024 := by
    intro zs
    induction zs with
    | nil => simp [freeOf]
    | cons x r ih =>
      have h1 := Pg.sz_le x.2.2.head
      simp only [List.map_cons, freeOf, List.length_cons, Nat.succ_mul]
      have h2 : (if (pg l x.1).kind = 0 then (pg l x.1).sz else 0) ≤ 1024 := by
        split
        · exact h1
        · exact Nat.zero_le _
      exact Nat.add_le_add ih h2
  have := key ys.reverse
  simpa [freeIn, vals, List.map_reverse] using this
theorem AllOf.free {l : List Pg} {ys : List (Bk l)} (h : AllOf l ys) (hg : Good l 0) : freeIn l (vals ys) = freeTo l l.length := by
  have hv := h.valid
  obtain ⟨e, hc, hn⟩ := h
  rw [hc.endOf] at hv
  have := hv.2.1 hg
  obtain rfl : e = l.length := by omega
  exact hc.free
set_option maxHeartbeats 4000000 in
set_option maxRecDepth 100000 in
theorem Free_in (u : Value) (l : List Pg) (hv : Valid l) (c : Nat) (hc : freeF l = c) (w : World) (hs : ShowP w u l) :
    CallsIn Fence.wide 8 Try.prog 21 #[u] w fun e W' => e = .returned (.int .i64 c) ∧ Below w.heap.size w W' := by
  obtain ⟨hl1, hl, hg⟩ := id hv
  have HV := Lib.hid hv
  have HCK := Lib.hid (chk_ok hv)
  clear hv hg
  obtain ⟨ao, cap, rfl, hcap, hat⟩ := hs.form
  obtain ⟨b0, o0, rfl, c0, _, _⟩ := hat 0 (by omega)
  have hb0 : b0 < w.heap.size := World.block_lt_of_cell? w _ c0
  have HS := Lib.hid hs
  have HC := Lib.hid hc
  clear hat hs c0 hc
  have h1 : 1 ≤ 8 := by omega
  have hro : Fence.wide.round = none := rfl
  refine callsIn_of_wp_marks Try.func21 rfl trivial ?_ hro
  simp only [Try.ntmps21, List.size_toArray, List.length_cons, List.length_nil, Nat.reduceAdd, Nat.reduceSub, Array.replicate_succ, Array.replicate_zero, List.push_toArray, List.append_toArray, List.nil_append, List.cons_append]
  gi_wp2_with fail
  refine ⟨trivial, ?_⟩
  refine (callsIn_wide.2 (cCheck _ l 0 HCK.out _ HS.out)).mono ?_
  rintro e w1 ⟨rfl, hb1⟩
  have hs1 := HS.out.below hb1
  have HS1 := Lib.hid hs1
  have HB1 := Lib.hid hb1
  have hz1 := hb1.size
  have hb2 : b0 < w1.heap.size := by omega
  clear hs1 hb1 HS HCK
  gi_wp2_with fail
  refine ⟨trivial, ?_⟩
  refine (blocks_in _ _ _ _ _).mono ?_
  rintro e w' ⟨rfl, rfl⟩
  gi_wp2
  have bE := (Boxed.new w1 3 (.int .i64 0)).alloc (.cells #[.slice (some ⟨b0, o0, none⟩) l.length cap] 37)
  have bN := Boxed.new (w1.alloc (.cells #[.int .i64 0] 3)) 37 (.slice (some ⟨b0, o0, none⟩) l.length cap)
  rw [World.size_alloc] at bN
  have hB0 : Below w1.heap.size w1 ((w1.alloc (.cells #[.int .i64 0] 3)).alloc (.cells #[.slice (some ⟨b0, o0, none⟩) l.length cap] 37)) := ((Below.refl _ w1).alloc (Nat.le_refl _) _).alloc (by simp) _
  have hsz : ((w1.alloc (.cells #[.int .i64 0] 3)).alloc (.cells #[.slice (some ⟨b0, o0, none⟩) l.length cap] 37)).heap.size = w1.heap.size + 2 := by simp
  obtain ⟨W0, hW0⟩ : ∃ W0, (w1.alloc (.cells #[.int .i64 0] 3)).alloc (.cells #[.slice (some ⟨b0, o0, none⟩) l.length cap] 37) = W0 := ⟨_, rfl⟩
  rw [hW0] at bE bN hB0 hsz ⊢
  clear hW0
  refine wpIn_rangeFunc_ownH hro h1 (gf := 47) (lb := #[.pointer (some ⟨w1.heap.size + 1, 0, none⟩)]) rfl trivial (enters_of Try.func47 (by kernel_rfl) rfl)
    (blocks_stops (8 - 1) (by omega) (w1.heap.size + 1) w1.heap.size _ cap l hl W0 (by omega) bN.cell (by omega) (HS1.out.below hB0) (fun b o e => by cases e; omega)) KeptC.trans (keptC_b) (Below.refl _ _) (fun _ => rfl)
    (fun pre W => Boxed W w1.heap.size 3 (.int .i64 (freeIn l (vals pre))) ∧ Below w1.heap.size w1 W)
    (fun _ _ _ => False)
    (OwnFrom.and (Own.from (boxed_own _ _ _) _) (ownFrom_below (Nat.le_refl _) (by omega)))
    (fun _ _ _ _ _ hs _ _ => hs)
    ⟨bE, hB0⟩
    (fun x a' W => ∃ Bx, w1.heap.size < Bx ∧ Box5 l x.1 Bx W ∧ a' = { tmps := #[.slice (some ⟨b0, o0, none⟩) l.length cap, undef, .int .i64 0, .pointer (some ⟨w1.heap.size, 0, none⟩), .pointer (some ⟨Bx, 0, none⟩), .slice (some ⟨b0, o0, none⟩) l.length cap, .int .i64 0, .bool false, .slice (some ⟨b0, o0, none⟩) l.length cap, .func (.func 47) #[] #[.pointer (some ⟨w1.heap.size + 1, 0, none⟩)], blkV l x.1, undef, undef, undef, undef, undef, undef, undef, undef, undef, undef, undef, undef], defers := [] })
    (fun x a' _ X Y row hs hg hr => by obtain ⟨Bx, e1, e2, e3⟩ := hs; exact ⟨Bx, e1, Box5.own l x.1 Bx _ () X Y row e2 hg hr, e3⟩)
    ?assign ?body ?done ?stop
  case assign =>
    rintro r pre x W K ⟨bE1, hB1⟩ hK
    unfold blkV at *
    gi_wp2
    exact hK _ _ ((KeepsOthers.alloc _ _).from _) (KeptC.ofBelow (below_one (Below.refl _ _) _)) ⟨bE1.alloc _, hB1.alloc hB1.size _⟩ ⟨W.heap.size, bE1.lt, Box5.new l x.1 W, rfl⟩
  case body =>
    rintro r pre x a' W hlW hr ⟨bE1, hB1⟩ ⟨Bx, hBx, bX, rfl⟩ hlt
    have cE := bE1.cell
    have fE := bE1.frozen
    obtain ⟨x0, x1, x2, x3, x4⟩ := self5 bX
    have HE : Hid (freeIn l (vals (pre ++ [x])) = freeIn l (vals pre) + (if (pg l x.1).kind = 0 then (pg l x.1).sz else 0)) := Lib.hid (by simp only [vals, List.map_append, List.map_cons, List.map_nil]; exact freeIn_snoc _ _ _)
    have hF := freeIn_le l pre
    have hF2 : pre.length * 1024 ≤ 1024 * 1024 := Nat.mul_le_mul_right 1024 (by omega)
    have hF3 : freeIn l (vals pre) ≤ 1048576 := by omega
    have hx1 := x.2.1
    have hsz1 := Pg.sz_le x.2.2.head
    generalize freeIn l (vals pre) = fr at bE1 cE HE hF hF3
    generalize (pg l x.1).sz = S at x4 HE hsz1
    clear hF hF2
    by_cases hk0 : (pg l x.1).kind = 0
    · have HE1 : Hid (freeIn l (vals (pre ++ [x])) = fr + S) := Lib.hid (by rw [HE.out, if_pos hk0])
      rw [hk0] at x0
      clear HE hk0
      gi_wp2
      refine ⟨(KeepsOthers.setCell _ _ _).from _, KeptC.setCell _ _ _, ?_, hB1.setCell (p := ⟨w1.heap.size, 0, none⟩) (Nat.le_refl _) _⟩
      rw [HE1.out]
      have e : (fr : Int) + (((x.1 : Int) + (S : Int)) - (x.1 : Int)) = (((fr + S : Nat)) : Int) := by omega
      rw [e]
      exact bE1.set _
    · have HE1 : Hid (freeIn l (vals (pre ++ [x])) = fr) := Lib.hid (by rw [HE.out, if_neg hk0]; rfl)
      clear HE
      gi_wp2
      refine ⟨KeepsFrom.refl _ _, KeptC.refl _ _, ?_, hB1⟩
      rw [HE1.out]
      exact bE1
  case done =>
    rintro D ys W hD hall ⟨bE1, hB1⟩ hK
    have cE := bE1.cell
    have HF : Hid (freeIn l (vals ys) = c) := Lib.hid (by rw [← HC.out, free_yes HV.out]; exact hall.free HV.out.2.2)
    have hBT := HB1.out.trans (hB1.mono hz1)
    generalize freeIn l (vals ys) = E at bE1 cE HF
    gi_wp2
    refine ⟨by simp, .inl ⟨_, _, rfl, run_takeDeferred hK, ?_⟩⟩
    exact ⟨_, results_tmp (t := 2) rfl _ _ _, by rw [← HF.out]; rfl, hBT.trans (belowK_b (w := w) (Nat.le_refl _) W D _ _ (by omega) hK rfl rfl)⟩
  case stop =>
    rintro D c pre W _ _ h _
    exact h.elim
set_option maxHeartbeats 1000000 in
theorem cFree (u : Value) (l : List Pg) (c : Nat) (hc : freeF l = c) (w : World) (hs : ShowP w u l) :
    Calls Try.prog 21 #[u] w fun e W' => e = .returned (.int .i64 (c : Int)) ∧ Below w.heap.size w W' := by
  by_cases h1 : Valid l
  · exact callsIn_wide.1 (Free_in u l h1 c hc w hs)
  · have HC : Hid (c = 0) := Lib.hid (by rw [← hc]; exact free_no h1)
    have HK := Lib.hid (chk_no h1)
    clear hc h1
    go_enter Try.func21, Try.ntmps21
    go_wp2_with (go_at_call 20; refine (cCheck _ l 50 HK.out _ hs).mono ?_; rintro e w1 ⟨rfl, hb⟩)
    go_ret
    exact ⟨by rw [HC.out]; rfl, hb⟩
end Go.Proofs.Ytpohfecbogppkaa
