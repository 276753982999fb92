/-
  The walk of ZoneFull.
-/
import Derived.Test.YtlljomnpdgmifaaPd
set_option linter.unusedVariables false
set_option linter.unusedSimpArgs false
namespace Go.Proofs.Ytlljomnpdgmifaa
open Go Go.RowKit

theorem NoFit.zero {l : List Pg} (h : Std l) (hn : NoFit l 0) : freeF l = 0 := by
  rw [free_yes h.valid]
  have key : ∀ k, k ≤ l.length → freeTo l k = 0 := by
    intro k hk
    induction k with
    | zero => rfl
    | succ k ih =>
      have e : freeTo l (k + 1) = freeTo l k + (if (pg l (beg l k)).kind = 0 then 1 else 0) := rfl
      rw [e, ih (by omega), if_neg]
      intro h0
      obtain ⟨hs, _, _⟩ := h.cov.good.at_beg (show k < l.length by omega)
      have hf := hs.fits
      have hz := (pg l (beg l k)).sz_pos
      have ho := (Pg.ok_iff.1 hs.head).1
      exact hn (pg l (beg l k)).order.toNat (Nat.zero_le _) (by omega) (beg l k) (by omega) (ok_zero hs.head (by omega))
  exact key _ (Nat.le_refl _)
theorem listOf_zero {f : F} {n : Nat} (h : cnt n f = 0) (c : Int) : (listOf f n c).length = 0 := by
  unfold listOf
  split
  · rw [cnt_zero.1 h c.toNat (by omega)]; rfl
  · rfl
theorem keysT {W0 w : World} {K : Nat} {a b c : Value} (h : W0.cell? ⟨K, 0, none⟩ = some a ∧ W0.cell? ⟨K, 1, none⟩ = some b ∧ W0.cell? ⟨K, 2, none⟩ = some c) (hb : Below W0.heap.size W0 w) : w.cell? ⟨K, 0, none⟩ = some a ∧ w.cell? ⟨K, 1, none⟩ = some b ∧ w.cell? ⟨K, 2, none⟩ = some c :=
  ⟨cell_keep hb h.1, cell_keep hb h.2.1, cell_keep hb h.2.2⟩
set_option maxHeartbeats 16000000 in
set_option maxRecDepth 100000 in
theorem walkFull (pages : Int) (u : Value) (l0 : List Qd) (order : Int) (W : World) (hs : ShowD W u l0) :
    Calls Try.prog 6 #[.int .i64 pages, u, .int .i64 order] W fun e W' => e = .returned (.bool true) ∧ Below W.heap.size W W' := by
  have HS0 := Lib.hid hs
  obtain ⟨m, hm⟩ : ∃ m, 1 + bring pages 150 = m := ⟨_, rfl⟩
  have HM := Lib.hid hm
  have hml : m ≤ 150 := by rw [← hm]; have := bring_lt pages 150 (by decide); omega
  obtain ⟨o, ho⟩ : ∃ o, bring order 11 = o := ⟨_, rfl⟩
  have ho10 : o ≤ 10 := by rw [← ho]; have := bring_lt order 11 (by decide); omega
  have HO := Lib.hid ho
  obtain ⟨S, hS⟩ : ∃ S, 2 ^ o = S := ⟨_, rfl⟩
  have hSi := pow_int o S hS
  have hS1 : S ≤ 1024 := by rw [← hS]; exact (pow_le o ho10).2
  have HSS := Lib.hid hS
  clear hs hm ho hS
  go_enter Try.func6, Try.ntmps6
  go_wp2_with fail
  refine (cPlayed pages u l0 m HM.out _ HS0.out).mono ?_
  rintro e w1 ⟨z, N, l, f, t, g, M, v, rfl, _, hpw⟩
  have HP := Lib.hid hpw.zt
  have HLEN := Lib.hid hpw.len
  clear hpw
  go_wp2_with fail
  refine (cBringN order 11 11 rfl (by decide) _).mono ?_
  rintro e w2 ⟨rfl, rfl⟩
  rw [HO.out]
  obtain ⟨L, hL⟩ : ∃ L, freeF l + cnt 3 f = L := ⟨_, rfl⟩
  have HL := Lib.hid hL
  have hLm : L ≤ 2048 := by
    have h1 := left_of HP.out.zc.inv.std
    have h2 := HLEN.out
    have hf := HP.out.zc.zb.fine
    have : cnt 3 f ≤ 18 := by
      have a0 := hf 0 (by decide)
      have a1 := hf 1 (by decide)
      have a2 := hf 2 (by decide)
      simp only [cnt, sumTo]
      omega
    omega
  clear hL
  go_wp2_with fail
  refine (tLeft HP.out L HL.out).mono ?_
  rintro e w3 ⟨rfl, hz3, _⟩
  have H3 := Lib.hid hz3
  clear hz3 HP
  obtain ⟨pi, ei, l', f', hb⟩ := blk_is H3.out.zc.inv (c := 0) (order := o) (cache := 5) (by decide) ho10 (by decide) (by decide)
  have HB := Lib.hid (AlIs.blk 0 o 5 pi ei l' f' (by decide) ho10 (by decide) (by decide) hb)
  rcases hb.facts H3.out.zc.inv (by decide) ho10 (by decide) (by decide) with ⟨rfl, q, rfl, ha⟩ | ⟨rfl, rfl, hsm, hc0, hno⟩
  · have HA := Lib.hid ha
    obtain ⟨L2, hL2⟩ : ∃ L2, freeF l' + cnt 3 f' = L2 := ⟨_, rfl⟩
    have hLS : L = L2 + S := by
      have h1 := left_of H3.out.zc.inv.std
      have h2 := left_of ha.inv.std
      have h3 := ha.bal
      have h4 := ha.len
      have h5 := HL.out
      rw [HSS.out] at h3
      omega
    have HL2 := Lib.hid hL2
    have HLS := Lib.hid hLS
    clear hb ha hL2 hLS
    go_wp2_with fail
    refine (tAlloc H3.out HB.out).mono ?_
    rintro e w4 ⟨rfl, N4, t4, hz4, _⟩
    have H4 := Lib.hid hz4
    clear hz4 H3
    have hq1024 : q < 1024 := by
      have h1 := (ot_some.1 HA.out.ot1).1.1
      have h2 := HA.out.inv.std.valid.2.1
      omega
    go_wp2_with fail
    refine (tTag H4.out (wf_small q (by omega)) (.inl ⟨H4.out.zc.tg.head HA.out.ot1, rfl⟩)).mono ?_
    rintro e w5 ⟨rfl, hz5, _⟩
    have H5 := Lib.hid ((hz5.below (below_one (Below.refl _ _) (.cells #[.int .i64 (q : Int), .int .i64 (o : Int), .int .i64 5] 44))).below (Below.refl _ _).drew)
    have hblk := heap_new w5 (.cells #[.int .i64 (q : Int), .int .i64 (o : Int), .int .i64 5] 44)
    obtain ⟨k0, k1, k2⟩ := self3 hblk
    have HK := Lib.hid (show (w5.alloc (.cells #[.int .i64 (q : Int), .int .i64 (o : Int), .int .i64 5] 44)).drew.cell? ⟨w5.heap.size, 0, none⟩ = some (.int .i64 (q : Int)) ∧ (w5.alloc (.cells #[.int .i64 (q : Int), .int .i64 (o : Int), .int .i64 5] 44)).drew.cell? ⟨w5.heap.size, 1, none⟩ = some (.int .i64 (o : Int)) ∧ (w5.alloc (.cells #[.int .i64 (q : Int), .int .i64 (o : Int), .int .i64 5] 44)).drew.cell? ⟨w5.heap.size, 2, none⟩ = some (.int .i64 5) from ⟨k0, k1, k2⟩)
    have heq := eqinT_self (q : Int) (o : Int) 5
    have hgd := guardT
    have s0 : IntKind.i64.wrap (S : Int) = (S : Int) := IntWalk.i64_in _ (by omega)
    have s2 : IntKind.i64.wrap ((L : Int) - (S : Int)) = (L : Int) - (S : Int) := IntWalk.i64_in _ (by omega)
    have s4 : ((L2 : Int) == (L : Int) - (S : Int)) = true := by rw [beq_iff_eq]; have := HLS.out; omega
    clear hz5 H4 k0 k1 k2 hblk
    go_wp2
    go_region_held3 (fun W => W.cell? ⟨w5.heap.size, 0, none⟩ = some (.int .i64 (q : Int)) ∧ W.cell? ⟨w5.heap.size, 1, none⟩ = some (.int .i64 (o : Int)) ∧ W.cell? ⟨w5.heap.size, 2, none⟩ = some (.int .i64 5))
      (first | exact HK.out | exact keysT (by assumption) hb8 | exact keysT HK.out hb7)
      (first
        | (go_at_call 15; refine (tLeft H5.out L2 HL2.out).mono ?_; rintro e w7 ⟨rfl, hz7, hb7⟩)
        | (go_at_call 12; refine (works _).mono ?_; rintro e w8 ⟨rfl, hb8⟩))
    all_goals
      have H9 := Lib.hid (hz7.below hb8)
      clear hz7 hb8 hb7 heq hgd s0 s2 s4
      go_wp2
      go_ret
      exact ⟨ret_bool (by simp), H9.out.low⟩
  · have HL2 : Hid (freeF l' + cnt 3 f' = L) := Lib.hid (by
      have h1 := left_of H3.out.zc.inv.std
      have h2 := left_of hsm.inv.std
      have h3 := hsm.bal
      have h4 := hsm.len
      have h5 := HL.out
      omega)
    have HN := Lib.hid (fun c => listOf_zero hc0 c)
    have hL0 : o = 0 → L = 0 := fun e => by
      subst e
      have := hno.zero hsm.inv.std
      have := HL2.out
      omega
    have hL0' : o = 0 → (L : Int) = 0 := fun e => by rw [hL0 e]; rfl
    clear hb hsm hc0 hno
    by_cases h0 : o = 0
    · have HLZ := Lib.hid (hL0 h0)
      clear hL0 hL0'
      subst h0
      go_wp2_with fail
      refine (tAlloc H3.out HB.out).mono ?_
      rintro e w4 ⟨rfl, N4, t4, hz4, _⟩
      have H4 := Lib.hid hz4
      clear hz4 H3
      go_wp2_with fail
      refine (tLeft H4.out L HL2.out).mono ?_
      rintro e w5 ⟨rfl, hz5, _⟩
      have H5 := Lib.hid hz5
      clear hz5 H4
      go_wp2_with fail
      refine (tNear H5.out 0 0 (HN.out 0)).mono ?_
      rintro e w6 ⟨rfl, hz6, _⟩
      have H6 := Lib.hid hz6
      clear hz6 H5
      go_wp2_with fail
      refine (tNear H6.out 1 0 (HN.out 1)).mono ?_
      rintro e w7 ⟨rfl, hz7, _⟩
      have H7 := Lib.hid hz7
      clear hz7 H6
      go_wp2_with fail
      refine (tNear H7.out 2 0 (HN.out 2)).mono ?_
      rintro e w8 ⟨rfl, hz8, _⟩
      have H8 := Lib.hid hz8
      clear hz8 H7
      have hLz := HLZ.out
      subst hLz
      go_wp2_with fail
      refine (works _).mono ?_
      rintro e w9 ⟨rfl, hb9⟩
      have H9 := Lib.hid (H8.out.below hb9)
      clear hb9
      go_wp2
      go_ret
      exact ⟨ret_bool (by simp), H9.out.low⟩
    · have hpos : (0 : Int) < (o : Int) := by omega
      clear hL0 hL0'
      go_wp2_with fail
      refine (tAlloc H3.out HB.out).mono ?_
      rintro e w4 ⟨rfl, N4, t4, hz4, _⟩
      have H4 := Lib.hid hz4
      clear hz4 H3
      go_wp2_with fail
      refine (tLeft H4.out L HL2.out).mono ?_
      rintro e w5 ⟨rfl, hz5, _⟩
      have H5 := Lib.hid hz5
      clear hz5 H4
      go_wp2_with fail
      refine (tNear H5.out 0 0 (HN.out 0)).mono ?_
      rintro e w6 ⟨rfl, hz6, _⟩
      have H6 := Lib.hid hz6
      clear hz6 H5
      go_wp2_with fail
      refine (tNear H6.out 1 0 (HN.out 1)).mono ?_
      rintro e w7 ⟨rfl, hz7, _⟩
      have H7 := Lib.hid hz7
      clear hz7 H6
      go_wp2_with fail
      refine (tNear H7.out 2 0 (HN.out 2)).mono ?_
      rintro e w8 ⟨rfl, hz8, _⟩
      have H8 := Lib.hid hz8
      clear hz8 H7
      go_wp2_with fail
      refine (works _).mono ?_
      rintro e w9 ⟨rfl, hb9⟩
      have H9 := Lib.hid (H8.out.below hb9)
      clear hb9
      go_wp2
      go_ret
      exact ⟨ret_bool (by simp), H9.out.low⟩
end Go.Proofs.Ytlljomnpdgmifaa
