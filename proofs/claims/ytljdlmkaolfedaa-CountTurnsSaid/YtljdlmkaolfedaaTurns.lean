/-
  The law CountTurns, walked.
-/
import Derived.Test.YtljdlmkaolfedaaWorks
set_option linter.unusedVariables false
set_option linter.unusedSimpArgs false
namespace Go.Proofs.Ytljdlmkaolfedaa
open Go Go.RowKit

/-- a field is stored -/
theorem wpList_storeI {ops : Array Oper} {rest : List Oper} {o : Oper} {a : Act} {w : World} {Q : Exit → Act → World → Prop} (hgd : o.guard = none) (x y : Operand) (ho : o.op = .store 3 x y)
    (g : Nat) (v : Int) (c : Ct) (hx : a.eval x = .pointer (some ⟨g, 0, none⟩)) (hy : a.eval y = .int .i64 v) (hg : CtAt w g c)
    (h : ∀ w', CtAt w' g ⟨v, c.n, c.f, c.l⟩ → Kept (· = g) w w' → wpList Try.prog ops Q rest (a.put o.dst undef) w') : wpList Try.prog ops Q (o :: rest) a w := by
  have hc := hg.cells.1
  have hf := self_free hg 0
  have hn := h (w.setCell ⟨g, 0, none⟩ (.int .i64 v)) (hg.inuse v) (Kept.setCell (S := (· = g)) (p := ⟨g, 0, none⟩) (Kept.refl _ _) rfl _)
  refine wpList_plain hgd fun K hK => ?_
  have h2 := hK _ _ hn
  unfold Oper.wp execOp
  simp only [ho, hx, hy]
  simp [go_sem, hc, hf]
  exact h2
theorem wpList_storeB {ops : Array Oper} {rest : List Oper} {o : Oper} {a : Act} {w : World} {Q : Exit → Act → World → Prop} (hgd : o.guard = none) (x y : Operand) (ho : o.op = .store 4 x y)
    (g : Nat) (v : Bool) (c : Ct) (hx : a.eval x = .pointer (some ⟨g, 2, none⟩)) (hy : a.eval y = .bool v) (hg : CtAt w g c)
    (h : ∀ w', CtAt w' g ⟨c.i, c.n, v, c.l⟩ → Kept (· = g) w w' → wpList Try.prog ops Q rest (a.put o.dst undef) w') : wpList Try.prog ops Q (o :: rest) a w := by
  have hc := hg.cells.2.2.1
  have hf := self_free hg 2
  have hn := h (w.setCell ⟨g, 2, none⟩ (.bool v)) (hg.frozen v) (Kept.setCell (S := (· = g)) (p := ⟨g, 2, none⟩) (Kept.refl _ _) rfl _)
  refine wpList_plain hgd fun K hK => ?_
  have h2 := hK _ _ hn
  unfold Oper.wp execOp
  simp only [ho, hx, hy]
  simp [go_sem, hc, hf]
  exact h2
theorem kept_other {g B : Nat} {w w' : World} {K : Nat} {c : Ct} (h : CtAt w K c) (hk : Kept (· = g) w w') (hg : K ≠ g) : CtAt w' K c := h.kept hk hg
set_option maxHeartbeats 6000000 in
set_option maxRecDepth 100000 in
theorem walkTurns (x y : Int) (f : Bool) (W : World) : Calls Try.prog 6 #[.int .i64 x, .int .i64 y, .bool f] W fun e W' => e = .returned (.bool true) ∧ Below W.heap.size W W' := by
  have HX := Lib.hid (cBringN x 16 16 rfl (by decide))
  have h1 := bring_lt x 16 (by decide)
  generalize bring x 16 = D at *
  obtain ⟨N, hN⟩ : ∃ N : Nat, 1 + D = N := ⟨_, rfl⟩
  have hn1 : 1 ≤ N := by omega
  have hn2 : N ≤ 16 := by omega
  have hDN : 1 + (D : Int) = (N : Int) := by omega
  have HY := Lib.hid (cBringN y N N rfl (by omega))
  have h2 := bring_lt y N (by omega)
  generalize bring y N = I at *
  have m0 : mayC ⟨I, N, f, true⟩ := Or.inl ⟨rfl, by dsimp only; omega, by dsimp only; omega, by dsimp only; omega, by dsimp only; omega⟩
  have m1 : mayC ⟨(I : Int) + 1, N, f, true⟩ := Or.inl ⟨rfl, by dsimp only; omega, by dsimp only; omega, by dsimp only; omega, by dsimp only; omega⟩
  have m2 : mayC ⟨I, N, !f, true⟩ := Or.inl ⟨rfl, by dsimp only; omega, by dsimp only; omega, by dsimp only; omega, by dsimp only; omega⟩
  have p0 := cPack ⟨I, N, f, true⟩
  rw [← (pack_good m0).1, ← (pack_good m0).2] at p0
  have p1 := cPack ⟨(I : Int) + 1, N, f, true⟩
  rw [← (pack_good m1).1, ← (pack_good m1).2] at p1
  have p2 := cPack ⟨I, N, !f, true⟩
  rw [← (pack_good m2).1, ← (pack_good m2).2] at p2
  have r0 := wd_range m0
  have r1 := wd_range m1
  have p3 := cCounts (wdC ⟨(I : Int) + 1, N, f, true⟩) ⟨r1.1, by omega⟩
  rw [cnt_wd m1, decide_eq_true (wd_is m1)] at p3
  have e1 : wdC ⟨(I : Int) + 1, N, f, true⟩ = wdC ⟨I, N, f, true⟩ + 1 := by unfold wdC; dsimp only; omega
  have hxor := xor_frozen I N (by omega) (by omega) f
  rw [e1] at p1 p3
  generalize wdC ⟨I, N, f, true⟩ = V at *
  generalize wdC ⟨I, N, !f, true⟩ = U at *
  obtain ⟨v1, v2⟩ := r0
  have hand := bit_one
  have hVV : (V == V) = true := by simp
  have hV1 : (V + 1 == V + 1) = true := by simp
  have P0 := Lib.hid p0
  have P1 := Lib.hid p1
  have P2 := Lib.hid p2
  have P3 := Lib.hid p3
  clear p0 p1 p2 p3 m0 m1 m2 r1 e1
  clear hN
  go_enter Try.func6, Try.ntmps6
  go_wp2_with fail
  refine (HX.out _).mono ?_
  rintro e w1 ⟨rfl, rfl⟩
  go_wp2_with fail
  refine (HY.out _).mono ?_
  rintro e w1 ⟨rfl, rfl⟩
  go_wp2_with (refine wpList_storeC (by rfl) _ _ (by rfl) w1.heap.size ⟨I, N, f, true⟩ (by rfl) (by rfl) _ (zero_new w1) rfl ?_; intro w2 h2 hk2; have HA2 := Lib.hid h2; have HW2 := Lib.hid (below_one_kept (below_one (Below.refl w1.heap.size w1) _) hk2 (Nat.le_refl _)); clear h2 hk2; refine Stop.mk ?_)
  unfold Stop
  go_wp2_with (refine wpList_loadC (by rfl) _ (by rfl) w1.heap.size ⟨I, N, f, true⟩ (by rfl) HA2.out ?_)
  refine (P0.out _).mono ?_
  rintro e w3 ⟨rfl, hb3⟩
  have HA3 := Lib.hid (HA2.out.below hb3)
  have HW3 := Lib.hid (below_then HW2.out hb3)
  clear hb3 HA2 HW2
  go_wp2_with (first
    | (refine wpList_loadC (by rfl) _ (by rfl) w1.heap.size ⟨I, N, f, true⟩ (by rfl) HA3.out ?_)
    | (refine wpList_storeC (by rfl) _ _ (by rfl) w3.heap.size ⟨I, N, f, true⟩ (by rfl) (by rfl) _ (zero_new w3) rfl ?_; intro w4 h4 hk4; have hb4 := below_one_kept (below_one (Below.refl w3.heap.size w3) _) hk4 (Nat.le_refl _); have HB4 := Lib.hid h4; have HA4 := Lib.hid (HA3.out.below hb4); have HG4 := Lib.hid HW3.out.size; have HL4 := Lib.hid HA3.out.lt; have HW4 := Lib.hid (below_then HW3.out hb4); clear h4 hk4 hb4 HA3 HW3; refine Stop.mk ?_))
  unfold Stop
  obtain ⟨c0, _, _, _⟩ := HA4.out.cells
  dsimp only at c0
  go_wp2_with (refine wpList_storeI (by rfl) _ _ (by rfl) w3.heap.size ((I : Int) + 1) _ (by rfl) (by rfl) HB4.out ?_; intro w5 h5 hk5; have HB5 := Lib.hid h5; have HA5 := Lib.hid (HA4.out.kept hk5 (Nat.ne_of_lt HL4.out)); have HW5 := Lib.hid (below_one_kept HW4.out hk5 HG4.out); clear h5 hk5 HA4 HB4 HW4 HG4 HL4; refine Stop.mk ?_)
  unfold Stop
  clear c0
  go_wp2_with (refine wpList_loadC (by rfl) _ (by rfl) w3.heap.size ⟨(I : Int) + 1, N, f, true⟩ (by rfl) HB5.out ?_)
  refine (P1.out _).mono ?_
  rintro e w6 ⟨rfl, hb6⟩
  have HA6 := Lib.hid (HA5.out.below hb6)
  have HW6 := Lib.hid (below_then HW5.out hb6)
  clear hb6 HA5 HB5 HW5
  go_wp2_with (first
    | (refine wpList_loadC (by rfl) _ (by rfl) w1.heap.size ⟨I, N, f, true⟩ (by rfl) HA6.out ?_)
    | (refine wpList_storeC (by rfl) _ _ (by rfl) w6.heap.size ⟨I, N, f, true⟩ (by rfl) (by rfl) _ (zero_new w6) rfl ?_; intro w7 h7 hk7; have hb7 := below_one_kept (below_one (Below.refl w6.heap.size w6) _) hk7 (Nat.le_refl _); have HB7 := Lib.hid h7; have HG7 := Lib.hid HW6.out.size; have HW7 := Lib.hid (below_then HW6.out hb7); clear h7 hk7 hb7 HA6 HW6; refine Stop.mk ?_))
  unfold Stop
  go_wp2_with (refine wpList_storeB (by rfl) _ _ (by rfl) w6.heap.size (!f) _ (by rfl) (by rfl) HB7.out ?_; intro w8 h8 hk8; have HB8 := Lib.hid h8; have HW8 := Lib.hid (below_one_kept HW7.out hk8 HG7.out); clear h8 hk8 HB7 HW7 HG7; refine Stop.mk ?_)
  unfold Stop
  go_wp2_with (refine wpList_loadC (by rfl) _ (by rfl) w6.heap.size ⟨I, N, !f, true⟩ (by rfl) HB8.out ?_)
  refine (P2.out _).mono ?_
  rintro e w9 ⟨rfl, hb9⟩
  have HW9 := Lib.hid (below_then HW8.out hb9)
  clear hb9 HB8 HW8
  go_wp2_with fail
  refine (P3.out _).mono ?_
  rintro e w10 ⟨rfl, hb10⟩
  have HW10 := Lib.hid (below_then HW9.out hb10)
  clear hb10 HW9
  go_wp2_with (refine wpList_storeC (by rfl) _ _ (by rfl) w10.heap.size ⟨(I : Int) + 1, N, f, true⟩ (by rfl) (by rfl) _ (zero_new w10) rfl ?_; intro w11 h11 hk11; have hb11 := below_one_kept (below_one (Below.refl w10.heap.size w10) _) hk11 (Nat.le_refl _); have HB11 := Lib.hid h11; have HG11 := Lib.hid HW10.out.size; have HW11 := Lib.hid (below_then HW10.out hb11); clear h11 hk11 hb11 HW10; refine Stop.mk ?_)
  unfold Stop
  obtain ⟨c0, _, _, _⟩ := HB11.out.cells
  dsimp only at c0
  go_wp2_with (refine wpList_storeI (by rfl) _ _ (by rfl) w10.heap.size (I : Int) _ (by rfl) (by rfl) HB11.out ?_; intro w12 h12 hk12; have HB12 := Lib.hid h12; have HW12 := Lib.hid (below_one_kept HW11.out hk12 HG11.out); clear h12 hk12 HB11 HW11 HG11; refine Stop.mk ?_)
  unfold Stop
  clear c0
  go_wp2_with (refine wpList_loadC (by rfl) _ (by rfl) w10.heap.size ⟨I, N, f, true⟩ (by rfl) HB12.out ?_)
  refine (P0.out _).mono ?_
  rintro e w13 ⟨rfl, hb13⟩
  have HW13 := Lib.hid (below_then HW12.out hb13)
  clear hb13 HB12 HW12
  go_wp2_with fail
  refine (works _).mono ?_
  rintro e w14 ⟨rfl, hb14⟩
  have HW14 := Lib.hid (below_then HW13.out hb14)
  clear hb14 HW13
  go_wp2
  go_ret
  exact ⟨rfl, HW14.out⟩
end Go.Proofs.Ytljdlmkaolfedaa
