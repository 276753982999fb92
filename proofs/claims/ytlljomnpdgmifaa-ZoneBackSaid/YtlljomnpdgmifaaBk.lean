/-
  The walk of ZoneBack.
-/
import Derived.Test.YtlljomnpdgmifaaPd
set_option linter.unusedVariables false
set_option linter.unusedSimpArgs false
namespace Go.Proofs.Ytlljomnpdgmifaa
open Go Go.RowKit

/-- a Zone to which the first k of what is out is back -/
structure Bw (W w : World) (z : Nat) (N : Zn) (m : Nat) (l : List Pg) (f : F) (t : Int → Option Pg) (g : G) (M k : Nat) (v : Value) : Prop where
  zt : Zt W w z N 3 l f t
  len : l.length = m
  own : w.ownsRow W.heap.size 42 2 v M (prs g M)
  inj : ∀ i j, i < M → j < M → (g i).1 = (g j).1 → i = j
  outs : ∀ i, k ≤ i → i < M → ∃ c, ot 3 l f (g i).1 = some ⟨2, ((g i).2 : Int), c⟩
  all : ∀ q, ot 3 l f q ≠ none → ∃ i, k ≤ i ∧ i < M ∧ (g i).1 = q
section
variable {W w w' : World} {z m M k : Nat} {N N' : Zn} {l l' : List Pg} {f f' : F} {t t' : Int → Option Pg} {g : G} {v : Value}
theorem Pw.back (h : Pw W w z N m l f t g M v) : Bw W w z N m l f t g M 0 v :=
  ⟨h.zt, h.len, h.own, h.inj, fun i _ hi => h.outs i hi, fun q hq => by
    obtain ⟨i, h1, h2⟩ := h.all q hq
    exact ⟨i, Nat.zero_le _, h1, h2⟩⟩
theorem Bw.drew (h : Bw W w z N m l f t g M k v) : Bw W w.drew z N m l f t g M k v := ⟨h.zt.below (Below.refl _ w).drew, h.len, own_below h.own (Below.refl _ w).drew, h.inj, h.outs, h.all⟩
theorem Bw.next (h : Bw W w z N m l f t g M k v) (hk : k < M) (hz : Zt W w' z N' 3 l' f' t') (hg : ZGoes w w' 3 z N N') (hd : Zd 3 l f l' f' (g k).1 (g k).2) : Bw W w' z N' m l' f' t' g M (k + 1) v :=
  ⟨hz, hd.len.trans h.len, own_kept h.own hg.1 (h.zt.zc.zb.own_row h.own), h.inj, fun i h1 h2 => by
    rw [hd.ot _ (fun e => by have := h.inj i k h2 hk e; omega)]
    exact h.outs i (by omega) h2, fun q hq => by
    have e : q ≠ (g k).1 := by
      rintro rfl
      exact hq hd.ot1
    rw [hd.ot q e] at hq
    obtain ⟨i, h1, h2, h3⟩ := h.all q hq
    refine ⟨i, ?_, h2, h3⟩
    by_cases hik : i = k
    · subst hik; exact absurd h3.symm e
    · omega⟩
theorem Bw.freeIs (h : Bw W w z N m l f t g M k v) (hk : k < M) (c : Nat) (hc : c < 3) : ∃ l' f', FrIs 3 l f c ((g k).1 : Int) 0 l' f' ∧ Zd 3 l f l' f' (g k).1 (g k).2 := by
  obtain ⟨ca, ho⟩ := h.outs k (Nat.le_refl _) hk
  obtain ⟨e, l', f', hr⟩ := fr_is h.zt.zc.inv (c : Int) ((g k).1 : Int)
  rcases hr.facts h.zt.zc.inv h.zt.zc.zb.fine with ⟨rfl, p, o, hp, hd⟩ | ⟨he, _⟩
  · obtain rfl : p = (g k).1 := by omega
    obtain ⟨c2, hc2⟩ := hd.ot0
    rw [ho] at hc2
    simp only [Option.some.injEq, Pg.mk.injEq, true_and] at hc2
    obtain rfl : o = (g k).2 := by omega
    exact ⟨l', f', hr, hd⟩
  · exfalso
    generalize hci : (c : Int) = ci at hr
    generalize hpi : ((g k).1 : Int) = pi at hr
    cases hr with
    | range _ _ hx => exact hx (by omega)
    | block c' _ _ hno =>
      have := hno (g k).1 hpi.symm
      rw [ho] at this
      cases this
    | big => exact he rfl
    | one => exact he rfl
/-- nothing is out, and some processors are drained -/
structure Dw (W w : World) (z : Nat) (N : Zn) (m : Nat) (l : List Pg) (f : F) (t : Int → Option Pg) (c : Nat) : Prop where
  zt : Zt W w z N 3 l f t
  len : l.length = m
  none : ∀ q, ot 3 l f q = none
  dry : ∀ i, i < c → f i = []
theorem Bw.done (h : Bw W w z N m l f t g M M v) : Dw W w z N m l f t 0 :=
  ⟨h.zt, h.len, fun q => by
    cases hq : ot 3 l f q with
    | none => rfl
    | some x =>
      obtain ⟨i, h1, h2, _⟩ := h.all q (by rw [hq]; simp)
      omega, fun i hi => by omega⟩
theorem Dw.below {c : Nat} (h : Dw W w z N m l f t c) (hb : Below w.heap.size w w') : Dw W w' z N m l f t c := ⟨h.zt.below hb, h.len, h.none, h.dry⟩
theorem Dw.next {c : Nat} (h : Dw W w z N m l f t c) (hc : c < 3) (hz : Zt W w' z N' 3 (backL l (f c)) (nUpd f c []) t') : Dw W w' z N' m (backL l (f c)) (nUpd f c []) t' (c + 1) := by
  have hs := h.zt.zc.inv.drain hc
  refine ⟨hz, hs.len.trans h.len, fun q => (hs.ot q).trans (h.none q), fun i hi => ?_⟩
  by_cases e : i = c
  · subst e; exact upd_same _ _ _
  · rw [nUpd_other _ _ e]; exact h.dry i (by omega)
theorem Dw.kinds (h : Dw W w z N m l f t 3) : ∀ i, i < l.length → (pg l i).kind ≠ 2 := fun i hi hk => by
  refine ot_none.1 (h.none i) ⟨hi, hk, hasB_no.2 fun c hc hx => ?_⟩
  rw [h.dry c hc] at hx
  simp at hx
theorem Dw.whole (h : Dw W w z N m l f t 3) : decide (l = ini l.length) = true ∧ freeF l + cnt 3 f = m := by
  have h1 := h.kinds
  refine ⟨decide_eq_true ((std_whole h.zt.zc.inv.std).2 (sum_all_zero fun i hi => one_no (h1 i hi))), ?_⟩
  have h2 := left_of h.zt.zc.inv.std
  rw [none_used h1] at h2
  have h3 : cnt 3 f = 0 := cnt_zero.2 h.dry
  have := h.len
  omega
end
set_option maxHeartbeats 16000000 in
set_option maxRecDepth 100000 in
theorem walkBack (pages : Int) (u : Value) (l0 : List Qd) (who : Int) (W : World) (hs : ShowD W u l0) :
    Calls Try.prog 5 #[.int .i64 pages, u, .int .i64 who] W fun e W' => e = .returned (.bool true) ∧ Below W.heap.size W W' := by
  have HS0 := Lib.hid hs
  obtain ⟨r, hr⟩ : ∃ r, bring pages 150 = r := ⟨_, rfl⟩
  have HR0 := Lib.hid hr
  have hrl : r < 150 := by rw [← hr]; exact bring_lt pages 150 (by decide)
  have HM : Hid (1 + bring pages 150 = r + 1) := Lib.hid (by omega)
  clear hs hr
  go_enter Try.func5, Try.ntmps5
  go_wp2_with fail
  refine (works _).mono ?_
  rintro e w0 ⟨rfl, hb0⟩
  have HB0 := Lib.hid hb0
  have HSB := Lib.hid (HS0.out.below hb0)
  clear hb0
  go_wp2_with fail
  refine (cPlayed pages u l0 (r + 1) HM.out _ HSB.out).mono ?_
  rintro e w1 ⟨z, N, l, f, t, g, M, v, rfl, hM60, hpw⟩
  obtain ⟨va, vc, rfl, hvc1, hvc2⟩ := own_shape hpw.own
  have HP := Lib.hid hpw.back
  clear hpw
  go_wp2
  go_loopw [9] (fun y wr => ∃ k : Nat, k ≤ M ∧ y = .int .i64 k ∧ Hid (∃ N l f t, Bw w0 wr z N (r + 1) l f t g M k (.slice va M vc))) (fun y _ => M - (intOf y).toNat)
  case atStart => exact ⟨0, by omega, rfl, Lib.hid ⟨_, _, _, _, HP.out⟩⟩
  case round =>
    obtain ⟨k, hk, rfl, HS⟩ := hrel
    obtain ⟨N2, l2, f2, t2, hbw⟩ := HS.out
    have HW := Lib.hid hbw
    clear HS hbw
    by_cases hlt : k < M
    · obtain ⟨X, hX⟩ : ∃ X, IntKind.i64.wrap (who + (k : Int)) = X := ⟨_, rfl⟩
      obtain ⟨c3, hc3⟩ : ∃ c, bring X 3 = c := ⟨_, rfl⟩
      have hc3l : c3 < 3 := by rw [← hc3]; exact bring_lt X 3 (by decide)
      have HC3 := Lib.hid hc3
      obtain ⟨l', f', hr, hd⟩ := HW.out.freeIs hlt c3 hc3l
      have HR := Lib.hid hr
      have HD := Lib.hid hd
      have HWD := Lib.hid HW.out.drew
      have hp1024 : (g k).1 < 1024 := by
        obtain ⟨ca, ho⟩ := HW.out.outs k (Nat.le_refl _) hlt
        have := (ot_some.1 ho).1.1
        have := HW.out.zt.zc.inv.std.valid.2.1
        omega
      obtain ⟨hb, e⟩ : ∃ hb, va = some ⟨hb, 0, none⟩ := by
        rcases HW.out.own.2 with ⟨_, e⟩ | ⟨hb, cap, cur, e, _⟩
        · omega
        · cases e; exact ⟨hb, rfl⟩
      subst e
      have HC := Lib.hid ((own_cells2 HWD.out.own).1 k hlt).1
      have HNO := Lib.hid (HWD.out.zt.zc.zb.own_row HWD.out.own hb rfl)
      clear hc3 hr hd
      go_wp2
      go_region_held3 (fun W => W.cell? ⟨hb, k * 2, none⟩ = some (.int .i64 ((g k).1 : Int)))
        (first | exact HC.out | exact cell_kept HC.out gM.1 HNO.out)
        (first
          | (go_at_call 14; refine (cBringN X 3 3 rfl (by decide) _).mono ?_; rintro e w3 ⟨rfl, rfl⟩; rw [HC3.out])
          | (go_at_call 17; refine (tFree HWD.out.zt (wf_small _ (by omega)) HR.out).mono ?_; rintro e w4 ⟨rfl, N4, t4, zM, gM⟩))
      all_goals
        have H5 := Lib.hid (HWD.out.next hlt zM gM HD.out)
        clear zM gM hX
        go_wp2
        go_roundw
        case rel => exact ⟨k + 1, by omega, by go_num, Lib.hid ⟨_, _, _, _, H5.out⟩⟩
        case measure => simp [intOf]; omega
    · obtain rfl : k = M := by omega
      have HD0 := Lib.hid HW.out.done
      clear HW HP
      go_wp2
      go_loopw [10] (fun y wr => ∃ c : Nat, c ≤ 3 ∧ y = .int .i64 c ∧ Hid (∃ N l f t, Dw w0 wr z N (r + 1) l f t c)) (fun y _ => 3 - (intOf y).toNat)
      case atStart => exact ⟨0, by omega, rfl, Lib.hid ⟨_, _, _, _, HD0.out⟩⟩
      case round =>
        obtain ⟨c, hc, rfl, HS⟩ := hrel
        obtain ⟨N5, l5, f5, t5, hdw⟩ := HS.out
        have HW5 := Lib.hid hdw
        clear HS hdw
        by_cases hlt2 : c < 3
        · have hK6 := HW5.out.zt.zc.zb.fine c hlt2
          have HLO := Lib.hid (listOf_yes f5 hlt2)
          obtain ⟨K, hK⟩ : ∃ K, (f5 c).length = K := ⟨_, rfl⟩
          have HKK : Hid ((listOf f5 3 (c : Int)).length = K) := Lib.hid (by rw [HLO.out, hK])
          rw [hK] at hK6
          have HR5 : Hid (DrIs 3 l5 f5 (c : Int) 0 (backL l5 (f5 c)) (nUpd f5 c [])) := Lib.hid (.ok c hlt2)
          clear hK
          go_wp2_with fail
          refine (tNear HW5.out.zt c K HKK.out).mono ?_
          rintro e w6 ⟨rfl, hz6, hb6⟩
          have HW6 := Lib.hid (HW5.out.below hb6)
          clear hz6 hb6
          go_wp2_with fail
          refine (tDrain HW6.out.zt HR5.out).mono ?_
          rintro e w7 ⟨rfl, N7, t7, hz7, _⟩
          have HW7 := Lib.hid (HW6.out.next hlt2 hz7)
          clear hz7
          go_wp2_with fail
          refine (tNear HW7.out.zt c 0 (by rw [listOf_yes _ hlt2, HW7.out.dry c (by omega)]; rfl)).mono ?_
          rintro e w8 ⟨rfl, hz8, hb8⟩
          have HW8 := Lib.hid (HW7.out.below hb8)
          clear hz8 hb8
          go_wp2
          go_roundw
          case rel => exact ⟨c + 1, by omega, by go_num, Lib.hid ⟨_, _, _, _, HW8.out⟩⟩
          case measure => simp [intOf]; omega
        · obtain rfl : c = 3 := by omega
          have HWH := Lib.hid HW5.out.whole
          go_wp2_with fail
          refine (tWhole HW5.out.zt true HWH.out.1).mono ?_
          rintro e w6 ⟨rfl, hz6, _⟩
          have HW6 := Lib.hid hz6
          clear hz6
          go_wp2_with fail
          refine (tLeft HW6.out (r + 1) HWH.out.2).mono ?_
          rintro e w7 ⟨rfl, hz7, _⟩
          have HW7 := Lib.hid hz7
          clear hz7
          go_wp2_with fail
          refine (cBringN pages 150 150 rfl (by decide) _).mono ?_
          rintro e w8 ⟨rfl, rfl⟩
          rw [HR0.out]
          have s4 : (((r + 1 : Nat) : Int) == 1 + (r : Int)) = true := by rw [beq_iff_eq]; omega
          go_wp2
          go_ret
          exact ⟨ret_bool (by simp; try omega), HB0.out.trans (HW7.out.low.mono HB0.out.size)⟩
end Go.Proofs.Ytlljomnpdgmifaa
