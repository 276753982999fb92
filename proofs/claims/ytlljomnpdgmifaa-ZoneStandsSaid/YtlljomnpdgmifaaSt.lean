/-
  The walk of ZoneStands.
-/
import Derived.Test.YtlljomnpdgmifaaPd
set_option linter.unusedVariables false
set_option linter.unusedSimpArgs false
namespace Go.Proofs.Ytlljomnpdgmifaa
open Go Go.RowKit

/-! ### which pages are marked -/
def cov (g : G) (i x : Nat) : Bool := (List.range i).any fun j => decide ((g j).1 ≤ x ∧ x < (g j).1 + 2 ^ (g j).2)
theorem cov_iff {g : G} {i x : Nat} : cov g i x = true ↔ ∃ j, j < i ∧ (g j).1 ≤ x ∧ x < (g j).1 + 2 ^ (g j).2 := by simp [cov]
theorem cov_zero (g : G) (x : Nat) : cov g 0 x = false := rfl
theorem cov_succ (g : G) (i x : Nat) : cov g (i + 1) x = (cov g i x || decide ((g i).1 ≤ x ∧ x < (g i).1 + 2 ^ (g i).2)) := by
  unfold cov
  rw [List.range_succ, List.any_append]
  simp
def prt (g : G) (i k x : Nat) : Bool := cov g i x || decide ((g i).1 ≤ x ∧ x < k)
theorem sum_mono (u : Nat → Nat) {i M : Nat} (h : i ≤ M) : sumTo u i ≤ sumTo u M := by
  induction M with
  | zero => obtain rfl : i = 0 := by omega
            exact Nat.le_refl _
  | succ M ih =>
    by_cases e : i = M + 1
    · rw [e]; exact Nat.le_refl _
    · have := ih (by omega)
      simp only [sumTo]
      omega
theorem infoArr : (Try.prog.info? 40).map (fun i => (i.zero, i.size, i.bytes)) = some (some (.agg (Array.replicate 1024 (.int .i64 0))), 1024, 8192) := by kernel_rfl
theorem run_zeroA {t : TypeId} {Z : Array Value} {s b : Nat} (h : (Try.prog.info? t).map (fun i => (i.zero, i.size, i.bytes)) = some (some (.agg Z), s, b)) (w : World) : (zeroValue t).run Try.prog w = .ok (.agg Z) w := by
  obtain ⟨i0, hi, hz0, hz1, hz2⟩ := info_parts h
  simp [zeroValue, typeInfo, hi, hz0, go_sem]
def cellQ (P : Nat → Bool) (x : Nat) : Value := .int .i64 (if P x then 1 else 0)
theorem makeArr : ∃ Z : Array Value, (∀ w : World, (zeroValue 40).run Try.prog w = .ok (.agg Z) w) ∧ ∀ w : World, (w.alloc (.cells Z 40)).rowIs w.heap.size 40 1024 (cellQ (fun _ => false)) :=
  ⟨_, run_zeroA infoArr, fun w => ⟨_, heap_new w _, by simp, fun i hi => by simp [hi, cellQ]⟩⟩
structure Sw (W w : World) (z : Nat) (N : Zn) (m : Nat) (l : List Pg) (f : F) (t : Int → Option Pg) (g : G) (M : Nat) (v : Value) (D : Nat) (P : Nat → Bool) : Prop where
  pw : Pw W w z N m l f t g M v
  arr : w.rowIs D 40 1024 (cellQ P)
  ge : W.heap.size ≤ D
section
variable {W w w' : World} {z m M D : Nat} {N N' : Zn} {l l' : List Pg} {f f' : F} {t t' : Int → Option Pg} {g : G} {v : Value} {P Q : Nat → Bool}
theorem Sw.below (h : Sw W w z N m l f t g M v D P) (hb : Below w.heap.size w w') : Sw W w' z N m l f t g M v D P := ⟨h.pw.below hb, row_kept h.arr (S := fun _ => False) (Kept.ofBelow hb) id, h.ge⟩
theorem Sw.congr (h : Sw W w z N m l f t g M v D P) (e : ∀ x, x < 1024 → Q x = P x) : Sw W w z N m l f t g M v D Q := ⟨h.pw, h.arr.congr fun i hi => by unfold cellQ; rw [e i hi], h.ge⟩
theorem Sw.at (h : Sw W w z N m l f t g M v D P) {x : Nat} (hx : x < 1024) : w.cell? ⟨D, x, none⟩ = some (.int .i64 (if P x then 1 else 0)) ∧ w.frozen? ⟨D, x, none⟩ = false := ⟨h.arr.cell hx, h.arr.frozen x⟩
theorem Sw.set (h : Sw W w z N m l f t g M v D P) (x : Nat) : Sw W (w.setCell ⟨D, x, none⟩ (.int .i64 1)) z N m l f t g M v D (fun i => if i = x then true else P i) := by
  have hset : Kept (· = D) w (w.setCell ⟨D, x, none⟩ (.int .i64 1)) := Kept.setCell (S := (· = D)) (p := ⟨D, x, none⟩) (Kept.refl _ w) rfl _
  obtain ⟨c, hb, _⟩ := h.arr
  have hno : ¬ ZOwn 3 z N D := h.pw.zt.zc.zb.not_own hb (by decide) (by decide) (by decide) (by decide) (by decide) (by decide)
  have hv : ∀ j, v.ownBlock = some j → ¬ j = D := fun j e ej => by
    subst ej
    exact own_ne h.pw.own hb (by decide) e
  refine ⟨⟨⟨h.pw.zt.zc.kept hset (fun k o e => hno (e ▸ o)), below_kept h.pw.zt.low hset (fun k e => by rw [e]; exact h.ge), h.pw.zt.ge⟩, h.pw.len, own_kept h.pw.own hset hv, h.pw.inj, h.pw.outs, h.pw.all, h.pw.bal⟩, (h.arr.set x _).congr fun i hi => ?_, h.ge⟩
  unfold cellQ
  by_cases e : i = x
  · simp [e]
  · simp [e]
/-- two of what is out do not meet -/
theorem Pw.disj (h : Pw W w z N m l f t g M v) {i j : Nat} (hi : i < M) (hj : j < M) (hne : i ≠ j) : (g i).1 + 2 ^ (g i).2 ≤ (g j).1 ∨ (g j).1 + 2 ^ (g j).2 ≤ (g i).1 := by
  obtain ⟨c1, h1⟩ := h.outs i hi
  obtain ⟨c2, h2⟩ := h.outs j hj
  have := ot_disj h.zt.zc.inv.std.cov h1 h2 (fun e => hne (h.inj i j hi hj e.symm))
  simpa using this
theorem Pw.fits (h : Pw W w z N m l f t g M v) {i : Nat} (hi : i < M) : (g i).1 + 2 ^ (g i).2 ≤ m ∧ (g i).2 ≤ 10 ∧ m ≤ 1024 := by
  obtain ⟨c1, h1⟩ := h.outs i hi
  obtain ⟨⟨a1, a2, _⟩, e⟩ := ot_some.1 h1
  have hs := h.zt.zc.inv.std.cov.starts a1 (by omega)
  have hf := hs.fits
  have hk := (Pg.ok_iff.1 hs.head).1
  have hl := h.zt.zc.inv.std.valid.2.1
  have hlen := h.len
  rw [e] at hf hk
  simp only [Pg.sz, Int.toNat_natCast] at hf hk
  exact ⟨by omega, by omega, by omega⟩
theorem Pw.fresh (h : Pw W w z N m l f t g M v) {i k : Nat} (hi : i < M) (h1 : (g i).1 ≤ k) (h2 : k < (g i).1 + 2 ^ (g i).2) : prt g i k k = false := by
  unfold prt
  rw [Bool.or_eq_false_iff]
  refine ⟨?_, decide_eq_false (by omega)⟩
  cases hc : cov g i k with
  | false => rfl
  | true =>
    obtain ⟨j, h3, h4, h5⟩ := cov_iff.1 hc
    have := h.disj (i := j) (j := i) (by omega) hi (by omega)
    omega
theorem Pw.look (h : Pw W w z N m l f t g M v) {i k : Nat} (hi : i < M) (h1 : (g i).1 ≤ k) (h2 : k < (g i).1 + 2 ^ (g i).2) : ∃ ca, LookIs t k ((g i).1 : Int) ((g i).2 : Int) ca true := by
  obtain ⟨c1, h3⟩ := h.outs i hi
  refine ⟨c1, .inl ⟨(h.zt.zc.tg k ⟨_, _, _⟩).2 ⟨(g i).1, h3, rfl, by omega, ?_⟩, rfl⟩⟩
  show (k : Int) < (((g i).1 + 2 ^ (((g i).2 : Int)).toNat : Nat) : Int)
  rw [Int.toNat_natCast]
  omega
theorem Pw.lookAll (h : Pw W w z N m l f t g M v) (k : Nat) : ∃ a c d, LookIs t k a c d (cov g M k) := by
  cases ht : t k with
  | some T =>
    obtain ⟨a, c, d⟩ := T
    refine ⟨a, c, d, .inl ⟨ht, ?_⟩⟩
    obtain ⟨q, h1, h2, h3, h4⟩ := (h.zt.zc.tg k _).1 ht
    obtain ⟨i, h5, h6⟩ := h.all q (by rw [h1]; simp)
    obtain ⟨c2, h7⟩ := h.outs i h5
    rw [h6, h1] at h7
    simp only [Option.some.injEq, Pg.mk.injEq, true_and] at h7
    simp only at h4
    rw [h7.1, Int.toNat_natCast] at h4
    exact cov_iff.2 ⟨i, h5, by omega, by omega⟩
  | none =>
    refine ⟨0, 0, 0, .inr ⟨ht, rfl, rfl, rfl, ?_⟩⟩
    cases hc : cov g M k with
    | false => rfl
    | true =>
      obtain ⟨i, h1, h2, h3⟩ := cov_iff.1 hc
      obtain ⟨ca, hl⟩ := h.look h1 h2 h3
      rcases hl with ⟨e, _⟩ | ⟨_, _, _, _, e⟩
      · rw [ht] at e; cases e
      · cases e
theorem Pw.total (h : Pw W w z N m l f t g M v) : freeF l + cnt 3 f + sumTo (fun i => 2 ^ (g i).2) M = m := by
  have h1 := left_of h.zt.zc.inv.std
  have h2 := h.bal
  have h3 := h.len
  omega
end
set_option maxHeartbeats 16000000 in
set_option maxRecDepth 100000 in
theorem walkStands (pages : Int) (u : Value) (l0 : List Qd) (W : World) (hs : ShowD W u l0) :
    Calls Try.prog 4 #[.int .i64 pages, u] W fun e W' => e = .returned (.bool true) ∧ Below W.heap.size W W' := by
  have HS0 := Lib.hid hs
  obtain ⟨r, hr⟩ : ∃ r, bring pages 150 = r := ⟨_, rfl⟩
  have HR0 := Lib.hid hr
  have hrl : r < 150 := by rw [← hr]; exact bring_lt pages 150 (by decide)
  have HM : Hid (1 + bring pages 150 = r + 1) := Lib.hid (by omega)
  obtain ⟨Z, hZ0, hZ⟩ := makeArr
  have HZZ := Lib.hid hZ
  clear hs hr hZ
  go_enter Try.func4, Try.ntmps4
  go_wp2_with fail
  refine (cPlayed pages u l0 (r + 1) HM.out _ HS0.out).mono ?_
  rintro e w1 ⟨z, N, l, f, t, g, M, v, rfl, hM60, hpw⟩
  obtain ⟨va, vc, rfl, hvc1, hvc2⟩ := own_shape hpw.own
  have HP := Lib.hid hpw
  clear hpw
  go_wp2_with fail
  refine (cBringN pages 150 150 rfl (by decide) _).mono ?_
  rintro e w2 ⟨rfl, rfl⟩
  rw [HR0.out]
  have H1 : Hid (Sw W (w2.alloc (.cells Z 40)) z N (r + 1) l f t g M (.slice va M vc) w2.heap.size (fun _ => false)) := Lib.hid ⟨HP.out.below (below_one (Below.refl _ _) _), HZZ.out w2, HP.out.zt.low.size⟩
  obtain ⟨D, hD⟩ : ∃ D, w2.heap.size = D := ⟨_, rfl⟩
  have HT := Lib.hid HP.out.total
  obtain ⟨L, hL⟩ : ∃ L, freeF l + cnt 3 f = L := ⟨_, rfl⟩
  have HL := Lib.hid hL
  clear hL HP
  go_wp2_with fail
  refine (tLeft H1.out.pw.zt L HL.out).mono ?_
  rintro e w3 ⟨rfl, _, hb3⟩
  have H3 := Lib.hid ((H1.out.below hb3).congr (Q := fun x => cov g 0 x) (fun x _ => cov_zero g x))
  rw [hD] at H3
  clear hb3 H1
  go_wp2
  go_loopw [9, 10] (fun s y wr => ∃ i : Nat, i ≤ M ∧ y = .int .i64 i ∧ s = .int .i64 ((L + sumTo (fun i => 2 ^ (g i).2) i : Nat) : Int) ∧ Hid (Sw W wr z N (r + 1) l f t g M (.slice va M vc) D (fun x => cov g i x))) (fun _ y _ => M - (intOf y).toNat)
  case atStart => exact ⟨0, by omega, rfl, rfl, H3⟩
  case round =>
    obtain ⟨i, hi, rfl, rfl, HW⟩ := hrel
    have hsm := sum_mono (fun i => 2 ^ (g i).2) hi
    have htot := HT.out
    rw [HL.out] at htot
    by_cases hlt : i < M
    · obtain ⟨hb, e⟩ : ∃ hb, va = some ⟨hb, 0, none⟩ := by
        rcases HW.out.pw.own.2 with ⟨_, e⟩ | ⟨hb, cap, cur, e, _⟩
        · omega
        · cases e; exact ⟨hb, rfl⟩
      subst e
      obtain ⟨hfit, ho10, hm1024⟩ := HW.out.pw.fits hlt
      have hsm1 := sum_mono (fun i => 2 ^ (g i).2) (show i + 1 ≤ M from hlt)
      have HSS : Hid (sumTo (fun i => 2 ^ (g i).2) (i + 1) = sumTo (fun i => 2 ^ (g i).2) i + 2 ^ (g i).2) := Lib.hid rfl
      rw [HSS.out] at hsm1
      obtain ⟨p, hp⟩ : ∃ p, (g i).1 = p := ⟨_, rfl⟩
      obtain ⟨o, ho⟩ : ∃ o, (g i).2 = o := ⟨_, rfl⟩
      obtain ⟨S, hS⟩ : ∃ S, 2 ^ o = S := ⟨_, rfl⟩
      have hSi := pow_int o S hS
      obtain ⟨c0, c1⟩ := (own_cells2 HW.out.pw.own).1 i hlt
      rw [hp] at hfit c0
      rw [ho] at hfit c1 ho10 hsm1
      rw [hS] at hfit hsm1
      have HP := Lib.hid hp
      have HO := Lib.hid ho
      have HS := Lib.hid hS
      obtain ⟨T, hT⟩ : ∃ T, sumTo (fun i => 2 ^ (g i).2) i = T := ⟨_, rfl⟩
      have HTT := Lib.hid hT
      rw [hT] at hsm1 hsm ⊢
      obtain ⟨A, hA⟩ : ∃ A, L + T = A := ⟨_, rfl⟩
      have HAA := Lib.hid hA
      rw [hA]
      have hA1 : A + S ≤ r + 1 := by omega
      have s0 : IntKind.i64.wrap (S : Int) = (S : Int) := IntWalk.i64_in _ (by omega)
      have s1 : IntKind.i64.wrap ((p : Int) + (S : Int)) = (p : Int) + (S : Int) := IntWalk.i64_in _ (by omega)
      have HW0 := Lib.hid (HW.out.congr (Q := prt g i p) (fun x _ => by
        unfold prt
        rw [HP.out, decide_eq_false (by omega), Bool.or_false]))
      clear hp ho hS hT HW hA htot hsm1 hsm
      go_wp2
      go_loopw [11] (fun y wx => ∃ k : Nat, p ≤ k ∧ k ≤ p + S ∧ y = .int .i64 k ∧ Hid (Sw W wx z N (r + 1) l f t g M (.slice (some ⟨hb, 0, none⟩) M vc) D (prt g i k))) (fun y _ => p + S - (intOf y).toNat)
      case atStart => exact ⟨p, Nat.le_refl _, by omega, rfl, HW0⟩
      case round =>
        obtain ⟨k, hk1, hk2, rfl, HX⟩ := hrel
        have HC := Lib.hid (by
          have := (own_cells2 (HX.out.below (Below.refl _ _).drew).pw.own).1 i hlt
          rw [HP.out, HO.out] at this
          exact this)
        by_cases hkS : k < p + S
        · have hk1024 : k < 1024 := by omega
          have hkr : (k : Int) < 1 + (r : Int) := by omega
          have hkr2 : decide (1 + (r : Int) ≤ (k : Int)) = false := decide_eq_false (by omega)
          have hkS2 : decide ((k : Int) < (p : Int) + (S : Int)) = true := decide_eq_true (by omega)
          have hkS3 : (k : Int) < (p : Int) + (S : Int) := by omega
          have hnr : ¬ (1 + (r : Int) ≤ (k : Int)) := by omega
          obtain ⟨a0, a1⟩ := (HX.out.below (Below.refl _ _).drew).at hk1024
          have hPk := HX.out.pw.fresh (k := k) hlt (by rw [HP.out]; exact hk1) (by rw [HP.out, HO.out, HS.out]; exact hkS)
          rw [hPk, if_neg (by decide)] at a0
          have HA := Lib.hid ((HX.out.below (Below.refl _ _).drew).set k)
          obtain ⟨ca, hlk⟩ := HX.out.pw.look (k := k) hlt (by rw [HP.out]; exact hk1) (by rw [HP.out, HO.out, HS.out]; exact hkS)
          rw [HP.out, HO.out] at hlk
          have HLK := Lib.hid hlk
          clear hPk hlk
          go_wp2
          go_region_held3 (fun W => W.cell? ⟨hb, i * 2, none⟩ = some (.int .i64 (p : Int)) ∧ W.cell? ⟨hb, i * 2 + 1, none⟩ = some (.int .i64 (o : Int)))
            (exact HC.out) (fail)
          go_wp2_with fail
          refine (tTag HA.out.pw.zt (wf_small k (by omega)) HLK.out).mono ?_
          rintro e w6 ⟨rfl, _, hb6⟩
          have H6 := Lib.hid (HA.out.below hb6)
          have H7 := Lib.hid (((H6.out.below (below_one (Below.refl _ _) (.cells #[.int .i64 (p : Int), .int .i64 (o : Int), .int .i64 ca] 44))).below (Below.refl _ _).drew).congr (Q := prt g i (k + 1)) (fun x hx => by
            unfold prt
            by_cases e : x = k
            · subst e
              rw [if_pos rfl, HP.out, decide_eq_true (by omega), Bool.or_true]
            · rw [if_neg e]
              congr 1
              exact decide_eq_decide.2 (by omega)))
          have hblk := heap_new w6 (.cells #[.int .i64 (p : Int), .int .i64 (o : Int), .int .i64 ca] 44)
          obtain ⟨k0, k1, k2⟩ := self3 hblk
          have HC2 := Lib.hid (by
            have := (own_cells2 H7.out.pw.own).1 i hlt
            rw [HP.out, HO.out] at this
            exact And.intro k0 (And.intro k1 this))
          clear hb6 H6 hblk a0 a1 k0 k1 k2
          go_wp2
          go_region_held3 (fun W => W.cell? ⟨w6.heap.size, 0, none⟩ = some (.int .i64 (p : Int)) ∧ W.cell? ⟨w6.heap.size, 1, none⟩ = some (.int .i64 (o : Int)) ∧ W.cell? ⟨hb, i * 2, none⟩ = some (.int .i64 (p : Int)) ∧ W.cell? ⟨hb, i * 2 + 1, none⟩ = some (.int .i64 (o : Int)))
            (exact HC2.out) (fail)
          go_wp2
          go_roundw
          case rel => exact ⟨k + 1, by omega, by omega, by go_num, H7⟩
          case measure => simp [intOf]; omega
        · obtain rfl : k = p + S := by omega
          have hkS2 : decide (((p + S : Nat) : Int) < (p : Int) + (S : Int)) = false := decide_eq_false (by omega)
          have hkS3 : ¬ (((p + S : Nat) : Int) < (p : Int) + (S : Int)) := by omega
          have HX2 := Lib.hid ((HX.out.below (Below.refl _ _).drew).congr (Q := fun x => cov g (i + 1) x) (fun x hx => by
            rw [cov_succ]
            unfold prt
            rw [HP.out, HO.out, HS.out]))
          have HT2 : Hid (sumTo (fun i => 2 ^ (g i).2) (i + 1) = T + S) := Lib.hid (by rw [HSS.out, HTT.out, HO.out, HS.out])
          go_wp2
          go_region_held3 (fun W => W.cell? ⟨hb, i * 2, none⟩ = some (.int .i64 (p : Int)) ∧ W.cell? ⟨hb, i * 2 + 1, none⟩ = some (.int .i64 (o : Int)))
            (exact HC.out) (fail)
          go_wp2
          go_roundw
          case rel => exact ⟨i + 1, by omega, by go_num, by rw [HT2.out, show L + (T + S) = A + S by have := HAA.out; omega]; go_num, HX2⟩
          case measure => simp [intOf]; omega
    · obtain rfl : i = M := by omega
      rw [htot, show ((r + 1 : Nat) : Int) = (r : Int) + 1 from rfl]
      go_wp2
      go_loopw [14] (fun y wx => ∃ k : Nat, k ≤ r + 1 ∧ y = .int .i64 k ∧ Hid (Sw W wx z N (r + 1) l f t g i (.slice va i vc) D (fun x => cov g i x))) (fun y _ => r + 1 - (intOf y).toNat)
      case atStart => exact ⟨0, by omega, rfl, HW⟩
      case round =>
        obtain ⟨k, hk, rfl, HX⟩ := hrel
        by_cases hkr : k < r + 1
        · have hkr3 : (k : Int) < 1 + (r : Int) := by omega
          have hkr2 : decide ((k : Int) < 1 + (r : Int)) = true := decide_eq_true (by omega)
          obtain ⟨a, c, d, hlk⟩ := HX.out.pw.lookAll k
          have HLK := Lib.hid hlk
          clear hlk
          obtain ⟨q, hq⟩ : ∃ q, cov g i k = q := ⟨_, rfl⟩
          rw [hq] at HLK
          have HQ := Lib.hid hq
          clear hq
          cases q
          all_goals
            go_wp2_with fail
            refine (tTag HX.out.pw.zt (wf_small k (by omega)) HLK.out).mono ?_
            rintro e w6 ⟨rfl, _, hb6⟩
            have H6 := Lib.hid ((HX.out.below hb6).below (below_one (Below.refl _ _) (.cells #[.int .i64 a, .int .i64 c, .int .i64 d] 44)))
            obtain ⟨a0, _⟩ := H6.out.at (x := k) (by omega)
            rw [HQ.out] at a0
            simp only [if_true, Bool.false_eq_true, if_false] at a0
            clear hb6
            go_wp2
            go_roundw
            case rel => exact ⟨k + 1, by omega, by go_num, H6⟩
            case measure => simp [intOf]; omega
        · obtain rfl : k = r + 1 := by omega
          have hkr3 : ¬ (((r + 1 : Nat) : Int) < 1 + (r : Int)) := by omega
          have hkr2 : decide (((r + 1 : Nat) : Int) < 1 + (r : Int)) = false := decide_eq_false (by omega)
          have s4 : ((r : Int) + 1 == 1 + (r : Int)) = true := by rw [beq_iff_eq]; omega
          go_wp2_with fail
          refine (works _).mono ?_
          rintro e w7 ⟨rfl, hb7⟩
          have HB := Lib.hid (below_then HX.out.pw.zt.low hb7)
          clear hb7
          go_wp2
          go_ret
          exact ⟨ret_bool (by simp; try omega), HB.out⟩
end Go.Proofs.Ytlljomnpdgmifaa
