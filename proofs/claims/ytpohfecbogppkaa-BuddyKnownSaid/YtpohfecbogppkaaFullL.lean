/-
  BuddyFull: Alloc answers ErrFull just if no free block of that order, or a greater one, is there.
-/
import Derived.Test.YtpohfecbogppkaaStands
set_option linter.unusedVariables false
set_option linter.unusedSimpArgs false
namespace Go.Proofs.Ytpohfecbogppkaa
open Go Go.RowKit

/-- there is a free block of an order from a on, less than b -/
def Some_ (L : List Pg) (a b : Nat) : Prop := ∃ k, a ≤ k ∧ k < b ∧ ∃ i, i < L.length ∧ pg L i = fh k
def QIs (q : Bool) (L : List Pg) (a b : Nat) : Prop := q = true ↔ Some_ L a b
theorem some_start (L : List Pg) (a : Nat) : ¬ Some_ L a a := fun ⟨k, h1, h2, _⟩ => by omega
theorem some_yes {L : List Pg} {a b : Nat} (h : Some_ L a b) : Some_ L a (b + 1) := by
  obtain ⟨k, h1, h2, h3⟩ := h
  exact ⟨k, h1, by omega, h3⟩
theorem frs_pos {L : List Pg} {k : Nat} : 0 < (frs L (k : Int)).length ↔ ∃ i, i < L.length ∧ pg L i = fh k := by
  rw [Nat.pos_iff_ne_zero, ne_eq, ids_nil]
  constructor
  · intro h
    apply Classical.byContradiction
    intro h2
    apply h
    intro i hi
    exact decide_eq_false (fun e => h2 ⟨i, hi, e⟩)
  · rintro ⟨i, hi, e⟩ h
    have := h i hi
    simp only [frq] at this
    rw [decide_eq_true (show pg L i = ⟨0, (k : Int), 0⟩ from e)] at this
    cases this
theorem some_at {L : List Pg} {a b : Nat} (hab : a ≤ b) (h : 0 < (frs L (b : Int)).length) : Some_ L a (b + 1) := ⟨b, hab, by omega, frs_pos.1 h⟩
theorem some_no {L : List Pg} {a b : Nat} (h : ¬ Some_ L a b) (h2 : ¬ 0 < (frs L (b : Int)).length) : ¬ Some_ L a (b + 1) := by
  rintro ⟨k, h3, h4, h5⟩
  by_cases e : k = b
  · rw [e] at h5; exact h2 (frs_pos.2 h5)
  · exact h ⟨k, h3, by omega, h5⟩
theorem some_fit {L : List Pg} {a o p : Nat} (h : Fit L a o p) : Some_ L a 11 := ⟨o, h.lo, by have := h.hi; omega, p, h.lt, h.here⟩
theorem some_nofit {L : List Pg} {a : Nat} (h : NoFit L a) : ¬ Some_ L a 11 := fun ⟨k, h1, h2, i, h3, h4⟩ => h k h1 (by omega) i h3 h4
theorem keys3 {w W : World} {p1 p2 p3 : Addr} {u1 u2 u3 : Value} (h : w.cell? p1 = some u1 ∧ w.cell? p2 = some u2 ∧ w.cell? p3 = some u3) (hb : Below w.heap.size w W) : W.cell? p1 = some u1 ∧ W.cell? p2 = some u2 ∧ W.cell? p3 = some u3 ∧ Below w.heap.size w W :=
  ⟨cell_keep hb h.1, cell_keep hb h.2.1, cell_keep hb h.2.2, hb⟩
theorem bring_same (p n : Nat) (h : p < n) : bring (p : Int) n = p := by
  unfold bring
  rw [Int.emod_eq_of_lt (by omega) (by omega)]
  simp
theorem eq_out {x : Pg} {o : Int} {q : Bool} (h : decide (x = ⟨2, o, 2⟩) = q) (w : World) : (Op.equalIn 10000 51 (.agg #[.int .i64 x.kind, .int .i64 x.order, .int .i64 x.cache]) (.agg #[.int .i64 2, .int .i64 o, .int .i64 2])).run Try.prog w = .ok q w := eqinIs (c := x) (d := (⟨2, o, 2⟩ : Pg)) h
section
variable {L : List Pg} {order o p : Nat} {c : Int}
theorem fit_freeLess (hf : Fit L order o p) (h : Std L) (h2 : 0 ≤ c) (h3 : c ≤ 8) : freeF (allocL L order o p c) + 2 ^ order = freeF L := by
  have hs := hf.std h h2 h3
  have h4 : freeF L + used L = L.length := by rw [free_yes h.valid]; exact free_used h.cov
  have h5 : freeF (allocL L order o p c) + used (allocL L order o p c) = L.length := by
    rw [free_yes hs.valid]
    have := free_used hs.cov
    rwa [allocL_length] at this ⊢
  have h6 := hf.used (c := c) h.cov
  omega
end
set_option maxHeartbeats 16000000 in
set_option maxRecDepth 100000 in
theorem walkFull (pages : Int) (u : Value) (l : List Pg) (order : Int) (W : World) (hs : ShowP W u l) :
    Calls Try.prog 6 #[.int .i64 pages, u, .int .i64 order] W fun e w' => e = .returned (.bool true) ∧ Below W.heap.size W w' := by
  obtain ⟨n, hn⟩ : ∃ n, 1 + bring pages 300 = n := ⟨_, rfl⟩
  have HN := Lib.hid hn
  obtain ⟨o, ho⟩ : ∃ o, bring order 11 = o := ⟨_, rfl⟩
  have HO := Lib.hid ho
  have hol : o ≤ 10 := by have := bring_lt order 11 (by decide); omega
  clear hn ho
  go_enter Try.func6, Try.ntmps6
  go_wp2_with fail
  refine (cPlayed pages _ l n HN.out _ hs).mono ?_
  rintro e w1 ⟨B, g, L, f, N, v, rfl, hpl⟩
  clear hs
  have HP := Lib.hid hpl
  have hL := hpl.a.n2
  have HSTD := Lib.hid hpl.std
  clear hpl
  go_wp2_with fail
  refine (cBringLit order 11 _ rfl o HO.out _ (by decide) (by decide)).mono ?_
  rintro e w2 ⟨rfl, rfl⟩
  go_wp2
  go_loopw [9, 10] (fun x y wr => ∃ (k : Nat) (q : Bool), o ≤ k ∧ k ≤ 11 ∧ x = .bool q ∧ y = .int .i64 k ∧ Hid (QIs q L o k) ∧ Hid (Below w2.heap.size w2 wr)) (fun _ y _ => 11 - (intOf y).toNat)
  case atStart => exact ⟨o, false, by omega, by omega, rfl, rfl, Lib.hid ⟨fun h => (by cases h), fun h => absurd h (some_start L o)⟩, Lib.hid (Below.refl _ _)⟩
  case round =>
    obtain ⟨k, q, hk1, hk2, rfl, rfl, HQ, HB⟩ := hrel
    by_cases hk : k ≤ 10
    · have hki : (k : Int) ≤ 10 := by omega
      cases q
      · have HN0 : Hid (¬ Some_ L o k) := Lib.hid (fun h => by have := HQ.out.2 h; cases this)
        go_wp2_with fail
        refine (cFrees (HP.out.a.below HB.out) k).mono ?_
        rintro e w3 ⟨v3, rfl, hv, hb⟩
        obtain ⟨vo, vc, rfl, hvc, _⟩ := hv.form
        have HB3 := Lib.hid (below_then HB.out hb)
        have hvl := ids_le (frq L k) L.length
        obtain ⟨Q, hQ⟩ : ∃ Q, (frs L (k : Int)).length = Q := ⟨_, rfl⟩
        have HQQ := Lib.hid hQ
        rw [hQ] at hvc hvl ⊢
        clear hv hb hQ
        by_cases hQ0 : 0 < Q
        · have HS : Hid (QIs true L o (k + 1)) := Lib.hid ⟨fun _ => some_at hk1 (by rw [HQQ.out]; exact hQ0), fun _ => rfl⟩
          go_wp2
          go_roundw
          case rel => exact ⟨k + 1, true, by omega, by omega, rfl, by go_num, HS, HB3⟩
          case measure => simp [intOf]; omega
        · have HS : Hid (QIs false L o (k + 1)) := Lib.hid ⟨fun h => (by cases h), fun h => absurd h (some_no HN0.out (by rw [HQQ.out]; exact hQ0))⟩
          go_wp2
          go_roundw
          case rel => exact ⟨k + 1, false, by omega, by omega, rfl, by go_num, HS, HB3⟩
          case measure => simp [intOf]; omega
      · have HS : Hid (QIs true L o (k + 1)) := Lib.hid ⟨fun _ => some_yes (HQ.out.1 rfl), fun _ => rfl⟩
        go_wp2
        go_roundw
        case rel => exact ⟨k + 1, true, by omega, by omega, rfl, by go_num, HS, HB⟩
        case measure => simp [intOf]; omega
    · obtain rfl : k = 11 := by omega
      obtain ⟨F, hF⟩ : ∃ F, freeF L = F := ⟨_, rfl⟩
      have HF := Lib.hid hF
      have HP1 := Lib.hid (HP.out.below HB.out)
      clear hF
      obtain ⟨S, hS⟩ : ∃ S, 2 ^ o = S := ⟨_, rfl⟩
      have hS1 : 1 ≤ S ∧ S ≤ 1024 := by rw [← hS]; exact pow_le o hol
      have hSi : (2 : Int) ^ o = (S : Int) := pow_int o S hS
      have HSS := Lib.hid hS
      clear hS
      rcases fit_or L o with hno | ⟨o2, p, hf⟩
      · have hqf : q = false := by
          cases q
          · rfl
          · exact absurd (HQ.out.1 rfl) (some_nofit hno)
        subst hqf
        have HAL : Hid (AllocIs L o 2 0 7 L) := Lib.hid (.full o 2 hol (by decide) (by decide) hno)
        clear hno
        go_wp2_with fail
        refine (cPagesOf HP1.out.a).mono ?_
        rintro e w3 ⟨g2, cp, rfl, hg2, hcp, ht, hb3⟩
        have HP3 := Lib.hid (HP1.out.below hb3)
        clear ht hb3 HP1
        go_wp2_with fail
        refine (cLeft HP3.out.a F HF.out).mono ?_
        rintro e w4 ⟨rfl, hb4⟩
        have HP4 := Lib.hid (HP3.out.below hb4)
        clear hb4 HP3
        go_wp2_with fail
        refine (cAlloc HP4.out.a HP4.out.std HAL.out).mono ?_
        rintro e w5 ⟨rfl, ha5, hk5⟩
        have HP5 := Lib.hid (HP4.out.same ha5 hk5)
        clear ha5 hk5 HP4
        go_wp2_with fail
        refine (cLeft HP5.out.a F HF.out).mono ?_
        rintro e w6 ⟨rfl, hb6⟩
        have HB6 := Lib.hid (below_then HP5.out.low hb6)
        clear hb6 HP5
        go_wp2_with fail
        refine (works _).mono ?_
        rintro e w7 ⟨rfl, hb7⟩
        have HB7 := Lib.hid (below_then HB6.out hb7)
        clear hb7
        go_wp2
        go_ret
        exact ⟨rfl, HB7.out⟩
      · have hqt : q = true := HQ.out.2 (some_fit hf)
        subst hqt
        have HFI := Lib.hid hf
        have HAL : Hid (AllocIs L o 2 p 0 (allocL L o o2 p 2)) := Lib.hid (.ok o o2 p 2 hol (by decide) (by decide) hf)
        obtain ⟨F2, hF2⟩ : ∃ F2, freeF (allocL L o o2 p 2) = F2 := ⟨_, rfl⟩
        have HF2 := Lib.hid hF2
        have hsum : F2 + S = F := by
          have := fit_freeLess (c := 2) hf HSTD.out (by decide) (by decide)
          rw [hF2, HF.out, HSS.out] at this
          exact this
        have hFS : ¬ F < S := by omega
        have hFn : F ≤ 1024 := by
          have h1 := HF.out
          have h2 := freeTo_le L L.length
          rw [free_yes HSTD.out.valid] at h1
          omega
        obtain ⟨hst, hz, hmod, hfit, _⟩ := HSTD.out.cov.free_at hf.lt hf.here
        have hpS : p + S ≤ L.length := by
          have := Nat.pow_le_pow_right (n := 2) (by decide) hf.lo
          have := HSS.out
          omega
        have HBEG : Hid (∀ i, p ≤ i → i < p + S → headF L i = ((p : Int), 0)) := Lib.hid (fun i h1 h2 => by
          rw [head_in HSTD.out.valid (by omega), beg_in hst h1 (by
            have := Nat.pow_le_pow_right (n := 2) (by decide) hf.lo
            have := HSS.out
            omega)])
        have hpl := hf.lt
        have HATP := Lib.hid (hf.at_p (c := 2))
        have HHERE := Lib.hid hf.here
        clear hf hF2 hst hz hmod hfit
        go_wp2_with fail
        refine (cPagesOf HP1.out.a).mono ?_
        rintro e w3 ⟨g2, cp, rfl, hg2, hcp, ht, hb3⟩
        have HP3 := Lib.hid (HP1.out.below hb3)
        have HT3 := Lib.hid ht
        have hg2g : g2 ≠ g := by have := HP1.out.a.lt; omega
        clear ht hb3 HP1
        go_wp2_with fail
        refine (cLeft HP3.out.a F HF.out).mono ?_
        rintro e w4 ⟨rfl, hb4⟩
        have HP4 := Lib.hid (HP3.out.below hb4)
        have HT4 := Lib.hid (HT3.out.below hb4)
        clear hb4 HP3 HT3
        go_wp2_with fail
        refine (cAlloc HP4.out.a HP4.out.std HAL.out).mono ?_
        rintro e w5 ⟨rfl, ha5, hk5⟩
        have HA5 := Lib.hid ha5
        have HT5 := Lib.hid (HT4.out.of_block (hk5.block g2 HT4.out.lt hg2g))
        have HB5 := Lib.hid (below_kept HP4.out.low hk5 (fun k e => by have := HP4.out.ge; omega))
        clear ha5 hk5 HP4 HT4
        go_wp2_with fail
        refine (cPagesOf HA5.out).mono ?_
        rintro e w6 ⟨g3, cp3, rfl, hg3, hcp3, ht3, hb6⟩
        rw [allocL_length] at hcp3 ht3 ⊢
        have HA6 := Lib.hid (HA5.out.below hb6)
        have HT6 := Lib.hid (HT5.out.below hb6)
        have HB6 := Lib.hid (below_then HB5.out hb6)
        obtain ⟨t0, t1, t2⟩ := ht3.cells hpl
        have heq := fun w => eq_out (x := pg (allocL L o o2 p 2) p) (o := (o : Int)) (decide_eq_true HATP.out) w
        have hgd := guardP
        generalize pg (allocL L o o2 p 2) p = x at t0 t1 t2 heq
        have HC := Lib.hid (show w6.cell? ⟨g3, p * 3, none⟩ = some (.int .i64 x.kind) ∧ w6.cell? ⟨g3, p * 3 + 1, none⟩ = some (.int .i64 x.order) ∧ w6.cell? ⟨g3, p * 3 + 2, none⟩ = some (.int .i64 x.cache) from ⟨t0, t1, t2⟩)
        clear ht3 hb6 HA5 HT5 HB5 t0 t1 t2
        unfold maxLen at hcp hcp3
        have s1 : IntKind.i64.wrap ((p : Int) + (S : Int)) = (p : Int) + (S : Int) := IntWalk.i64_in _ (by omega)
        have s2 : IntKind.i64.wrap ((F : Int) - (S : Int)) = (F : Int) - (S : Int) := IntWalk.i64_in _ (by omega)
        have s3 : decide ((L.length : Int) < (p : Int) + (S : Int)) = false := decide_eq_false (by omega)
        have s4 : ((F2 : Int) != (F : Int) - (S : Int)) = false := by rw [bne_eq_false_iff_eq]; omega
        have s0 : IntKind.i64.wrap (S : Int) = (S : Int) := IntWalk.i64_in _ (by omega)
        have s5 : decide ((p : Int) < 0) = false := decide_eq_false (by omega)
        go_wp2
        go_region_held3 (fun W => W.cell? ⟨g3, p * 3, none⟩ = some (.int .i64 x.kind) ∧ W.cell? ⟨g3, p * 3 + 1, none⟩ = some (.int .i64 x.order) ∧ W.cell? ⟨g3, p * 3 + 2, none⟩ = some (.int .i64 x.cache) ∧ Below w6.heap.size w6 W)
          (first | exact keys3 HC.out (by assumption) | exact keys3 HC.out (Below.drew (Below.refl _ _)))
          (first
            | (go_at_call 22; refine (cLeft (HA6.out.below (show _ ∧ _ ∧ _ ∧ Below w6.heap.size w6 _ from by assumption).2.2.2) F2 HF2.out).mono ?_; rintro e w8 ⟨rfl, h8⟩; have hb8 : Below w6.heap.size w6 w8 := below_then (show _ ∧ _ ∧ _ ∧ Below w6.heap.size w6 _ from by assumption).2.2.2 h8))
        have HB8 : Hid (Below w6.heap.size w6 _) := Lib.hid hb8
        clear s0 s1 s2 s3 s4 s5 heq hgd
        go_wp2
        go_loopw [16] (fun x wx => ∃ i : Nat, p ≤ i ∧ i ≤ p + S ∧ x = .int .i64 i ∧ Hid (Below w6.heap.size w6 wx)) (fun x _ => p + S - (intOf x).toNat)
        case atStart => exact ⟨p, Nat.le_refl _, by omega, rfl, HB8⟩
        case round =>
          obtain ⟨i, hi1, hi2, rfl, HBi⟩ := hrel
          by_cases hiS : i < p + S
          · have HTi := Lib.hid (HT6.out.below HBi.out)
            go_wp2_with fail
            refine (cHead _ L i p 0 (HBEG.out i hi1 hiS) _ (HTi.out.shows (by unfold maxLen; omega))).mono ?_
            rintro e w9 ⟨rfl, hb9⟩
            have HBj := Lib.hid (below_then HBi.out hb9)
            have HTj := HTi.out.below hb9
            obtain ⟨k0, _, _⟩ := HTj.cells hpl
            rw [HHERE.out] at k0
            simp only [fh] at k0
            clear hb9 HTj
            go_wp2_with fail
            refine (cBringLit p L.length _ rfl p (bring_same p L.length hpl) _ (by omega) (by omega)).mono ?_
            rintro e w10 ⟨rfl, rfl⟩
            go_wp2
            go_roundw
            case rel => exact ⟨i + 1, by omega, by omega, by go_num, HBj⟩
            case measure => simp [intOf]; omega
          · obtain rfl : i = p + S := by omega
            go_wp2_with fail
            refine (works _).mono ?_
            rintro e w9 ⟨rfl, hb9⟩
            have HB9 := Lib.hid (below_then (below_then HB6.out HBi.out) hb9)
            clear hb9
            go_wp2
            go_ret
            exact ⟨rfl, HB9.out⟩
end Go.Proofs.Ytpohfecbogppkaa
