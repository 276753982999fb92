/-
  Alloc of the program's buddies.
-/
import Derived.Test.YtlljomnpdgmifaaBMem

set_option linter.unusedVariables false
set_option linter.unusedSimpArgs false
namespace Go.Proofs.Ytlljomnpdgmifaa
open Go Go.RowKit

theorem isF_no {l : List Pg} {i o : Nat} (h : pg l i ≠ fh o) : isF l i o = false := by simp [isF, h]
theorem isF_yes {l : List Pg} {i o : Nat} (hi : i < l.length) (h : pg l i = fh o) : isF l i o = true := by simp [isF, h, hi]
theorem mod_add {a S : Nat} (h : a % S = 0) : (a + S) % S = 0 := by rw [Nat.add_mod_right]; exact h
section
variable {w : World} {B g cap : Nat} {l : List Pg}
set_option maxHeartbeats 4000000 in
set_option maxRecDepth 100000 in
theorem cFittingYes (h : BudAt w 92 B g cap l) (hc : Cov l) (order o p : Nat) (hf : Fit l order o p) :
    Calls Try.prog 89 #[.pointer (some ⟨B, 0, none⟩), .int .i64 order] w fun e w' => e = .returned (.tuple #[.int .i64 p, .bool true]) ∧ Below w.heap.size w w' := by
  have HA := Lib.hid h
  have h2 := h.n2
  have hcap := h.cap
  unfold maxLen at hcap
  obtain ⟨_, _, hpm, _, _⟩ := hc.free_at hf.lt hf.here
  have ho10 := hf.hi
  have hlo := hf.lo
  have HPM := Lib.hid hpm
  have HF := Lib.hid hf
  have hpl := hf.lt
  clear h hc hf hpm
  go_enter Try.func89, Try.ntmps89
  go_wp2
  go_step3
  go_wp2
  go_step3
  go_wp2
  go_loopw [4, 5, 6] (fun a b x wr => a = .int .i64 0 ∧ b = .bool false ∧ ∃ k : Nat, order ≤ k ∧ k ≤ o ∧ x = .int .i64 k ∧ Hid (Below w.heap.size w wr)) (fun a b x _ => o - (intOf x).toNat)
  case atStart => exact ⟨rfl, rfl, order, by omega, hlo, rfl, Lib.hid (Below.refl _ _)⟩
  case round =>
    obtain ⟨rfl, rfl, k, hk1, hk2, rfl, HB⟩ := hrel
    obtain ⟨S, hS⟩ : ∃ S, 2 ^ k = S := ⟨_, rfl⟩
    have hS1 : 1 ≤ S ∧ S ≤ 1024 := by rw [← hS]; exact pow_le k (by omega)
    have HS := Lib.hid hS
    have hk10 : k ≤ 10 := by omega
    have hk10i : (k : Int) ≤ 10 := by omega
    clear hS
    have HR := Lib.hid (HA.out.below HB.out).self
    have hself := HR.out
    go_wp2
    go_loopw [4, 5, 7] (fun a b x wx => a = .int .i64 0 ∧ b = .bool false ∧ ∃ t : Nat, x = .int .i64 t ∧ t ≤ 2047 ∧ (t ≤ l.length + 1023) ∧ (k = o → t ≤ p) ∧ Hid (t % S = 0) ∧ Hid (Below w.heap.size w wx)) (fun a b x _ => 2048 - (intOf x).toNat)
    case atStart => exact ⟨rfl, rfl, 0, by first | rfl | go_num, by omega, by omega, fun _ => by omega, Lib.hid (Nat.zero_mod _), HB⟩
    case round =>
      obtain ⟨rfl, rfl, t, rfl, ht1, ht2, htp, HM, HX⟩ := hrel
      have hself := (HA.out.below HX.out).self
      by_cases hlt : t < l.length
      · by_cases hhit : isF l t k = true
        · have hh := hhit
          simp only [isF, decide_eq_true_eq] at hh
          have hko : k = o := by
            apply Classical.byContradiction
            intro hne
            exact HF.out.less k hk1 (by omega) t hlt hh.2
          have htp2 : t = p := by
            apply Classical.byContradiction
            intro hne
            exact HF.out.first t (by have := htp hko; omega) (by rw [← hko]; exact hh.2)
          have HHIT := Lib.hid hhit
          clear hhit hh htp
          subst hko
          subst htp2
          go_wp2_with fail
          refine (cIsFree (HA.out.below HX.out) _ k true HHIT.out).mono ?_
          rintro e w3 ⟨rfl, h3⟩
          have hb4 := below_then HX.out h3
          go_wp2
          try rw [Exit.noGoto_ret]
          go_ret2
          exact ⟨rfl, hb4⟩
        · have HHIT : Hid (isF l t k = false) := Lib.hid (by simpa using hhit)
          have htp2 : k = o → t + S ≤ p := fun e => by
            have h1 := htp e
            by_cases e2 : t = p
            · exfalso
              exact hhit (by rw [e2, e]; exact isF_yes hpl HF.out.here)
            · apply Nat.le_of_not_lt
              intro h4
              have h5 := HPM.out
              have h6 := HM.out
              rw [← e, HS.out] at h5
              exact no_between h6 h5 (by omega) h4
          have HM2 := Lib.hid (mod_add HM.out)
          clear hhit htp
          go_wp2_with fail
          refine (cIsFree (HA.out.below HX.out) _ k false HHIT.out).mono ?_
          rintro e w3 ⟨rfl, h3⟩
          have HB4 := Lib.hid (below_then HX.out h3)
          go_wp2_with fail
          refine (cBPages k S hk10 HS.out _).mono ?_
          rintro e w4 ⟨rfl, rfl⟩
          go_wp2
          go_roundw
          case rel => exact ⟨rfl, rfl, t + S, by go_num, by omega, by omega, htp2, HM2, HB4⟩
          case measure => simp [intOf]; omega
      · have hko : k < o := by
          apply Classical.byContradiction
          intro hne
          have := htp (by omega)
          omega
        clear htp
        go_wp2
        go_roundw
        case rel => exact ⟨rfl, rfl, k + 1, by omega, by omega, by go_num, HX⟩
        case measure => simp [intOf]; omega
set_option maxHeartbeats 4000000 in
set_option maxRecDepth 100000 in
theorem cFittingNo (h : BudAt w 92 B g cap l) (order : Nat) (ho : order ≤ 10) (hf : NoFit l order) :
    Calls Try.prog 89 #[.pointer (some ⟨B, 0, none⟩), .int .i64 order] w fun e w' => e = .returned (.tuple #[.int .i64 0, .bool false]) ∧ Below w.heap.size w w' := by
  have HA := Lib.hid h
  have h2 := h.n2
  have hcap := h.cap
  unfold maxLen at hcap
  have HF := Lib.hid hf
  clear h hf
  go_enter Try.func89, Try.ntmps89
  go_wp2
  go_step3
  go_wp2
  go_step3
  go_wp2
  go_loopw [4, 5, 6] (fun a b x wr => a = .int .i64 0 ∧ b = .bool false ∧ ∃ k : Nat, order ≤ k ∧ k ≤ 11 ∧ x = .int .i64 k ∧ Hid (Below w.heap.size w wr)) (fun a b x _ => 11 - (intOf x).toNat)
  case atStart => exact ⟨rfl, rfl, order, by omega, by omega, rfl, Lib.hid (Below.refl _ _)⟩
  case round =>
    obtain ⟨rfl, rfl, k, hk1, hk2, rfl, HB⟩ := hrel
    by_cases hk10 : k ≤ 10
    · obtain ⟨S, hS⟩ : ∃ S, 2 ^ k = S := ⟨_, rfl⟩
      have hS1 : 1 ≤ S ∧ S ≤ 1024 := by rw [← hS]; exact pow_le k (by omega)
      have HS := Lib.hid hS
      have hk10i : (k : Int) ≤ 10 := by omega
      clear hS
      have HR := Lib.hid (HA.out.below HB.out).self
      have hself := HR.out
      go_wp2
      go_loopw [4, 5, 7] (fun a b x wx => a = .int .i64 0 ∧ b = .bool false ∧ ∃ t : Nat, x = .int .i64 t ∧ t ≤ 2047 ∧ (t ≤ l.length + 1023) ∧ Hid (Below w.heap.size w wx)) (fun a b x _ => 2048 - (intOf x).toNat)
      case atStart => exact ⟨rfl, rfl, 0, by first | rfl | go_num, by omega, by omega, HB⟩
      case round =>
        obtain ⟨rfl, rfl, t, rfl, ht1, ht2, HX⟩ := hrel
        have hself := (HA.out.below HX.out).self
        by_cases hlt : t < l.length
        · have HHIT : Hid (isF l t k = false) := Lib.hid (isF_no (HF.out k hk1 hk10 t hlt))
          go_wp2_with fail
          refine (cIsFree (HA.out.below HX.out) _ k false HHIT.out).mono ?_
          rintro e w3 ⟨rfl, h3⟩
          have HB4 := Lib.hid (below_then HX.out h3)
          go_wp2_with fail
          refine (cBPages k S hk10 HS.out _).mono ?_
          rintro e w4 ⟨rfl, rfl⟩
          go_wp2
          go_roundw
          case rel => exact ⟨rfl, rfl, t + S, by go_num, by omega, by omega, HB4⟩
          case measure => simp [intOf]; omega
        · go_wp2
          go_roundw
          case rel => exact ⟨rfl, rfl, k + 1, by omega, by omega, by go_num, HX⟩
          case measure => simp [intOf]; omega
    · obtain rfl : k = 11 := by omega
      go_wp2
      try rw [Exit.noGoto_ret]
      go_ret2
      exact ⟨rfl, HB.out⟩
end

set_option maxHeartbeats 1000000 in
theorem cAllocNil (order cache : Int) (w : World) : Calls Try.prog 72 #[.pointer none, .int .i64 order, .int .i64 cache] w fun e w' => e = .returned (.tuple #[.int .i64 0, .int .i64 1]) ∧ w' = w := by
  go_enter Try.func72, Try.ntmps72
  go_wp2_with (go_at_call 61; refine (cIsNoneNil _).mono ?_; rintro e w' ⟨rfl, rfl⟩)
  go_ret2
  exact ⟨rfl, rfl⟩
set_option maxHeartbeats 1000000 in
theorem cAllocZero (B : Nat) (order cache : Int) (w : World) (hc : w.cell? ⟨B, 0, none⟩ = some (.slice none 0 0)) : Calls Try.prog 72 #[.pointer (some ⟨B, 0, none⟩), .int .i64 order, .int .i64 cache] w fun e w' => e = .returned (.tuple #[.int .i64 0, .int .i64 1]) ∧ w' = w := by
  go_enter Try.func72, Try.ntmps72
  go_wp2_with (go_at_call 61; refine (cIsNoneZero B _ hc).mono ?_; rintro e w' ⟨rfl, rfl⟩)
  go_ret2
  exact ⟨rfl, rfl⟩
def ArgOk (order cache : Int) : Prop := 0 ≤ order ∧ order ≤ 10 ∧ 0 ≤ cache ∧ cache ≤ 8
section
variable {w : World} {B g cap : Nat} {l : List Pg}
set_option maxHeartbeats 2000000 in
theorem cAllocBad (h : BudAt w 92 B g cap l) (order cache : Int) (hbad : ¬ ArgOk order cache) :
    Calls Try.prog 72 #[.pointer (some ⟨B, 0, none⟩), .int .i64 order, .int .i64 cache] w fun e w' => e = .returned (.tuple #[.int .i64 0, .int .i64 2]) ∧ w' = w := by
  unfold ArgOk at hbad
  by_cases h1 : order < 0
  · clear hbad
    go_enter Try.func72, Try.ntmps72
    go_wp2_with (go_at_call 61; refine (cIsNone h).mono ?_; rintro e w' ⟨rfl, rfl⟩)
    go_ret2
    exact ⟨rfl, rfl⟩
  · by_cases h2 : 10 < order
    · clear hbad
      go_enter Try.func72, Try.ntmps72
      go_wp2_with (go_at_call 61; refine (cIsNone h).mono ?_; rintro e w' ⟨rfl, rfl⟩)
      go_ret2
      exact ⟨rfl, rfl⟩
    · by_cases h3 : cache < 0
      · clear hbad
        go_enter Try.func72, Try.ntmps72
        go_wp2_with (go_at_call 61; refine (cIsNone h).mono ?_; rintro e w' ⟨rfl, rfl⟩)
        go_ret2
        exact ⟨rfl, rfl⟩
      · have h4 : 8 < cache := by omega
        clear hbad
        go_enter Try.func72, Try.ntmps72
        go_wp2_with (go_at_call 61; refine (cIsNone h).mono ?_; rintro e w' ⟨rfl, rfl⟩)
        go_ret2
        exact ⟨rfl, rfl⟩
set_option maxHeartbeats 2000000 in
theorem cAllocNo (h : BudAt w 92 B g cap l) (order : Nat) (cache : Int) (h1 : order ≤ 10) (h2 : 0 ≤ cache) (h3 : cache ≤ 8) (hno : NoFit l order) :
    Calls Try.prog 72 #[.pointer (some ⟨B, 0, none⟩), .int .i64 order, .int .i64 cache] w fun e w' => e = .returned (.tuple #[.int .i64 0, .int .i64 7]) ∧ Below w.heap.size w w' := by
  have HN := Lib.hid hno
  clear hno
  go_enter Try.func72, Try.ntmps72
  go_wp2_with fail
  refine (cIsNone h).mono ?_
  rintro e w' ⟨rfl, rfl⟩
  go_wp2_with fail
  refine (cFittingNo h order h1 HN.out).mono ?_
  rintro e w1 ⟨rfl, hb⟩
  go_wp2
  go_ret2
  exact ⟨rfl, hb⟩
theorem keys7 {w W : World} {B g i : Nat} {u k o c : Value} (h : w.cell? ⟨B, 0, none⟩ = some u ∧ w.cell? ⟨g, i * 3, none⟩ = some k ∧ w.cell? ⟨g, i * 3 + 1, none⟩ = some o ∧ w.cell? ⟨g, i * 3 + 2, none⟩ = some c ∧ w.frozen? ⟨g, i * 3, none⟩ = false ∧ w.frozen? ⟨g, i * 3 + 1, none⟩ = false ∧ w.frozen? ⟨g, i * 3 + 2, none⟩ = false) (hb : Below w.heap.size w W) :
    W.cell? ⟨B, 0, none⟩ = some u ∧ W.cell? ⟨g, i * 3, none⟩ = some k ∧ W.cell? ⟨g, i * 3 + 1, none⟩ = some o ∧ W.cell? ⟨g, i * 3 + 2, none⟩ = some c ∧ W.frozen? ⟨g, i * 3, none⟩ = false ∧ W.frozen? ⟨g, i * 3 + 1, none⟩ = false ∧ W.frozen? ⟨g, i * 3 + 2, none⟩ = false ∧ Below w.heap.size w W := by
  obtain ⟨h0, h1, h2, h3, f1, f2, f3⟩ := h
  exact ⟨cell_keep hb h0, cell_keep hb h1, cell_keep hb h2, cell_keep hb h3, (hb.frozen (World.block_lt_of_cell? w _ h1)).trans f1, (hb.frozen (World.block_lt_of_cell? w _ h2)).trans f2, (hb.frozen (World.block_lt_of_cell? w _ h3)).trans f3, hb⟩
theorem cell_set3 {w : World} {B g : Nat} {x : Value} (hne : B ≠ g) {a b c : Nat} {u v z : Value} (h : w.cell? ⟨B, 0, none⟩ = some x) : (((w.setCell ⟨g, a, none⟩ u).setCell ⟨g, b, none⟩ v).setCell ⟨g, c, none⟩ z).cell? ⟨B, 0, none⟩ = some x := by
  have hlt := World.block_lt_of_cell? w _ h
  obtain ⟨o, ho⟩ : ∃ o, w.heap[B]? = some o := ⟨_, Array.getElem?_eq_getElem hlt⟩
  have := other_set3 ho hne a b c u v z
  exact (World.cell?_of_block (w := w) (this.trans ho.symm)).trans h
/-- a Buddy under way: its box as it was, its table as a function -/
structure Way (w0 w : World) (T : TypeId) (B g cap n : Nat) (f : Nat → Pg) : Prop where
  box : w.heap[B]? = some (.cells #[.slice (some ⟨g, 0, none⟩) n cap] T (0, 0))
  tab : TabIs w g n f
  ne : B ≠ g
  kept : Kept (· = g) w0 w
theorem Way.below {w0 w w' : World} {T : TypeId} {B g cap n : Nat} {f : Nat → Pg} (h : Way w0 w T B g cap n f) (hb : Below w.heap.size w w') : Way w0 w' T B g cap n f :=
  ⟨keep_block h.box hb, h.tab.below hb, h.ne, h.kept.trans (Kept.ofBelow hb)⟩
theorem Way.set {w0 w : World} {T : TypeId} {B g cap n : Nat} {f : Nat → Pg} (h : Way w0 w T B g cap n f) (k : Nat) (p : Pg) : Way w0 (((w.setCell ⟨g, k * 3, none⟩ (.int .i64 p.kind)).setCell ⟨g, k * 3 + 1, none⟩ (.int .i64 p.order)).setCell ⟨g, k * 3 + 2, none⟩ (.int .i64 p.cache)) T B g cap n (upd f k p) :=
  ⟨other_set3 h.box h.ne _ _ _ _ _ _, h.tab.set k p, h.ne, kept_set3 h.kept rfl _ _ _ _ _ _⟩
theorem Way.congr {w0 w : World} {T : TypeId} {B g cap n : Nat} {f f' : Nat → Pg} (h : Way w0 w T B g cap n f) (e : ∀ i, i < n → f i = f' i) : Way w0 w T B g cap n f' := ⟨h.box, h.tab.congr e, h.ne, h.kept⟩
theorem Way.facts {w0 w : World} {T : TypeId} {B g cap n : Nat} {f : Nat → Pg} (h : Way w0 w T B g cap n f) {i : Nat} (hi : i < n) : w.cell? ⟨B, 0, none⟩ = some (.slice (some ⟨g, 0, none⟩) n cap) ∧ w.cell? ⟨g, i * 3, none⟩ = some (.int .i64 (f i).kind) ∧ w.cell? ⟨g, i * 3 + 1, none⟩ = some (.int .i64 (f i).order) ∧ w.cell? ⟨g, i * 3 + 2, none⟩ = some (.int .i64 (f i).cache) ∧ w.frozen? ⟨g, i * 3, none⟩ = false ∧ w.frozen? ⟨g, i * 3 + 1, none⟩ = false ∧ w.frozen? ⟨g, i * 3 + 2, none⟩ = false := by
  obtain ⟨c0, c1, c2⟩ := h.tab.cells hi
  exact ⟨self_cell h.box 0 _ rfl, c0, c1, c2, h.tab.frozen _, h.tab.frozen _, h.tab.frozen _⟩
theorem BudAt.way {T : TypeId} (h : BudAt w T B g cap l) : Way w w T B g cap l.length (pg l) := ⟨h.box, h.tab, h.ne, Kept.refl _ _⟩
/-- and back -/
theorem BudAt.came {w' : World} {T : TypeId} {m : List Pg} {f : Nat → Pg} (h : BudAt w T B g cap l) (hw : Way w w' T B g cap l.length f) (hm : m.length = l.length) (e : ∀ i, i < l.length → f i = pg m i) : BudAt w' T B g cap m :=
  ⟨by rw [hm]; exact hw.box, by rw [hm]; exact hw.tab.congr e, by rw [hm]; exact h.cap, h.ne, by rw [hm]; exact h.n1, by rw [hm]; exact h.n2⟩
set_option maxHeartbeats 4000000 in
set_option maxRecDepth 100000 in
theorem cAllocYes (h : BudAt w 92 B g cap l) (hc : Cov l) (order o p : Nat) (c : Int) (h2 : 0 ≤ c) (h3 : c ≤ 8) (hf : Fit l order o p) :
    Calls Try.prog 72 #[.pointer (some ⟨B, 0, none⟩), .int .i64 order, .int .i64 c] w fun e w' => e = .returned (.tuple #[.int .i64 p, .int .i64 0]) ∧ BudAt w' 92 B g cap (allocL l order o p c) ∧ Kept (· = g) w w' := by
  have HA := Lib.hid h
  have hn2 := h.n2
  have hcap := h.cap
  unfold maxLen at hcap
  have ho10 := hf.hi
  have hlo := hf.lo
  have hpl := hf.lt
  have h1 : order ≤ 10 := by omega
  have HF := Lib.hid hf
  have HC := Lib.hid hc
  have HW := Lib.hid h.way
  obtain ⟨_, _, hm, hfit, _⟩ := hc.free_at hf.lt hf.here
  have HM := Lib.hid hm
  have HFT := Lib.hid hfit
  have HH := Lib.hid hf.here
  clear hf hm hfit
  go_enter Try.func72, Try.ntmps72
  go_wp2_with fail
  refine (cIsNone h).mono ?_
  rintro e w' ⟨rfl, rfl⟩
  go_wp2_with fail
  refine (cFittingYes h hc order o p HF.out).mono ?_
  rintro e w1 ⟨rfl, hb⟩
  have HW1 := Lib.hid (HW.out.below hb)
  obtain ⟨c0, c1, c2, c3, _, _, _⟩ := HW1.out.facts hpl
  rw [HH.out] at c2
  simp only [fh] at c2
  clear h hc hb HW
  go_wp2
  go_loopw [9] (fun x wr => ∃ m : Nat, ∃ y : Int, order ≤ m ∧ m ≤ o ∧ x = .int .i64 y ∧ y = (m : Int) - 1 ∧ Hid (Way w' wr 92 B g cap l.length (spl (pg l) p o (o - m)))) (fun x _ => (intOf x + 1).toNat)
  case atStart => exact ⟨o, _, hlo, Nat.le_refl _, rfl, rfl, by rw [Nat.sub_self]; exact HW1⟩
  case round =>
    obtain ⟨m, y, hm1, hm2, rfl, hy, HWr⟩ := hrel
    by_cases hlt : order < m
    · obtain ⟨k, rfl⟩ : ∃ k, m = k + 1 := ⟨m - 1, by omega⟩
      obtain rfl : y = (k : Int) := by omega
      have hko : k + 1 ≤ o := hm2
      have hk10 : k ≤ 10 := by omega
      have hp1 := pow_two_pos k
      have hup := pow_up k
      have hle := Nat.pow_le_pow_right (n := 2) (by decide) hko
      have hmk : p % 2 ^ k = 0 := dvd_of_pow HM.out (by omega)
      have hmk1 : p % 2 ^ (k + 1) = 0 := dvd_of_pow HM.out hko
      have hbud : bud p k = p + 2 ^ k := if_pos hmk1
      have hfit := HFT.out
      obtain ⟨T, hT⟩ : ∃ T, bud p k = T := ⟨_, rfl⟩
      have HT := Lib.hid hT
      have hTl : T < l.length := by omega
      have HK := Lib.hid hmk
      have HE : Hid (upd (spl (pg l) p o (o - (k + 1))) T (fh k) = spl (pg l) p o (o - k)) := Lib.hid (by
        rw [show o - k = (o - (k + 1)) + 1 by omega]
        conv => rhs; unfold spl
        rw [show o - (o - (k + 1) + 1) = k by omega, ← hbud, hT])
      have hbox := HWr.out.facts hTl
      have HB := Lib.hid hbox
      have hne := HWr.out.ne
      clear hle hmk hmk1 hbud hT hbox hy hup hp1 hfit
      go_wp2
      go_region_held3 (fun W => W.cell? ⟨B, 0, none⟩ = some (.slice (some ⟨g, 0, none⟩) l.length cap))
        (first | exact cell_keep (Below.drew (Below.refl _ _)) HB.out.1 | exact cell_keep (show Below wr.heap.size wr _ from by assumption) HB.out.1 | exact cell_set3 hne (cell_keep (show Below wr.heap.size wr _ from by assumption) HB.out.1))
        (first
          | (go_at_call 63; refine (cBuddyOf p k _ T hk10 rfl (by omega) HK.out HT.out _).mono ?_; rintro e w3 ⟨rfl, rfl⟩)
          | (go_at_call 65; refine (cFreeHead _ _).mono ?_; rintro e w3 ⟨rfl, h3⟩; have hb4 : Below wr.heap.size wr w3 := below_then (Below.drew (Below.refl _ _)) h3; obtain ⟨q0, q1, q2, q3, q4, q5, q6, _⟩ := keys7 HB.out hb4))
      have hb5 : Below wr.heap.size wr _ := hb4
      go_wp2
      go_roundw
      case rel => exact ⟨k, _, by omega, by omega, rfl, by omega, Lib.hid (by rw [← HE.out]; exact (HWr.out.below hb5).set T (fh k))⟩
      case measure => simp [intOf]
    · obtain rfl : m = order := by omega
      have hylt : y < (m : Int) := by omega
      obtain ⟨c0, c1, c2, c3, f1, f2, f3⟩ := HWr.out.facts hpl
      have HWN := Lib.hid (HWr.out.set p ⟨2, (m : Int), c⟩)
      clear HWr
      go_wp2
      go_ret2
      exact ⟨rfl, (HA.out.came HWN.out (allocL_length _ _ _ _ _) (fun i hi => (alloc_at _ _ _ _ _ hi).symm)), HWN.out.kept⟩
end
end Go.Proofs.Ytlljomnpdgmifaa
