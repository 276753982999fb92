/-
  The document's buddies: free, set, Left, Alloc, Free.
-/
import Derived.Test.YtlljomnpdgmifaaBNew

set_option linter.unusedVariables false
set_option linter.unusedSimpArgs false
namespace Go.Proofs.Ytlljomnpdgmifaa
open Go Go.RowKit

theorem Way.drew {w0 w : World} {T : TypeId} {B g cap n : Nat} {f : Nat → Pg} (h : Way w0 w T B g cap n f) : Way w0 w.drew T B g cap n f := ⟨h.box, h.tab, h.ne, h.kept.drew⟩
/-- a block is written: its head, and inside pages -/
def setB (f : Nat → Pg) (p : Nat) (hd : Pg) (i : Nat) : Pg := if i = p then hd else if p < i ∧ i < p + hd.sz then pin else f i
def setP (f : Nat → Pg) (p : Nat) (hd : Pg) (m : Nat) (i : Nat) : Pg := if i = p then hd else if p < i ∧ i < m then pin else f i
theorem setP_start (f : Nat → Pg) (p : Nat) (hd : Pg) (i : Nat) : upd f p hd i = setP f p hd (p + 1) i := by
  unfold setP upd
  split
  · rfl
  · rw [if_neg (by omega)]
theorem setP_step (f : Nat → Pg) (p : Nat) (hd : Pg) (m : Nat) (hm : p < m) (i : Nat) : upd (setP f p hd m) m pin i = setP f p hd (m + 1) i := by
  unfold setP upd
  dsimp only
  by_cases h1 : i = m
  · rw [if_pos h1, if_neg (by omega), if_pos (by omega)]
  · rw [if_neg h1]
    by_cases h2 : i = p
    · rw [if_pos h2, if_pos h2]
    · rw [if_neg h2, if_neg h2]
      by_cases h3 : p < i ∧ i < m
      · rw [if_pos h3, if_pos (by omega)]
      · rw [if_neg h3, if_neg (by omega)]
theorem setB_list (l : List Pg) (p : Nat) (hd : Pg) (i : Nat) (hi : i < l.length) : setB (pg l) p hd i = pg (setF l p hd) i := by
  rw [setF_at l p hd i hi]
  rfl
section
variable {w : World} {B g cap : Nat} {l : List Pg}
set_option maxHeartbeats 1000000 in
theorem rFreeAt (h : BudAt w 77 B g cap l) (i : Nat) (o : Int) (q : Bool) (hi : i < l.length) (hq : decide (pg l i = ⟨0, o, 0⟩) = q) :
    Calls Try.prog 76 #[.pointer (some ⟨B, 0, none⟩), .int .i64 i, .int .i64 o] w fun e w' => e = .returned (.bool q) ∧ w' = w := by
  have hc := h.self
  obtain ⟨t0, t1, t2⟩ := h.tab.cells hi
  have h2 := h.n2
  have hcap := h.cap
  have heq := fun w => eq_free hq w
  have hgd := guardP
  generalize pg l i = x at t0 t1 t2 heq
  have hdec : decide (i < l.length) = true := decide_eq_true hi
  clear h hq
  unfold maxLen at hcap
  go_enter Try.func76, Try.ntmps76
  go_wp2
  go_ret
  exact ⟨rfl, rfl⟩
set_option maxHeartbeats 1000000 in
theorem rFreeOut (h : BudAt w 77 B g cap l) (i : Nat) (o : Int) (hi : l.length ≤ i) :
    Calls Try.prog 76 #[.pointer (some ⟨B, 0, none⟩), .int .i64 i, .int .i64 o] w fun e w' => e = .returned (.bool false) ∧ w' = w := by
  have hc := h.self
  have h2 := h.n2
  have hdec : decide (i < l.length) = false := decide_eq_false (by omega)
  clear h
  go_enter Try.func76, Try.ntmps76
  go_wp2
  go_ret
  exact ⟨rfl, rfl⟩
theorem rFree0 (h : BudAt w 77 B g cap l) (i o : Nat) (q : Bool) (hq : isF l i o = q) :
    Calls Try.prog 76 #[.pointer (some ⟨B, 0, none⟩), .int .i64 i, .int .i64 o] w fun e w' => e = .returned (.bool q) ∧ w' = w := by
  by_cases hi : i < l.length
  · exact rFreeAt h i o q hi (by rw [← hq]; unfold isF fh; simp [hi])
  · obtain rfl : q = false := by rw [← hq]; unfold isF; simp [hi]
    exact rFreeOut h i o (by omega)
set_option maxHeartbeats 4000000 in
set_option maxRecDepth 100000 in
theorem rSet {w0 : World} {n : Nat} {f : Nat → Pg} (h : Way w0 w 77 B g cap n f) (hcap : n ≤ cap ∧ cap ≤ maxLen) (hn : n ≤ 1024) (p o S : Nat) (k c : Int) (ho : o ≤ 10) (hS : 2 ^ o = S) (hfit : p + S ≤ n) :
    Calls Try.prog 77 #[.pointer (some ⟨B, 0, none⟩), .int .i64 p, .agg #[.int .i64 k, .int .i64 o, .int .i64 c]] w fun e w' => e = .returned (.tuple #[]) ∧ Way w0 w' 77 B g cap n (setB f p ⟨k, o, c⟩) := by
  have hS1 : 1 ≤ S ∧ S ≤ 1024 := by rw [← hS]; exact pow_le o ho
  have hSi : (2 : Int) ^ o = (S : Int) := pow_int o S hS
  have hsz : (⟨k, (o : Int), c⟩ : Pg).sz = S := by simp only [Pg.sz, Int.toNat_natCast]; exact hS
  have HSZ := Lib.hid hsz
  have HH0 := Lib.hid (heap_new w (.cells #[.int .i64 k, .int .i64 o, .int .i64 c] 99))
  have HW0 := Lib.hid (h.below (below_one (Below.refl _ w) (.cells #[.int .i64 k, .int .i64 o, .int .i64 c] 99)))
  have hgl := h.tab.lt
  have hBl := lt_of_block h.box
  have hgne : w.heap.size ≠ g := by omega
  have hBne : B ≠ g := h.ne
  have HSI := Lib.hid hSi
  have hpn : p < n := by omega
  unfold maxLen at hcap
  clear h hS hsz hSi
  go_enter Try.func77, Try.ntmps77
  go_wp2
  obtain ⟨K, hK⟩ : ∃ K, w.heap.size = K := ⟨_, rfl⟩
  rw [hK] at HH0 hgne ⊢
  obtain ⟨w1, hw1⟩ : ∃ w1, w.alloc (.cells #[.int .i64 k, .int .i64 o, .int .i64 c] 99) = w1 := ⟨_, rfl⟩
  rw [hw1] at HH0 HW0 ⊢
  clear hw1 hK hgl hBl
  obtain ⟨q0, q1, q2, q3, q4, q5, q6⟩ := HW0.out.facts hpn
  obtain ⟨g0, g1, g2⟩ := self3 HH0.out
  have HN := Lib.hid ((HW0.out.set p ⟨k, o, c⟩).congr (fun i _ => setP_start f p ⟨k, o, c⟩ i))
  have HH1 := Lib.hid (other_set3 HH0.out hgne (p * 3) (p * 3 + 1) (p * 3 + 2) (.int .i64 k) (.int .i64 o) (.int .i64 c))
  go_region
  go_wp2
  clear q0 q1 q2 q3 q4 q5 q6 g0 g1 g2
  go_loopw [6] (fun x wr => ∃ m : Nat, 1 ≤ m ∧ m ≤ S ∧ x = .int .i64 m ∧ Hid (Way w0 wr 77 B g cap n (setP f p ⟨k, o, c⟩ (p + m))) ∧ Hid (wr.heap[K]? = some (.cells #[.int .i64 k, .int .i64 o, .int .i64 c] 99 (0, 0)))) (fun x _ => S - (intOf x).toNat)
  case atStart => exact ⟨1, Nat.le_refl _, hS1.1, by first | rfl | go_num, Lib.hid HN.out.drew, HH1⟩
  case round =>
    obtain ⟨m, hm1, hm2, rfl, HWr, HHr⟩ := hrel
    obtain ⟨g0, g1, g2⟩ := self3 HHr.out
    have hSi := HSI.out
    by_cases hlt : m < S
    · obtain ⟨q0, q1, q2, q3, q4, q5, q6⟩ := HWr.out.facts (i := p + m) (by omega)
      have hpm : p + m < n := by omega
      have HN2 := Lib.hid ((HWr.out.set (p + m) pin).congr (fun i _ => setP_step f p ⟨k, o, c⟩ (p + m) (by omega) i))
      have HH2 := Lib.hid (other_set3 HHr.out hgne ((p + m) * 3) ((p + m) * 3 + 1) ((p + m) * 3 + 2) (.int .i64 1) (.int .i64 0) (.int .i64 0))
      go_wp2
      go_roundw
      case rel => exact ⟨m + 1, by omega, by omega, by go_num, HN2, HH2⟩
      case measure => simp [intOf]; omega
    · obtain rfl : m = S := by omega
      have HE := Lib.hid (HWr.out.congr (f' := setB f p ⟨k, o, c⟩) (fun i hi => by unfold setB setP; rw [HSZ.out]))
      go_wp2
      go_end0
      exact ⟨rfl, HE.out⟩
set_option maxHeartbeats 1000000 in
theorem rLeft (h : BudAt w 77 B g cap l) (c : Nat) (hc : freeF l = c) :
    Calls Try.prog 58 #[.pointer (some ⟨B, 0, none⟩)] w fun e w' => e = .returned (.int .i64 c) ∧ Below w.heap.size w w' := by
  have hself := h.self
  have HC := Lib.hid hc
  clear hc
  go_enter Try.func58, Try.ntmps58
  go_wp2_with fail
  refine (rFree _ l c HC.out _ h.shows).mono ?_
  rintro e w1 ⟨rfl, hb⟩
  go_wp2
  go_ret
  exact ⟨rfl, hb⟩
end

section
variable {w : World} {B g cap : Nat} {l : List Pg}
set_option maxHeartbeats 2000000 in
theorem rAllocBad (order cache : Int) (hbad : ¬ ArgOk order cache) (w : World) :
    Calls Try.prog 51 #[.pointer (some ⟨B, 0, none⟩), .int .i64 order, .int .i64 cache] w fun e w' => e = .returned (.tuple #[.int .i64 0, .int .i64 2]) ∧ w' = w := by
  unfold ArgOk at hbad
  by_cases h1 : order < 0
  · clear hbad
    go_enter Try.func51, Try.ntmps51
    go_wp2
    go_ret2
    exact ⟨rfl, rfl⟩
  · by_cases h2 : 10 < order
    · clear hbad
      go_enter Try.func51, Try.ntmps51
      go_wp2
      go_ret2
      exact ⟨rfl, rfl⟩
    · by_cases h3 : cache < 0
      · clear hbad
        go_enter Try.func51, Try.ntmps51
        go_wp2
        go_ret2
        exact ⟨rfl, rfl⟩
      · have h4 : 8 < cache := by omega
        clear hbad
        go_enter Try.func51, Try.ntmps51
        go_wp2
        go_ret2
        exact ⟨rfl, rfl⟩
set_option maxHeartbeats 4000000 in
set_option maxRecDepth 100000 in
theorem rAllocNo (h : BudAt w 77 B g cap l) (order : Nat) (cache : Int) (h1 : order ≤ 10) (h2 : 0 ≤ cache) (h3 : cache ≤ 8) (hno : NoFit l order) :
    Calls Try.prog 51 #[.pointer (some ⟨B, 0, none⟩), .int .i64 order, .int .i64 cache] w fun e w' => e = .returned (.tuple #[.int .i64 0, .int .i64 7]) ∧ Below w.heap.size w w' := by
  have HN := Lib.hid hno
  have HA := Lib.hid h
  have hself := h.self
  have hn2 := h.n2
  clear hno h
  go_enter Try.func51, Try.ntmps51
  go_wp2
  go_loop [8] (fun x => ∃ k : Nat, order ≤ k ∧ k ≤ 11 ∧ x = .int .i64 k) (fun x => 11 - (intOf x).toNat)
  case atStart => exact ⟨order, Nat.le_refl _, by omega, rfl⟩
  case round =>
    obtain ⟨k, hk1, hk2, rfl⟩ := hrel
    by_cases hk10 : k ≤ 10
    · have hk10i : (k : Int) ≤ 10 := by omega
      go_wp2
      go_loop [8, 9] (fun x y => x = .int .i64 k ∧ ∃ t : Nat, y = .int .i64 t ∧ t ≤ l.length) (fun _ y => l.length - (intOf y).toNat)
      case atStart => exact ⟨rfl, 0, by first | rfl | go_num, by omega⟩
      case round =>
        obtain ⟨rfl, t, rfl, ht⟩ := hrel
        by_cases hlt : t < l.length
        · have HHIT : Hid (isF l t k = false) := Lib.hid (isF_no (HN.out k hk1 hk10 t hlt))
          go_wp2_with fail
          refine (rFree0 HA.out t k false HHIT.out).mono ?_
          rintro e w3 ⟨rfl, rfl⟩
          go_wp2
          go_round
          case rel => exact ⟨rfl, t + 1, by go_num, by omega⟩
          case measure => simp [intOf]; omega
        · obtain rfl : t = l.length := by omega
          go_wp2
          go_round
          case rel => exact ⟨k + 1, by omega, by omega, by go_num⟩
          case measure => simp [intOf]; omega
    · obtain rfl : k = 11 := by omega
      go_wp2
      go_ret2
      exact ⟨rfl, Below.refl _ _⟩
theorem setB_spl {l : List Pg} {p o m : Nat} (hins : ∀ j, p < j → j < p + 2 ^ o → pg l j = pin) (hm : m + 1 ≤ o) (i : Nat) :
    setB (spl (pg l) p o (o - (m + 1))) (p + 2 ^ m) (fh m) i = spl (pg l) p o (o - m) i := by
  have hup := pow_up m
  have hp := pow_two_pos m
  have hle := Nat.pow_le_pow_right (n := 2) (by decide) hm
  rw [show o - m = (o - (m + 1)) + 1 by omega]
  conv => rhs; unfold spl
  rw [show o - (o - (m + 1) + 1) = m by omega]
  unfold setB upd
  rw [fh_sz]
  by_cases h1 : i = p + 2 ^ m
  · rw [if_pos h1, if_pos h1]
  · rw [if_neg h1, if_neg h1]
    by_cases h2 : p + 2 ^ m < i ∧ i < p + 2 ^ m + 2 ^ m
    · rw [if_pos h2, spl_in _ _ _ _ (by omega) (by rw [show o - (o - (m + 1)) = m + 1 by omega]; omega)]
      exact (hins i (by omega) (by omega)).symm
    · rw [if_neg h2]
theorem setB_alloc {l : List Pg} {p o order : Nat} {c : Int} (hins : ∀ j, p < j → j < p + 2 ^ o → pg l j = pin) (hm : order ≤ o) (i : Nat) (hi : i < l.length) :
    setB (spl (pg l) p o (o - order)) p ⟨2, (order : Int), c⟩ i = pg (allocL l order o p c) i := by
  have hle := Nat.pow_le_pow_right (n := 2) (by decide) hm
  have hz : (⟨2, (order : Int), c⟩ : Pg).sz = 2 ^ order := by simp [Pg.sz]
  rw [alloc_at _ _ _ _ _ hi]
  unfold setB upd
  rw [hz]
  by_cases h1 : i = p
  · rw [if_pos h1, if_pos h1]
  · rw [if_neg h1, if_neg h1]
    by_cases h2 : p < i ∧ i < p + 2 ^ order
    · rw [if_pos h2, spl_in _ _ _ _ (by omega) (by rw [show o - (o - order) = order by omega]; omega)]
      exact (hins i (by omega) (by omega)).symm
    · rw [if_neg h2]
set_option maxHeartbeats 8000000 in
set_option maxRecDepth 100000 in
theorem rAllocYes (h : BudAt w 77 B g cap l) (hc : Cov l) (order o p : Nat) (c : Int) (h2 : 0 ≤ c) (h3 : c ≤ 8) (hf : Fit l order o p) :
    Calls Try.prog 51 #[.pointer (some ⟨B, 0, none⟩), .int .i64 order, .int .i64 c] w fun e w' => e = .returned (.tuple #[.int .i64 p, .int .i64 0]) ∧ BudAt w' 77 B g cap (allocL l order o p c) ∧ Kept (· = g) w w' := by
  have HA := Lib.hid h
  have hself := h.self
  have hn2 := h.n2
  have ho10 := hf.hi
  have hlo := hf.lo
  have hpl := hf.lt
  have h1 : order ≤ 10 := by omega
  have HF := Lib.hid hf
  have HW := Lib.hid h.way
  have HCAP := Lib.hid h.cap
  obtain ⟨hs, hz, hm, hfit, _⟩ := hc.free_at hf.lt hf.here
  have HFT := Lib.hid hfit
  have HIN : Hid (∀ j, p < j → j < p + 2 ^ o → pg l j = pin) := Lib.hid (fun j h1 h2 => hs.ins j h1 (by rw [hz]; exact h2))
  clear hf hm hfit hs hz h hc
  go_enter Try.func51, Try.ntmps51
  go_wp2
  go_loop [8] (fun x => ∃ k : Nat, order ≤ k ∧ k ≤ o ∧ x = .int .i64 k) (fun x => o - (intOf x).toNat)
  case atStart => exact ⟨order, Nat.le_refl _, hlo, rfl⟩
  case round =>
    obtain ⟨k, hk1, hk2, rfl⟩ := hrel
    have hk10 : k ≤ 10 := by omega
    have hk10i : (k : Int) ≤ 10 := by omega
    go_wp2
    go_loop [8, 9] (fun x y => x = .int .i64 k ∧ ∃ t : Nat, y = .int .i64 t ∧ t ≤ l.length ∧ (k = o → t ≤ p)) (fun _ y => l.length - (intOf y).toNat)
    case atStart => exact ⟨rfl, 0, by first | rfl | go_num, by omega, fun _ => by omega⟩
    case round =>
      obtain ⟨rfl, t, rfl, ht, htp⟩ := hrel
      by_cases hlt : t < l.length
      · by_cases hhit : isF l t k = true
        · have hh := hhit
          simp only [isF, decide_eq_true_eq] at hh
          have hko : k = o := by
            apply Classical.byContradiction
            intro hne
            exact HF.out.less k hk1 (by omega) t hlt hh.2
          have htp2 : t = p := by
            apply Classical.byContradiction
            intro hne
            exact HF.out.first t (by have := htp hko; omega) (by rw [← hko]; exact hh.2)
          have HHIT := Lib.hid hhit
          clear hhit hh htp
          subst hko
          subst htp2
          go_wp2_with fail
          refine (rFree0 HA.out _ k true HHIT.out).mono ?_
          rintro e w3 ⟨rfl, rfl⟩
          go_wp2
          go_loopw [8] (fun x wr => ∃ m : Nat, order ≤ m ∧ m ≤ k ∧ x = .int .i64 m ∧ Hid (Way w3 wr 77 B g cap l.length (spl (pg l) t k (k - m)))) (fun x _ => (intOf x).toNat)
          case atStart => exact ⟨k, hk1, Nat.le_refl _, rfl, by rw [Nat.sub_self]; exact HW⟩
          case round =>
            obtain ⟨m, hm1, hm2, rfl, HWr⟩ := hrel
            by_cases hmo : order < m
            · obtain ⟨j, rfl⟩ : ∃ j, m = j + 1 := ⟨m - 1, by omega⟩
              obtain ⟨S, hS⟩ : ∃ S, 2 ^ j = S := ⟨_, rfl⟩
              have hS1 : 1 ≤ S ∧ S ≤ 1024 := by rw [← hS]; exact pow_le j (by omega)
              have hSi : (2 : Int) ^ j = (S : Int) := pow_int j S hS
              have hle := Nat.pow_le_pow_right (n := 2) (by decide) hm2
              have hup := pow_up j
              have hfit := HFT.out
              have hTl : t + S + S ≤ l.length := by omega
              have HSS := Lib.hid hS
              have HE := Lib.hid (setB_spl (p := t) (o := k) (m := j) HIN.out hm2)
              clear hS hle hup hfit
              go_wp2_with fail
              refine (rSet HWr.out HCAP.out hn2 (t + S) j S 0 0 (by omega) HSS.out hTl).mono ?_
              rintro e w4 ⟨rfl, hw4⟩
              have HW4 : Hid (Way w3 w4 77 B g cap l.length (spl (pg l) t k (k - j))) := Lib.hid (hw4.congr (fun i _ => by rw [← HE.out i, HSS.out]; rfl))
              clear hw4
              go_wp2
              go_roundw
              case rel => exact ⟨j, by omega, by omega, by go_num, HW4⟩
              case measure => simp [intOf]
            · obtain rfl : m = order := by omega
              obtain ⟨S, hS⟩ : ∃ S, 2 ^ m = S := ⟨_, rfl⟩
              have HSS := Lib.hid hS
              have hTl : t + S ≤ l.length := by
                have hle := Nat.pow_le_pow_right (n := 2) (by decide) hm2
                have hfit := HFT.out
                omega
              have HE := Lib.hid (fun i hi => setB_alloc (l := l) (p := t) (o := k) (order := m) (c := c) HIN.out hm2 i hi)
              clear hS
              go_wp2_with fail
              refine (rSet HWr.out HCAP.out hn2 t m S 2 c h1 HSS.out hTl).mono ?_
              rintro e w4 ⟨rfl, hw4⟩
              have HR := Lib.hid (HA.out.came hw4 (allocL_length _ _ _ _ _) HE.out)
              have HK := Lib.hid hw4.kept
              clear hw4
              go_wp2
              go_ret2
              exact ⟨rfl, HR.out, HK.out⟩
        · have HHIT : Hid (isF l t k = false) := Lib.hid (by simpa using hhit)
          have htp2 : k = o → t + 1 ≤ p := fun e => by
            have h1 := htp e
            by_cases e2 : t = p
            · exfalso
              exact hhit (by rw [e2, e]; exact isF_yes hpl HF.out.here)
            · omega
          clear hhit htp
          go_wp2_with fail
          refine (rFree0 HA.out t k false HHIT.out).mono ?_
          rintro e w3 ⟨rfl, rfl⟩
          go_wp2
          go_round
          case rel => exact ⟨rfl, t + 1, by go_num, by omega, htp2⟩
          case measure => simp [intOf]; omega
      · have hko : k < o := by
          apply Classical.byContradiction
          intro hne
          have := htp (by omega)
          omega
        clear htp
        go_wp2
        go_round
        case rel => exact ⟨k + 1, by omega, by omega, by go_num⟩
        case measure => simp [intOf]; omega
end

theorem emod_two (q S : Nat) : (q : Int) % (2 * (S : Int)) = ((q % (2 * S) : Nat) : Int) := by rw [Int.natCast_emod, Int.natCast_mul]; rfl
section
variable {w : World} {B g cap : Nat} {l : List Pg}
set_option maxHeartbeats 2000000 in
set_option maxRecDepth 100000 in
theorem rFreeBad (h : BudAt w 77 B g cap l) (page : Int) (hbad : ¬ OutAt l page) :
    Calls Try.prog 56 #[.pointer (some ⟨B, 0, none⟩), .int .i64 page] w fun e w' => e = .returned (.int .i64 60) ∧ w' = w := by
  have hc := h.self
  have h2 := h.n2
  have hcap := h.cap
  unfold maxLen at hcap
  unfold OutAt at hbad
  by_cases h1 : page < 0
  · clear hbad
    go_enter Try.func56, Try.ntmps56
    go_wp2
    go_ret
    exact ⟨rfl, rfl⟩
  · obtain ⟨p, rfl⟩ : ∃ p : Nat, page = (p : Int) := ⟨page.toNat, by omega⟩
    by_cases h3 : l.length ≤ p
    · clear hbad
      go_enter Try.func56, Try.ntmps56
      go_wp2
      go_ret
      exact ⟨rfl, rfl⟩
    · have hp : p < l.length := by omega
      obtain ⟨t0, t1, t2⟩ := h.tab.cells hp
      have hk : (pg l p).kind ≠ 2 := fun e => hbad ⟨by omega, by omega, by rw [Int.toNat_natCast]; exact e⟩
      generalize (pg l p).kind = k at t0 hk
      have hk2 : (k != 2) = true := by simpa using hk
      clear hbad hk
      go_enter Try.func56, Try.ntmps56
      go_wp2
      go_ret
      exact ⟨rfl, rfl⟩
set_option maxHeartbeats 8000000 in
set_option maxRecDepth 100000 in
theorem rFreeYes (h : BudAt w 77 B g cap l) (hc : Cov l) (p : Nat) (hp : p < l.length) (hk : (pg l p).kind = 2) :
    Calls Try.prog 56 #[.pointer (some ⟨B, 0, none⟩), .int .i64 p] w fun e w' => e = .returned (.int .i64 0) ∧ BudAt w' 77 B g cap (freeL l p) ∧ Kept (· = g) w w' := by
  have HA := Lib.hid h
  have HC := Lib.hid hc
  have HW := Lib.hid h.way
  have HCAP := Lib.hid h.cap
  have hn2 := h.n2
  have hself := h.self
  obtain ⟨r0, hr0, hmi⟩ := MI.start hc hp hk
  have HMI := Lib.hid hmi
  obtain ⟨M, hM⟩ : ∃ M, mrg l (10 - r0) p r0 = M := ⟨_, rfl⟩
  have HM := Lib.hid hM
  have HRES : Hid (freeL l p = setF l M.1 (fh M.2)) := Lib.hid (by unfold freeL; rw [hr0, Int.toNat_natCast, hM])
  obtain ⟨t0, t1, t2⟩ := h.tab.cells hp
  rw [hk] at t0
  rw [hr0] at t1
  have hr10 := hmi.le
  have hnl : ¬ l.length ≤ p := by omega
  clear h hc hk hr0 hmi hM
  go_enter Try.func56, Try.ntmps56
  go_wp2
  go_loop [1, 5] (fun a b => ∃ q r : Nat, a = .int .i64 q ∧ b = .int .i64 r ∧ r ≤ 10 ∧ Hid (mrg l (10 - r) q r = M) ∧ Hid (MI l p q r)) (fun _ b => 10 - (intOf b).toNat)
  case atStart => exact ⟨p, r0, rfl, rfl, hr10, HM, HMI⟩
  case round =>
    obtain ⟨q, r, rfl, rfl, hr, HMr, HI⟩ := hrel
    obtain ⟨S, hS⟩ : ∃ S, 2 ^ r = S := ⟨_, rfl⟩
    have HSS := Lib.hid hS
    have hS1 : 1 ≤ S ∧ S ≤ 1024 := by rw [← hS]; exact pow_le r hr
    have hSi : (2 : Int) ^ r = (S : Int) := pow_int r S hS
    have hq : q + S ≤ l.length := by rw [← hS]; exact HI.out.fits
    have hql : q < l.length := by omega
    clear hS
    by_cases hlt : r < 10
    · obtain ⟨b, hb⟩ : ∃ b, bud q r = b := ⟨_, rfl⟩
      have HBB := Lib.hid hb
      have hcs := bud_cases HI.out.mult
      have hup := pow_up r
      rw [hb, hup, HSS.out] at hcs
      clear hb hup
      by_cases hF : isF l b r = true
      · have hF2 := hF
        simp only [isF, decide_eq_true_eq] at hF2
        have HST := Lib.hid (HI.out.step HC.out hlt (by rw [HBB.out]; exact hF)).1
        have HMN : Hid (mrg l (10 - (r + 1)) (min q b) (r + 1) = M) := Lib.hid (by rw [← HMr.out, mrg_step hlt (by rw [HBB.out]; exact hF), HBB.out])
        have HF := Lib.hid hF
        clear hF hF2
        rcases hcs with ⟨h1, h2⟩ | ⟨x, h1, h2, h3, h4⟩
        · subst h2
          have h1i : (q : Int) % (2 * (S : Int)) = 0 := by rw [emod_two, h1]; rfl
          have HST2 : Hid (MI l p q (r + 1)) := Lib.hid (by have := HST.out; rw [HBB.out, Nat.min_eq_left (by omega)] at this; exact this)
          have HMN2 : Hid (mrg l (10 - (r + 1)) q (r + 1) = M) := Lib.hid (by have := HMN.out; rw [Nat.min_eq_left (by omega)] at this; exact this)
          clear HST HMN h1
          go_wp2_with fail
          refine (rFree0 HA.out (q + S) r true HF.out).mono ?_
          rintro e w3 ⟨rfl, rfl⟩
          go_wp2
          go_round
          case rel => exact ⟨q, r + 1, by first | rfl | go_num, by go_num, by omega, HMN2, HST2⟩
          case measure => simp [intOf]; omega
        · subst h3
          subst h2
          have h4i : ((((b : Int) + (S : Int)) % (2 * (S : Int))) != 0) = true := by rw [← Int.natCast_add, bne_iff_ne, emod_two]; omega
          have HST2 : Hid (MI l p b (r + 1)) := Lib.hid (by have := HST.out; rw [HBB.out, Nat.min_eq_right (by omega)] at this; exact this)
          have HMN2 : Hid (mrg l (10 - (r + 1)) b (r + 1) = M) := Lib.hid (by have := HMN.out; rw [Nat.min_eq_right (by omega)] at this; exact this)
          clear HST HMN h1 h4
          go_wp2_with fail
          refine (rFree0 HA.out b r true HF.out).mono ?_
          rintro e w3 ⟨rfl, rfl⟩
          go_wp2
          go_round
          case rel => exact ⟨b, r + 1, by first | rfl | go_num, by go_num, by omega, HMN2, HST2⟩
          case measure => simp [intOf]; omega
      · have hF0 : isF l b r = false := by simpa using hF
        have HF := Lib.hid hF0
        have HMN : Hid (M = (q, r)) := Lib.hid (by rw [← HMr.out]; exact mrg_stop (.inr (by rw [HBB.out]; exact hF0)) hr)
        clear hF hF0
        rcases hcs with ⟨h1, h2⟩ | ⟨x, h1, h2, h3, h4⟩
        · subst h2
          have h1i : (q : Int) % (2 * (S : Int)) = 0 := by rw [emod_two, h1]; rfl
          clear h1
          go_wp2_with fail
          refine (rFree0 HA.out (q + S) r false HF.out).mono ?_
          rintro e w3 ⟨rfl, rfl⟩
          go_wp2_with fail
          refine (rSet HW.out HCAP.out hn2 q r S 0 0 hr HSS.out hq).mono ?_
          rintro e w5 ⟨rfl, hw5⟩
          have HR := Lib.hid (HA.out.came hw5 (freeL_length _ _) (fun i hi => by rw [HRES.out, HMN.out]; exact setB_list l q (fh r) i hi))
          have HK := Lib.hid hw5.kept
          clear hw5
          go_wp2
          go_ret
          exact ⟨rfl, HR.out, HK.out⟩
        · subst h3
          subst h2
          have h4i : ((((b : Int) + (S : Int)) % (2 * (S : Int))) != 0) = true := by rw [← Int.natCast_add, bne_iff_ne, emod_two]; omega
          clear h1 h4
          go_wp2_with fail
          refine (rFree0 HA.out b r false HF.out).mono ?_
          rintro e w3 ⟨rfl, rfl⟩
          go_wp2_with fail
          refine (rSet HW.out HCAP.out hn2 _ r S 0 0 hr HSS.out hq).mono ?_
          rintro e w5 ⟨rfl, hw5⟩
          have HR := Lib.hid (HA.out.came hw5 (freeL_length _ _) (fun i hi => by rw [HRES.out, HMN.out]; exact setB_list l _ (fh r) i hi))
          have HK := Lib.hid hw5.kept
          clear hw5
          go_wp2
          go_ret
          exact ⟨rfl, HR.out, HK.out⟩
    · obtain rfl : r = 10 := by omega
      have HMN : Hid (M = (q, 10)) := Lib.hid (by rw [← HMr.out]; rfl)
      go_wp2_with fail
      refine (rSet HW.out HCAP.out hn2 q 10 S 0 0 hr HSS.out hq).mono ?_
      rintro e w5 ⟨rfl, hw5⟩
      have HR := Lib.hid (HA.out.came hw5 (freeL_length _ _) (fun i hi => by rw [HRES.out, HMN.out]; exact setB_list l q (fh 10) i hi))
      have HK := Lib.hid hw5.kept
      clear hw5
      go_wp2
      go_ret
      exact ⟨rfl, HR.out, HK.out⟩
end
end Go.Proofs.Ytlljomnpdgmifaa
