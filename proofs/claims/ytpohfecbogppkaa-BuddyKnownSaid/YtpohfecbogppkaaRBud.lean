/-
  The document's answer: free, set, Frees, Left.
-/
import Derived.Test.YtpohfecbogppkaaBNew
set_option linter.unusedVariables false
set_option linter.unusedSimpArgs false
namespace Go.Proofs.Ytpohfecbogppkaa
open Go Go.RowKit

theorem Way.drew {w0 w : World} {T : TypeId} {B g cap n : Nat} {f : Nat → Pg} (h : Way w0 w T B g cap n f) : Way w0 w.drew T B g cap n f := ⟨h.box, h.tab, h.ne, h.kept.drew⟩
/-- a block is written: its head, and inside pages -/
def setB (f : Nat → Pg) (p : Nat) (hd : Pg) (i : Nat) : Pg := if i = p then hd else if p < i ∧ i < p + hd.sz then pin else f i
def setP (f : Nat → Pg) (p : Nat) (hd : Pg) (m : Nat) (i : Nat) : Pg := if i = p then hd else if p < i ∧ i < m then pin else f i
theorem setP_start (f : Nat → Pg) (p : Nat) (hd : Pg) (i : Nat) : upd f p hd i = setP f p hd (p + 1) i := by
  unfold setP upd
  split
  · rfl
  · rw [if_neg (by omega)]
theorem setP_step (f : Nat → Pg) (p : Nat) (hd : Pg) (m : Nat) (hm : p < m) (i : Nat) : upd (setP f p hd m) m pin i = setP f p hd (m + 1) i := by
  unfold setP upd
  dsimp only
  by_cases h1 : i = m
  · rw [if_pos h1, if_neg (by omega), if_pos (by omega)]
  · rw [if_neg h1]
    by_cases h2 : i = p
    · rw [if_pos h2, if_pos h2]
    · rw [if_neg h2, if_neg h2]
      by_cases h3 : p < i ∧ i < m
      · rw [if_pos h3, if_pos (by omega)]
      · rw [if_neg h3, if_neg (by omega)]
theorem setB_list (l : List Pg) (p : Nat) (hd : Pg) (i : Nat) (hi : i < l.length) : setB (pg l) p hd i = pg (setF l p hd) i := by
  rw [setF_at l p hd i hi]
  rfl
section
variable {w : World} {B g cap : Nat} {l : List Pg}
set_option maxHeartbeats 1000000 in
theorem rFreeAt (h : BudAt w 39 B g cap l) (i : Nat) (o : Int) (q : Bool) (hi : i < l.length) (hq : decide (pg l i = ⟨0, o, 0⟩) = q) :
    Calls Try.prog 32 #[.pointer (some ⟨B, 0, none⟩), .int .i64 i, .int .i64 o] w fun e w' => e = .returned (.bool q) ∧ w' = w := by
  have hc := h.self
  obtain ⟨t0, t1, t2⟩ := h.tab.cells hi
  have h2 := h.n2
  have hcap := h.cap
  have heq := fun w => eq_free hq w
  have hgd := guardP
  generalize pg l i = x at t0 t1 t2 heq
  have hdec : decide (i < l.length) = true := decide_eq_true hi
  clear h hq
  unfold maxLen at hcap
  go_enter Try.func32, Try.ntmps32
  go_wp2
  go_ret
  exact ⟨rfl, rfl⟩
set_option maxHeartbeats 1000000 in
theorem rFreeOut (h : BudAt w 39 B g cap l) (i : Nat) (o : Int) (hi : l.length ≤ i) :
    Calls Try.prog 32 #[.pointer (some ⟨B, 0, none⟩), .int .i64 i, .int .i64 o] w fun e w' => e = .returned (.bool false) ∧ w' = w := by
  have hc := h.self
  have h2 := h.n2
  have hdec : decide (i < l.length) = false := decide_eq_false (by omega)
  clear h
  go_enter Try.func32, Try.ntmps32
  go_wp2
  go_ret
  exact ⟨rfl, rfl⟩
theorem rFree0 (h : BudAt w 39 B g cap l) (i o : Nat) (q : Bool) (hq : isF l i o = q) :
    Calls Try.prog 32 #[.pointer (some ⟨B, 0, none⟩), .int .i64 i, .int .i64 o] w fun e w' => e = .returned (.bool q) ∧ w' = w := by
  by_cases hi : i < l.length
  · exact rFreeAt h i o q hi (by rw [← hq]; unfold isF fh; simp [hi])
  · obtain rfl : q = false := by rw [← hq]; unfold isF; simp [hi]
    exact rFreeOut h i o (by omega)
set_option maxHeartbeats 4000000 in
set_option maxRecDepth 100000 in
theorem rSet {w0 : World} {n : Nat} {f : Nat → Pg} (h : Way w0 w 39 B g cap n f) (hcap : n ≤ cap ∧ cap ≤ maxLen) (hn : n ≤ 1024) (p o S : Nat) (k c : Int) (ho : o ≤ 10) (hS : 2 ^ o = S) (hfit : p + S ≤ n) :
    Calls Try.prog 33 #[.pointer (some ⟨B, 0, none⟩), .int .i64 p, .agg #[.int .i64 k, .int .i64 o, .int .i64 c]] w fun e w' => e = .returned (.tuple #[]) ∧ Way w0 w' 39 B g cap n (setB f p ⟨k, o, c⟩) := by
  have hS1 : 1 ≤ S ∧ S ≤ 1024 := by rw [← hS]; exact pow_le o ho
  have hSi : (2 : Int) ^ o = (S : Int) := pow_int o S hS
  have hsz : (⟨k, (o : Int), c⟩ : Pg).sz = S := by simp only [Pg.sz, Int.toNat_natCast]; exact hS
  have HSZ := Lib.hid hsz
  have HH0 := Lib.hid (heap_new w (.cells #[.int .i64 k, .int .i64 o, .int .i64 c] 51))
  have HW0 := Lib.hid (h.below (below_one (Below.refl _ w) (.cells #[.int .i64 k, .int .i64 o, .int .i64 c] 51)))
  have hgl := h.tab.lt
  have hBl := lt_of_block h.box
  have hgne : w.heap.size ≠ g := by omega
  have hBne : B ≠ g := h.ne
  have HSI := Lib.hid hSi
  have hpn : p < n := by omega
  unfold maxLen at hcap
  clear h hS hsz hSi
  go_enter Try.func33, Try.ntmps33
  go_wp2
  obtain ⟨K, hK⟩ : ∃ K, w.heap.size = K := ⟨_, rfl⟩
  rw [hK] at HH0 hgne ⊢
  obtain ⟨w1, hw1⟩ : ∃ w1, w.alloc (.cells #[.int .i64 k, .int .i64 o, .int .i64 c] 51) = w1 := ⟨_, rfl⟩
  rw [hw1] at HH0 HW0 ⊢
  clear hw1 hK hgl hBl
  obtain ⟨q0, q1, q2, q3, q4, q5, q6⟩ := HW0.out.facts hpn
  obtain ⟨g0, g1, g2⟩ := self3 HH0.out
  have HN := Lib.hid ((HW0.out.set p ⟨k, o, c⟩).congr (fun i _ => setP_start f p ⟨k, o, c⟩ i))
  have HH1 := Lib.hid (other_set3 HH0.out hgne (p * 3) (p * 3 + 1) (p * 3 + 2) (.int .i64 k) (.int .i64 o) (.int .i64 c))
  go_region
  go_wp2
  clear q0 q1 q2 q3 q4 q5 q6 g0 g1 g2
  go_loopw [6] (fun x wr => ∃ m : Nat, 1 ≤ m ∧ m ≤ S ∧ x = .int .i64 m ∧ Hid (Way w0 wr 39 B g cap n (setP f p ⟨k, o, c⟩ (p + m))) ∧ Hid (wr.heap[K]? = some (.cells #[.int .i64 k, .int .i64 o, .int .i64 c] 51 (0, 0)))) (fun x _ => S - (intOf x).toNat)
  case atStart => exact ⟨1, Nat.le_refl _, hS1.1, by first | rfl | go_num, Lib.hid HN.out.drew, HH1⟩
  case round =>
    obtain ⟨m, hm1, hm2, rfl, HWr, HHr⟩ := hrel
    obtain ⟨g0, g1, g2⟩ := self3 HHr.out
    have hSi := HSI.out
    by_cases hlt : m < S
    · obtain ⟨q0, q1, q2, q3, q4, q5, q6⟩ := HWr.out.facts (i := p + m) (by omega)
      have hpm : p + m < n := by omega
      have HN2 := Lib.hid ((HWr.out.set (p + m) pin).congr (fun i _ => setP_step f p ⟨k, o, c⟩ (p + m) (by omega) i))
      have HH2 := Lib.hid (other_set3 HHr.out hgne ((p + m) * 3) ((p + m) * 3 + 1) ((p + m) * 3 + 2) (.int .i64 1) (.int .i64 0) (.int .i64 0))
      go_wp2
      go_roundw
      case rel => exact ⟨m + 1, by omega, by omega, by go_num, HN2, HH2⟩
      case measure => simp [intOf]; omega
    · obtain rfl : m = S := by omega
      have HE := Lib.hid (HWr.out.congr (f' := setB f p ⟨k, o, c⟩) (fun i hi => by unfold setB setP; rw [HSZ.out]))
      go_wp2
      go_end0
      exact ⟨rfl, HE.out⟩
set_option maxHeartbeats 4000000 in
set_option maxRecDepth 100000 in
theorem rFrees (h : BudAt w 39 B g cap l) (o : Int) :
    Calls Try.prog 39 #[.pointer (some ⟨B, 0, none⟩), .int .i64 o] w fun e w' => ∃ v, e = .returned v ∧ ShowI w' v (frs l o) ∧ Below w.heap.size w w' := by
  have HA := Lib.hid h
  have hself := h.self
  have h2 := h.n2
  have hcap := h.cap
  unfold maxLen at hcap
  clear h
  obtain ⟨i0, hi, hz0, hz1, hz2⟩ := info_parts infoI
  go_enter Try.func39, Try.ntmps39
  go_wp2
  go_loopw [5, 6] (fun v y wr => ∃ k : Nat, k ≤ l.length ∧ y = .int .i64 k ∧ wr.ownsRow w.heap.size 3 1 v (ids (frq l o) k).length (nms (ids (frq l o) k)) ∧ Below w.heap.size w wr) (fun v y _ => l.length - (intOf y).toNat)
  case atStart => exact ⟨0, by omega, rfl, World.ownsRow_nil _ _ _ _, Below.refl _ _⟩
  case round =>
    obtain ⟨k, hk, rfl, hown, hb⟩ := hrel
    have hkl := ids_le (frq l o) k
    by_cases hlt : k < l.length
    · have HY := Lib.hid (ids_yes (q := frq l o) (k := k))
      have HN := Lib.hid (ids_no (q := frq l o) (k := k))
      have HBA := Lib.hid (HA.out.below hb)
      have hself := HBA.out.self
      have HOWN := Lib.hid hown
      clear hown
      cases hq : frq l o k
      · have HN1 := Lib.hid (HN.out hq)
        have HQ : Hid (decide (pg l k = ⟨0, o, 0⟩) = false) := Lib.hid hq
        clear HY HN hq
        go_wp2_with fail
        refine (rFreeAt HBA.out k o false hlt HQ.out).mono ?_
        rintro e w3 ⟨rfl, rfl⟩
        have hown3 := HOWN.out
        have hb4 := hb
        go_wp2
        go_roundw
        case rel => exact ⟨k + 1, by omega, by go_num, by rw [HN1.out]; exact hown3, hb4⟩
        case measure => simp [intOf]; omega
      · have HY1 := Lib.hid (HY.out hq)
        have HQ : Hid (decide (pg l k = ⟨0, o, 0⟩) = true) := Lib.hid hq
        clear HY HN hq
        go_wp2_with fail
        refine (rFreeAt HBA.out k o true hlt HQ.out).mono ?_
        rintro e w3 ⟨rfl, rfl⟩
        have hown := HOWN.out
        have hb4 := hb
        obtain ⟨N, hN⟩ : ∃ N, (ids (frq l o) k).length = N := ⟨_, rfl⟩
        obtain ⟨xs, hxs⟩ : ∃ xs, nms (ids (frq l o) k) = xs := ⟨_, rfl⟩
        rw [hN, hxs] at hown
        rw [hN] at hkl
        have HX := Lib.hid (And.intro hN hxs)
        clear hN hxs hb
        go_wp2_with (at_builtin; refine wpList_append_own _ (by rfl) _ _ 35 (by rfl) w.heap.size 3 i0 (.int .i64 0) 1 8 Try.underlying35 hi hz0 hz1 hz2 (by rfl) (by decide) _ N xs (by rfl) (hown.alloc _) ⟨w3.heap.size, 0, none⟩ 1 1 [.int .i64 (k : Int)] (by rfl) (by rfl) (cell_one_new _ _ _) (by intro u hu; simp at hu; subst hu; rfl) (by unfold maxLen; omega) (by omega) (by have := hb4.size; rw [size_alloc]; omega) ?_)
        intro v' w1 hown' hg _
        have hb1 : Below w.heap.size w w1 := (below_one hb4 _).grown hg (by have := hb4.size; rw [size_alloc]; omega) (own_ge hown)
        go_wp2
        go_roundw
        case rel => exact ⟨k + 1, by omega, by go_num, by rw [HY1.out]; simpa [nms, HX.out.1, ← HX.out.2] using hown', hb1⟩
        case measure => simp [intOf]; omega
    · obtain rfl : k = l.length := by omega
      have hs := own_i hown
      have hself := (HA.out.below hb).self
      go_wp2
      go_ret
      exact ⟨_, rfl, hs, hb⟩
set_option maxHeartbeats 1000000 in
theorem rLeft (h : BudAt w 39 B g cap l) (c : Nat) (hc : freeF l = c) :
    Calls Try.prog 36 #[.pointer (some ⟨B, 0, none⟩)] w fun e w' => e = .returned (.int .i64 c) ∧ Below w.heap.size w w' := by
  have hself := h.self
  have HC := Lib.hid hc
  clear hc
  go_enter Try.func36, Try.ntmps36
  go_wp2_with fail
  refine (rFree _ l c HC.out _ h.shows).mono ?_
  rintro e w1 ⟨rfl, hb⟩
  go_wp2
  go_ret
  exact ⟨rfl, hb⟩
end
end Go.Proofs.Ytpohfecbogppkaa
