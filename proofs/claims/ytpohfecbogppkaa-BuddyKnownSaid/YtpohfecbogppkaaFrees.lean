/-
  Frees, Left, Pages, of the program.
-/
import Derived.Test.YtpohfecbogppkaaBFree
set_option linter.unusedVariables false
set_option linter.unusedSimpArgs false
namespace Go.Proofs.Ytpohfecbogppkaa
open Go Go.RowKit

/-- the numbers below k of which q is true -/
def ids (q : Nat → Bool) : Nat → List Int
  | 0 => []
  | k + 1 => if q k = true then ids q k ++ [(k : Int)] else ids q k
theorem ids_yes {q : Nat → Bool} {k : Nat} (h : q k = true) : ids q (k + 1) = ids q k ++ [(k : Int)] := by simp only [ids, h, if_true]
theorem ids_no {q : Nat → Bool} {k : Nat} (h : q k = false) : ids q (k + 1) = ids q k := by simp [ids, h]
theorem ids_le (q : Nat → Bool) (k : Nat) : (ids q k).length ≤ k := by
  induction k with
  | zero => simp [ids]
  | succ k ih =>
    cases h : q k
    · rw [ids_no h]; omega
    · rw [ids_yes h]; simp; omega
theorem ids_mem {q : Nat → Bool} {k : Nat} {x : Int} : x ∈ ids q k ↔ ∃ i, i < k ∧ q i = true ∧ x = (i : Int) := by
  induction k with
  | zero => simp [ids]
  | succ k ih =>
    by_cases h : q k = true
    · rw [ids_yes h, List.mem_append, ih]
      constructor
      · rintro (⟨i, h1, h2, h3⟩ | h1)
        · exact ⟨i, by omega, h2, h3⟩
        · exact ⟨k, by omega, h, by simpa using h1⟩
      · rintro ⟨i, h1, h2, h3⟩
        by_cases e : i = k
        · subst e; right; simp [h3]
        · exact .inl ⟨i, by omega, h2, h3⟩
    · have h' : q k = false := by simpa using h
      rw [ids_no h', ih]
      constructor
      · rintro ⟨i, h1, h2, h3⟩; exact ⟨i, by omega, h2, h3⟩
      · rintro ⟨i, h1, h2, h3⟩
        by_cases e : i = k
        · subst e; rw [h2] at h'; cases h'
        · exact ⟨i, by omega, h2, h3⟩
theorem ids_nil {q : Nat → Bool} {k : Nat} : (ids q k).length = 0 ↔ ∀ i, i < k → q i = false := by
  rw [List.length_eq_zero_iff]
  constructor
  · intro h i hi
    apply Classical.byContradiction
    intro hq
    have : (i : Int) ∈ ids q k := ids_mem.2 ⟨i, hi, by simpa using hq, rfl⟩
    rw [h] at this
    simp at this
  · intro h
    apply List.eq_nil_iff_forall_not_mem.2
    intro x hx
    obtain ⟨i, h1, h2, _⟩ := ids_mem.1 hx
    rw [h i h1] at h2
    cases h2
/-- the free blocks of an order -/
def frq (l : List Pg) (o : Int) (i : Nat) : Bool := decide (pg l i = ⟨0, o, 0⟩)
abbrev frs (l : List Pg) (o : Int) : List Int := ids (frq l o) l.length
theorem own_ge {w : World} {B n : Nat} {t : TypeId} {k : Nat} {v : Value} {xs : List Value} (h : w.ownsRow B t k v n xs) : ∀ j, v.ownBlock = some j → B ≤ j := by
  intro j ej
  rcases h.2 with ⟨rfl, _⟩ | ⟨g, cap, cur, rfl, hb, _, _⟩
  · simp [Value.ownBlock] at ej
  · obtain rfl : g = j := by simpa [Value.ownBlock] using ej
    exact hb
theorem own_below {W W' : World} {B n size : Nat} {e : TypeId} {v : Value} {xs : List Value} (h : W.ownsRow B e size v n xs) (hb : Below W.heap.size W W') : W'.ownsRow B e size v n xs := by
  refine h.kept (grown_of_below (row := none) hb (Nat.le_refl _)) ?_
  cases hv : v.ownBlock with
  | none => exact .inl rfl
  | some k => exact .inr (by simp)
section
variable {w : World} {B g cap : Nat} {l : List Pg}
set_option maxHeartbeats 4000000 in
set_option maxRecDepth 100000 in
theorem cFrees (h : BudAt w 56 B g cap l) (o : Int) :
    Calls Try.prog 24 #[.pointer (some ⟨B, 0, none⟩), .int .i64 o] w fun e w' => ∃ v, e = .returned v ∧ ShowI w' v (frs l o) ∧ Below w.heap.size w w' := by
  have HA := Lib.hid h
  have hself := h.self
  have h2 := h.n2
  have hcap := h.cap
  unfold maxLen at hcap
  clear h
  obtain ⟨i0, hi, hz0, hz1, hz2⟩ := info_parts infoI
  go_enter Try.func24, Try.ntmps24
  go_wp2_with fail
  refine (cIsNone HA.out).mono ?_
  rintro e w' ⟨rfl, rfl⟩
  go_wp2
  go_loopw [5, 14] (fun v y wr => ∃ k : Nat, k ≤ l.length ∧ y = .int .i64 k ∧ wr.ownsRow w'.heap.size 3 1 v (ids (frq l o) k).length (nms (ids (frq l o) k)) ∧ Below w'.heap.size w' wr) (fun v y _ => l.length - (intOf y).toNat)
  case atStart => exact ⟨0, by omega, rfl, World.ownsRow_nil _ _ _ _, Below.refl _ _⟩
  case round =>
    obtain ⟨k, hk, rfl, hown, hb⟩ := hrel
    have hkl := ids_le (frq l o) k
    by_cases hlt : k < l.length
    · have HY := Lib.hid (ids_yes (q := frq l o) (k := k))
      have HN := Lib.hid (ids_no (q := frq l o) (k := k))
      have HBA := Lib.hid (HA.out.below hb)
      have HOWN := Lib.hid hown
      clear hown
      cases hq : frq l o k
      · have HN1 := Lib.hid (HN.out hq)
        have HQ : Hid (decide (pg l k = ⟨0, o, 0⟩) = false) := Lib.hid hq
        clear HY HN hq
        go_wp2_with fail
        refine (cIsFreeIn HBA.out k o false hlt HQ.out).mono ?_
        rintro e w3 ⟨rfl, hb3⟩
        have hown3 := own_below HOWN.out hb3
        have hb4 := below_then hb hb3
        go_wp2
        go_roundw
        case rel => exact ⟨k + 1, by omega, by go_num, by rw [HN1.out]; exact hown3, hb4⟩
        case measure => simp [intOf]; omega
      · have HY1 := Lib.hid (HY.out hq)
        have HQ : Hid (decide (pg l k = ⟨0, o, 0⟩) = true) := Lib.hid hq
        clear HY HN hq
        go_wp2_with fail
        refine (cIsFreeIn HBA.out k o true hlt HQ.out).mono ?_
        rintro e w3 ⟨rfl, hb3⟩
        have hown := own_below HOWN.out hb3
        have hb4 := below_then hb hb3
        obtain ⟨N, hN⟩ : ∃ N, (ids (frq l o) k).length = N := ⟨_, rfl⟩
        obtain ⟨xs, hxs⟩ : ∃ xs, nms (ids (frq l o) k) = xs := ⟨_, rfl⟩
        rw [hN, hxs] at hown
        rw [hN] at hkl
        have HX := Lib.hid (And.intro hN hxs)
        clear hN hxs hb hb3
        go_wp2_with (at_builtin; refine wpList_append_own _ (by rfl) _ _ 35 (by rfl) w'.heap.size 3 i0 (.int .i64 0) 1 8 Try.underlying35 hi hz0 hz1 hz2 (by rfl) (by decide) _ N xs (by rfl) (hown.alloc _) ⟨w3.heap.size, 0, none⟩ 1 1 [.int .i64 (k : Int)] (by rfl) (by rfl) (cell_one_new _ _ _) (by intro u hu; simp at hu; subst hu; rfl) (by unfold maxLen; omega) (by omega) (by have := hb4.size; rw [size_alloc]; omega) ?_)
        intro v' w1 hown' hg _
        have hb1 : Below w'.heap.size w' w1 := (below_one hb4 _).grown hg (by have := hb4.size; rw [size_alloc]; omega) (own_ge hown)
        go_wp2
        go_roundw
        case rel => exact ⟨k + 1, by omega, by go_num, by rw [HY1.out]; simpa [nms, HX.out.1, ← HX.out.2] using hown', hb1⟩
        case measure => simp [intOf]; omega
    · obtain rfl : k = l.length := by omega
      have hs := own_i hown
      go_wp2
      go_ret
      exact ⟨_, rfl, hs, hb⟩
set_option maxHeartbeats 1000000 in
theorem cFreesNil (o : Int) (w : World) : Calls Try.prog 24 #[.pointer none, .int .i64 o] w fun e w' => e = .returned (.slice none 0 0) ∧ w' = w := by
  go_enter Try.func24, Try.ntmps24
  go_wp2_with (go_at_call 28; refine (cIsNoneNil _).mono ?_; rintro e w' ⟨rfl, rfl⟩)
  go_ret
  exact ⟨rfl, rfl⟩
set_option maxHeartbeats 1000000 in
theorem cFreesZero (B : Nat) (o : Int) (w : World) (hc : w.cell? ⟨B, 0, none⟩ = some (.slice none 0 0)) : Calls Try.prog 24 #[.pointer (some ⟨B, 0, none⟩), .int .i64 o] w fun e w' => e = .returned (.slice none 0 0) ∧ w' = w := by
  go_enter Try.func24, Try.ntmps24
  go_wp2_with (go_at_call 28; refine (cIsNoneZero B _ hc).mono ?_; rintro e w' ⟨rfl, rfl⟩)
  go_ret
  exact ⟨rfl, rfl⟩
set_option maxHeartbeats 1000000 in
theorem cLeft (h : BudAt w 56 B g cap l) (c : Nat) (hc : freeF l = c) :
    Calls Try.prog 22 #[.pointer (some ⟨B, 0, none⟩)] w fun e w' => e = .returned (.int .i64 c) ∧ Below w.heap.size w w' := by
  have hself := h.self
  have HC := Lib.hid hc
  clear hc
  go_enter Try.func22, Try.ntmps22
  go_wp2_with fail
  refine (cIsNone h).mono ?_
  rintro e w' ⟨rfl, rfl⟩
  go_wp2_with fail
  refine (cFree _ l c HC.out _ h.shows).mono ?_
  rintro e w1 ⟨rfl, hb⟩
  go_wp2
  go_ret
  exact ⟨rfl, hb⟩
set_option maxHeartbeats 1000000 in
theorem cLeftNil (w : World) : Calls Try.prog 22 #[.pointer none] w fun e w' => e = .returned (.int .i64 0) ∧ w' = w := by
  go_enter Try.func22, Try.ntmps22
  go_wp2_with (go_at_call 28; refine (cIsNoneNil _).mono ?_; rintro e w' ⟨rfl, rfl⟩)
  go_ret
  exact ⟨rfl, rfl⟩
set_option maxHeartbeats 1000000 in
theorem cLeftZero (B : Nat) (w : World) (hc : w.cell? ⟨B, 0, none⟩ = some (.slice none 0 0)) : Calls Try.prog 22 #[.pointer (some ⟨B, 0, none⟩)] w fun e w' => e = .returned (.int .i64 0) ∧ w' = w := by
  go_enter Try.func22, Try.ntmps22
  go_wp2_with (go_at_call 28; refine (cIsNoneZero B _ hc).mono ?_; rintro e w' ⟨rfl, rfl⟩)
  go_ret
  exact ⟨rfl, rfl⟩
set_option maxHeartbeats 1000000 in
theorem cPagesOf (h : BudAt w 56 B g cap l) :
    Calls Try.prog 19 #[.pointer (some ⟨B, 0, none⟩)] w fun e w' => ∃ g2 cp, e = .returned (.slice (some ⟨g2, 0, none⟩) l.length cp) ∧ w.heap.size ≤ g2 ∧ (l.length ≤ cp ∧ cp ≤ maxLen) ∧ TabIs w' g2 l.length (pg l) ∧ Below w.heap.size w w' := by
  have hself := h.self
  go_enter Try.func19, Try.ntmps19
  go_wp2_with fail
  refine (cIsNone h).mono ?_
  rintro e w' ⟨rfl, rfl⟩
  go_wp2_with fail
  refine (cClone g 0 cap l h.n1 h.n2 _ h.shows).mono ?_
  rintro e w1 ⟨g2, cp, rfl, h1, h2, h3, h4⟩
  go_wp2
  go_ret
  exact ⟨g2, cp, rfl, h1, h2, h3, h4⟩
set_option maxHeartbeats 1000000 in
theorem cPagesNil (w : World) : Calls Try.prog 19 #[.pointer none] w fun e w' => e = .returned (.slice none 0 0) ∧ w' = w := by
  go_enter Try.func19, Try.ntmps19
  go_wp2_with (go_at_call 28; refine (cIsNoneNil _).mono ?_; rintro e w' ⟨rfl, rfl⟩)
  go_ret
  exact ⟨rfl, rfl⟩
set_option maxHeartbeats 1000000 in
theorem cPagesZero (B : Nat) (w : World) (hc : w.cell? ⟨B, 0, none⟩ = some (.slice none 0 0)) : Calls Try.prog 19 #[.pointer (some ⟨B, 0, none⟩)] w fun e w' => e = .returned (.slice none 0 0) ∧ w' = w := by
  go_enter Try.func19, Try.ntmps19
  go_wp2_with (go_at_call 28; refine (cIsNoneZero B _ hc).mono ?_; rintro e w' ⟨rfl, rfl⟩)
  go_ret
  exact ⟨rfl, rfl⟩
end
end Go.Proofs.Ytpohfecbogppkaa
