/-
  isNoGroup (as a value), slices.ContainsFunc, isPath, checkPath of the program.
-/
import Derived.Test.YtahkfagfobfliaaCv
set_option linter.unusedVariables false
set_option linter.unusedSimpArgs false
namespace Go.Proofs.Ytahkfagfobfliaa
open Go Go.RowKit

/-- the first m of them -/
theorem ShowI.first {w : World} {ao : Option Addr} {cap m : Nat} {l : List Int} (h : ShowI w (.slice ao l.length cap) l) (hm : m ≤ l.length) : ShowI w (.slice ao m cap) (l.take m) := by
  have e : nms (l.take m) = (nms l).take m := List.map_take
  unfold ShowI
  rw [List.length_take, Nat.min_eq_left hm, e]
  obtain ⟨hl, ao', cap', hv, hc, hs⟩ := h
  cases hv
  refine ⟨by rw [List.length_take]; simp; omega, ao, cap, rfl, by omega, fun hn => ?_⟩
  obtain ⟨b, o, ha, hx⟩ := hs (by omega)
  refine ⟨b, o, ha, fun j hj => ?_⟩
  rw [hx j (by omega), List.getElem?_take, if_pos (by omega)]
def outB (l : List Int) : Bool := (List.range l.length).any fun i => !decide (isG (pk l i))
def dupTo (l : List Int) (k : Nat) : Bool := (List.range k).any fun i => decide (pk l i ∈ l.take i)
theorem outB_yes {l : List Int} {k : Nat} (hk : k < l.length) (h : ¬ isG (pk l k)) : outB l = true := by
  unfold outB
  rw [List.any_eq_true]
  exact ⟨k, List.mem_range.2 hk, by simp [h]⟩
theorem outB_no {l : List Int} (h : ∀ i, i < l.length → isG (pk l i)) : outB l = false := by
  unfold outB
  rw [List.any_eq_false]
  intro i hi
  simp [h i (List.mem_range.1 hi)]
theorem dupTo_next (l : List Int) (k : Nat) : dupTo l (k + 1) = (dupTo l k || decide (pk l k ∈ l.take k)) := by
  unfold dupTo
  rw [List.range_succ, List.any_append]
  simp
theorem dupTo_no {l : List Int} {k : Nat} (h : dupTo l k = false) : ∀ i, i < k → pk l i ∉ l.take i := by
  intro i hi
  unfold dupTo at h
  rw [List.any_eq_false] at h
  have := h i (List.mem_range.2 hi)
  simpa using this
theorem dupTo_upto {l : List Int} {k m : Nat} (hk : k ≤ m) (h : dupTo l k = true) : dupTo l m = true := by
  unfold dupTo at h ⊢
  rw [List.any_eq_true] at h ⊢
  obtain ⟨i, hi, hx⟩ := h
  exact ⟨i, List.mem_range.2 (by have := List.mem_range.1 hi; omega), hx⟩
/-- whether a list is told to be none for its length, or for a group that is there twice -/
def offB (l : List Int) : Bool := decide (l.length < 1 ∨ 8 < l.length) || dupTo l l.length
def pathE (l : List Int) : Int := if outB l then 110 else if offB l then 2 else 0
def askP (l : List Int) (n : Int) : Int := if pathE l ≠ 0 then pathE l else if ¬ isN n then 2 else 0
theorem outB_out {l : List Int} (h : outB l = false) : ∀ i, i < l.length → isG (pk l i) := fun i hi =>
  Decidable.byContradiction fun e => by rw [outB_yes hi e] at h; cases h
theorem askP_zero {l : List Int} {n : Int} (h : askP l n = 0) : IsPath l ∧ isN n := by
  unfold askP pathE at h
  cases ho : outB l with
  | true => rw [ho] at h; simp at h
  | false =>
    cases hf : offB l with
    | true => rw [ho, hf] at h; simp at h
    | false =>
      have hn : isN n := Decidable.byContradiction fun e => by rw [ho, hf] at h; simp [e] at h
      unfold offB at hf
      obtain ⟨h1, h2⟩ := Bool.or_eq_false_iff.1 hf
      have h3 := of_decide_eq_false h1
      exact ⟨⟨by omega, by omega, outB_out ho, dupTo_no h2⟩, hn⟩
set_option maxHeartbeats 1000000 in
theorem cIsNoGroup (x : Int) (q : Bool) (hq : decide (isG x) = q) (w : World) :
    Calls Try.prog 42 #[.int .i64 x] w fun e w' => e = .returned (.bool (!q)) ∧ w' = w := by
  go_enter Try.func42, Try.ntmps42
  go_wp2_with (go_at_call 39; refine (cIsG x q hq _).mono ?_; rintro e w1 ⟨rfl, rfl⟩)
  go_ret
  exact ⟨rfl, rfl⟩
set_option maxHeartbeats 2000000 in
set_option maxRecDepth 100000 in
theorem cIndexFunc (u : Value) (l : List Int) (w : World) (hu : ShowI w u l) :
    Calls Try.prog 46 #[u, .func (.func 42) #[] #[]] w fun e w' => (∃ y : Int, e = .returned (.int .i64 y) ∧ (0 ≤ y ↔ outB l = true)) ∧ w' = w := by
  obtain ⟨ao, cap, rfl, hcap, hat⟩ := hu.form
  clear hu
  go_enter Try.func46, Try.ntmps46
  go_wp2
  go_loopw [8] (fun i wr => ∃ k : Nat, k ≤ l.length ∧ i = .int .i64 k ∧ Hid (∀ j, j < k → isG (pk l j)) ∧ wr = w) (fun i _ => l.length - (intOf i).toNat)
  case atStart => exact ⟨0, by omega, rfl, Lib.hid (fun j hj => by omega), rfl⟩
  case round =>
    obtain ⟨k, hk, rfl, HN, rfl⟩ := hrel
    by_cases hlt : k < l.length
    · obtain ⟨b1, o1, rfl, c1⟩ := hat k hlt
      have HT : Hid (¬ isG (pk l k) → outB l = true) := Lib.hid (fun e => outB_yes hlt e)
      have HF : Hid (isG (pk l k) → ∀ j, j < k + 1 → isG (pk l j)) := Lib.hid (fun e j hj => by
        by_cases ej : j = k
        · subst ej; exact e
        · exact HN.out j (by omega))
      obtain ⟨q, hq⟩ : ∃ q, decide (isG (pk l k)) = q := ⟨_, rfl⟩
      have HQ := Lib.hid hq
      clear HN hq
      generalize pk l k = y at c1 HT HF HQ
      go_wp2_with fail
      refine (cIsNoGroup y q HQ.out _).mono ?_
      rintro e w1 ⟨rfl, rfl⟩
      cases q with
      | false =>
        have HT1 := Lib.hid (HT.out (of_decide_eq_false HQ.out))
        clear HT HF HQ
        go_wp2
        go_ret
        exact ⟨⟨_, rfl, fun _ => HT1.out, fun _ => by omega⟩, rfl⟩
      | true =>
        have HF1 := Lib.hid (HF.out (of_decide_eq_true HQ.out))
        clear HT HF HQ
        go_wp2
        go_roundw
        case rel => exact ⟨k + 1, by omega, by go_num, HF1, trivial⟩
        case measure => simp [intOf]; omega
    · obtain rfl : k = l.length := by omega
      go_wp2
      go_ret
      exact ⟨⟨_, rfl, fun e => by omega, fun e => by rw [outB_no HN.out] at e; cases e⟩, rfl⟩
set_option maxHeartbeats 1000000 in
theorem cContainsFunc (u : Value) (l : List Int) (q : Bool) (hq : outB l = q) (w : World) (hu : ShowI w u l) :
    Calls Try.prog 41 #[u, .func (.func 42) #[] #[]] w fun e w' => e = .returned (.bool q) ∧ w' = w := by
  have HQ := Lib.hid hq
  clear hq
  go_enter Try.func41, Try.ntmps41
  go_wp2_with fail
  refine (cIndexFunc u l w hu).mono ?_
  rintro e w1 ⟨⟨y, rfl, hy⟩, rfl⟩
  have HY := Lib.hid hy
  clear hy
  go_wp2
  go_ret
  exact ⟨ret_bool (by rw [← HQ.out, Bool.eq_iff_iff, decide_eq_true_iff]; exact HY.out), rfl⟩
section
variable {w w' : World} {B g : Nat} {t t' : Ct} {p : Option Addr} {x n e : Int}
set_option maxHeartbeats 2000000 in
set_option maxRecDepth 100000 in
theorem cIsPath (u : Value) (l : List Int) (q : Bool) (hq : offB l = q) (w : World) (hu : ShowI w u l) :
    Calls Try.prog 43 #[u] w fun e w' => e = .returned (.bool (!q)) ∧ w' = w := by
  have HU := Lib.hid hu
  obtain ⟨ao, cap, rfl, hcap, hat⟩ := hu.form
  clear hu
  unfold offB at hq
  by_cases h0 : l.length = 0
  · rw [decide_eq_true (by omega), Bool.true_or] at hq
    subst hq
    have hl : ((l.length : Int) == 0) = true := by simp [h0]
    clear h0
    go_enter Try.func43, Try.ntmps43
    go_wp2
    go_ret
    exact ⟨rfl, rfl⟩
  · have hl : ((l.length : Int) == 0) = false := by rw [beq_eq_false_iff_ne]; omega
    by_cases h8 : 8 < l.length
    · rw [decide_eq_true (by omega), Bool.true_or] at hq
      subst hq
      have h9 : (8 : Int) < (l.length : Int) := by omega
      go_enter Try.func43, Try.ntmps43
      go_wp2
      go_ret
      exact ⟨rfl, rfl⟩
    · rw [decide_eq_false (by omega), Bool.false_or] at hq
      have h9 : ¬ (8 : Int) < (l.length : Int) := by omega
      have HQ := Lib.hid hq
      clear hq
      go_enter Try.func43, Try.ntmps43
      go_wp2
      go_loopw [15] (fun i wr => ∃ k : Nat, k ≤ l.length ∧ i = .int .i64 k ∧ Hid (dupTo l k = false) ∧ wr = w) (fun i _ => l.length - (intOf i).toNat)
      case atStart => exact ⟨0, by omega, rfl, Lib.hid rfl, rfl⟩
      case round =>
        obtain ⟨k, hk, rfl, HE, rfl⟩ := hrel
        by_cases hlt : k < l.length
        · obtain ⟨b1, o1, rfl, c1⟩ := hat k hlt
          have HF : Hid (ShowI wr (.slice (some ⟨b1, o1, none⟩) k cap) (l.take k)) := Lib.hid (HU.out.first (by omega))
          obtain ⟨m, hm⟩ : ∃ m, decide (pk l k ∈ l.take k) = m := ⟨_, rfl⟩
          have HM := Lib.hid hm
          have hn := dupTo_next l k
          rw [HE.out, Bool.false_or, hm] at hn
          have HN := Lib.hid hn
          clear hm hn HE
          cases m with
          | true =>
            have HY : Hid (true = q) := Lib.hid (by rw [← HQ.out, dupTo_upto (by omega) HN.out])
            clear HN HQ
            generalize pk l k = y at *
            go_wp2_with (go_at_call 47; refine (cContains _ _ y _ HM.out _ HF.out).mono ?_; rintro e w1 ⟨rfl, rfl⟩)
            go_ret
            exact ⟨ret_bool (by rw [← HY.out]; rfl), rfl⟩
          | false =>
            clear HQ
            generalize pk l k = y at *
            go_wp2_with (go_at_call 47; refine (cContains _ _ y _ HM.out _ HF.out).mono ?_; rintro e w1 ⟨rfl, rfl⟩)
            go_roundw
            case rel => exact ⟨k + 1, by omega, by go_num, HN, trivial⟩
            case measure => simp [intOf]; omega
        · obtain rfl : k = l.length := by omega
          have HY : Hid (false = q) := Lib.hid (by rw [← HQ.out, HE.out])
          clear HE HQ
          go_wp2
          go_ret
          exact ⟨ret_bool (by rw [← HY.out]; rfl), rfl⟩
set_option maxHeartbeats 2000000 in
theorem cCheckPath (h : CV w B g t) (u : Value) (l : List Int) (n q : Int) (hq : askP l n = q) (hu : ShowI w u l) :
    Calls Try.prog 34 #[.pointer (some ⟨B, 0, none⟩), u, .int .i64 n] w fun e w' => e = .returned (.int .i64 q) ∧ w' = w := by
  have HA := Lib.hid h
  have HU := Lib.hid hu
  clear h hu
  unfold askP pathE at hq
  obtain ⟨O, hO⟩ : ∃ O, outB l = O := ⟨_, rfl⟩
  obtain ⟨F, hF⟩ : ∃ F, offB l = F := ⟨_, rfl⟩
  obtain ⟨N, hN⟩ : ∃ N, decide (isN n) = N := ⟨_, rfl⟩
  rw [hO, hF] at hq
  have HO := Lib.hid hO
  have HF := Lib.hid hF
  have HN := Lib.hid hN
  have HQ : Hid ((if O then (110 : Int) else if F then 2 else if N then 0 else 2) = q) := Lib.hid (by
    rw [← hq]
    by_cases hn : isN n
    · rw [decide_eq_true hn] at hN
      subst hN
      cases O <;> cases F <;> simp [hn]
    · rw [decide_eq_false hn] at hN
      subst hN
      cases O <;> cases F <;> simp [hn])
  clear hO hF hN hq
  cases O with
  | true =>
    go_enter Try.func34, Try.ntmps34
    go_wp2_with (first | (go_at_call 38; refine (cNoneNo HA.out).mono ?_; rintro e w1 ⟨rfl, rfl⟩) | (go_at_call 41; refine (cContainsFunc _ l _ HO.out _ HU.out).mono ?_; rintro e w1 ⟨rfl, rfl⟩))
    go_ret
    exact ⟨ret_int HQ.out, rfl⟩
  | false =>
    cases F with
    | true =>
      go_enter Try.func34, Try.ntmps34
      go_wp2_with (first | (go_at_call 38; refine (cNoneNo HA.out).mono ?_; rintro e w1 ⟨rfl, rfl⟩) | (go_at_call 41; refine (cContainsFunc _ l _ HO.out _ HU.out).mono ?_; rintro e w1 ⟨rfl, rfl⟩) | (go_at_call 43; refine (cIsPath _ l _ HF.out _ HU.out).mono ?_; rintro e w1 ⟨rfl, rfl⟩))
      go_ret
      exact ⟨ret_int HQ.out, rfl⟩
    | false =>
      cases N with
      | true =>
        go_enter Try.func34, Try.ntmps34
        go_wp2_with (first | (go_at_call 38; refine (cNoneNo HA.out).mono ?_; rintro e w1 ⟨rfl, rfl⟩) | (go_at_call 41; refine (cContainsFunc _ l _ HO.out _ HU.out).mono ?_; rintro e w1 ⟨rfl, rfl⟩) | (go_at_call 43; refine (cIsPath _ l _ HF.out _ HU.out).mono ?_; rintro e w1 ⟨rfl, rfl⟩) | (go_at_call 40; refine (cIsN n _ HN.out _).mono ?_; rintro e w1 ⟨rfl, rfl⟩))
        go_ret
        exact ⟨ret_int HQ.out, rfl⟩
      | false =>
        go_enter Try.func34, Try.ntmps34
        go_wp2_with (first | (go_at_call 38; refine (cNoneNo HA.out).mono ?_; rintro e w1 ⟨rfl, rfl⟩) | (go_at_call 41; refine (cContainsFunc _ l _ HO.out _ HU.out).mono ?_; rintro e w1 ⟨rfl, rfl⟩) | (go_at_call 43; refine (cIsPath _ l _ HF.out _ HU.out).mono ?_; rintro e w1 ⟨rfl, rfl⟩) | (go_at_call 40; refine (cIsN n _ HN.out _).mono ?_; rintro e w1 ⟨rfl, rfl⟩))
        go_ret
        exact ⟨ret_int HQ.out, rfl⟩
set_option maxHeartbeats 1000000 in
theorem zCheckPath (h : CZ w p) (u : Value) (n : Int) :
    Calls Try.prog 34 #[.pointer p, u, .int .i64 n] w fun e w' => e = .returned (.int .i64 1) ∧ w' = w := by
  have HA := Lib.hid h
  clear h
  go_enter Try.func34, Try.ntmps34
  go_wp2_with (go_at_call 38; refine (cNoneYes HA.out).mono ?_; rintro e w1 ⟨rfl, rfl⟩)
  go_ret
  exact ⟨rfl, rfl⟩
end
end Go.Proofs.Ytahkfagfobfliaa
