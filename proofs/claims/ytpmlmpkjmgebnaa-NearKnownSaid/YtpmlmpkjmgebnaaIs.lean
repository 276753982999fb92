/-
  isCpu, has; slices.Index, Contains, IndexFunc, ContainsFunc; Has of both.
-/
import Derived.Test.YtpmlmpkjmgebnaaCopies
set_option linter.unusedVariables false
set_option linter.unusedSimpArgs false
namespace Go.Proofs.Ytpmlmpkjmgebnaa
open Go Go.RowKit

section
variable {w : World} {T : TypeId} {B g n lim : Nat} {vs : Nat → Value} {f : F}
set_option maxHeartbeats 1000000 in
theorem cIsCpu (h : NearG w 48 B g vs n lim f) (c : Int) (q : Bool) (hq : decide (0 ≤ c ∧ c < (n : Int)) = q) :
    Calls Try.prog 23 #[.pointer (some ⟨B, 0, none⟩), .int .i64 c] w fun e w' => e = .returned (.bool q) ∧ w' = w := by
  obtain ⟨c0, c1⟩ := h.self
  have hn := h.n1
  have HQ := Lib.hid hq
  clear hq h
  by_cases h1 : 0 ≤ c
  · by_cases h2 : c < n
    · go_enter Try.func23, Try.ntmps23
      go_wp2
      go_ret
      exact ⟨ret_bool (by rw [← HQ.out, decide_eq_true ⟨h1, h2⟩]), rfl⟩
    · go_enter Try.func23, Try.ntmps23
      go_wp2
      go_ret
      exact ⟨ret_bool (by rw [← HQ.out, decide_eq_false (by omega)]), rfl⟩
  · go_enter Try.func23, Try.ntmps23
    go_wp2
    go_ret
    exact ⟨ret_bool (by rw [← HQ.out, decide_eq_false (by omega)]), rfl⟩
set_option maxHeartbeats 1000000 in
theorem rHasCpu (h : NearG w 50 B g vs n lim f) (c : Int) (q : Bool) (hq : decide (0 ≤ c ∧ c < (n : Int)) = q) :
    Calls Try.prog 25 #[.pointer (some ⟨B, 0, none⟩), .int .i64 c] w fun e w' => e = .returned (.bool q) ∧ w' = w := by
  obtain ⟨c0, c1⟩ := h.self
  have hn := h.n1
  have HQ := Lib.hid hq
  clear hq h
  by_cases h1 : 0 ≤ c
  · by_cases h2 : c < n
    · go_enter Try.func25, Try.ntmps25
      go_wp2
      go_ret
      exact ⟨ret_bool (by rw [← HQ.out, decide_eq_true ⟨h1, h2⟩]), rfl⟩
    · go_enter Try.func25, Try.ntmps25
      go_wp2
      go_ret
      exact ⟨ret_bool (by rw [← HQ.out, decide_eq_false (by omega)]), rfl⟩
  · go_enter Try.func25, Try.ntmps25
    go_wp2
    go_ret
    exact ⟨ret_bool (by rw [← HQ.out, decide_eq_false (by omega)]), rfl⟩
end
/-- where x is in l, from the left; l's length if nowhere -/
theorem not_take_succ {l : List Int} {k : Nat} {x : Int} (hk : k < l.length) (h : x ∉ l.take k) (he : l[k] ≠ x) : x ∉ l.take (k + 1) := by
  rw [List.take_succ_eq_append_getElem hk, List.mem_append]
  rintro (h1 | h1)
  · exact h h1
  · exact he (List.mem_singleton.1 h1).symm
set_option maxHeartbeats 2000000 in
set_option maxRecDepth 100000 in
theorem cIndex (u : Value) (l : List Int) (x : Int) (w : World) (hu : ShowI w u l) :
    Calls Try.prog 32 #[u, .int .i64 x] w fun e w' => (∃ y : Int, e = .returned (.int .i64 y) ∧ (0 ≤ y ↔ x ∈ l)) ∧ w' = w := by
  obtain ⟨ao, cap, rfl, hcap, hat⟩ := hu.form
  clear hu
  go_enter Try.func32, Try.ntmps32
  go_wp2
  go_loopw [8] (fun i wr => ∃ k : Nat, k ≤ l.length ∧ i = .int .i64 k ∧ x ∉ l.take k ∧ wr = w) (fun i _ => l.length - (intOf i).toNat)
  case atStart => exact ⟨0, by omega, rfl, by simp, rfl⟩
  case round =>
    obtain ⟨k, hk, rfl, hnot, rfl⟩ := hrel
    have HN := Lib.hid hnot
    clear hnot
    by_cases hlt : k < l.length
    · obtain ⟨b1, o1, rfl, c1⟩ := hat k hlt
      rw [← pk_at l k hlt] at c1
      have HT : Hid (l[k] = x → x ∈ l) := Lib.hid (fun e => e ▸ List.getElem_mem hlt)
      have HF : Hid (l[k] ≠ x → x ∉ l.take (k + 1)) := Lib.hid (fun e => not_take_succ hlt HN.out e)
      generalize l[k] = y at c1 HT HF
      by_cases hxy : y = x
      · have HT1 := Lib.hid (HT.out hxy)
        have hq : (x == y) = true := by rw [beq_iff_eq]; exact hxy.symm
        clear HT HF HN
        go_wp2
        go_ret
        exact ⟨⟨_, rfl, fun _ => HT1.out, fun _ => by omega⟩, rfl⟩
      · have HF1 := Lib.hid (HF.out hxy)
        have hq : (x == y) = false := by rw [beq_eq_false_iff_ne]; exact fun e => hxy e.symm
        clear HT HF HN
        go_wp2
        go_roundw
        case rel => exact ⟨k + 1, by omega, by go_num, HF1.out, trivial⟩
        case measure => simp [intOf]; omega
    · obtain rfl : k = l.length := by omega
      go_wp2
      go_ret
      exact ⟨⟨_, rfl, fun e => by omega, fun e => absurd (by rw [List.take_length]; exact e) HN.out⟩, rfl⟩
set_option maxHeartbeats 1000000 in
theorem cContains (u : Value) (l : List Int) (x : Int) (q : Bool) (hq : decide (x ∈ l) = q) (w : World) (hu : ShowI w u l) :
    Calls Try.prog 30 #[u, .int .i64 x] w fun e w' => e = .returned (.bool q) ∧ w' = w := by
  have HQ := Lib.hid hq
  clear hq
  go_enter Try.func30, Try.ntmps30
  go_wp2_with fail
  refine (cIndex u l x w hu).mono ?_
  rintro e w1 ⟨⟨y, rfl, hy⟩, rfl⟩
  have HY := Lib.hid hy
  clear hy
  go_wp2
  go_ret
  exact ⟨ret_bool (by rw [← HQ.out]; exact decide_eq_decide.2 HY.out), rfl⟩
set_option maxHeartbeats 1000000 in
theorem cHas1 (u : Value) (l : List Int) (x : Int) (K : Nat) (q : Bool) (hq : decide (x ∈ l) = q) (w : World) (hu : ShowI w u l) (hK : w.cell? ⟨K, 0, none⟩ = some (.int .i64 x)) :
    Calls Try.prog 29 #[u, .pointer (some ⟨K, 0, none⟩)] w fun e w' => e = .returned (.bool q) ∧ w' = w := by
  go_enter Try.func29, Try.ntmps29
  go_wp2_with fail
  refine (cContains u l x q hq w hu).mono ?_
  rintro e w1 ⟨rfl, rfl⟩
  go_wp2
  go_ret
  exact ⟨rfl, rfl⟩
section
variable {w : World} {T : TypeId} {B g n lim : Nat} {vs : Nat → Value} {f : F}
theorem NearG.shows (h : NearG w T B g vs n lim f) {i : Nat} (hi : i < n) : ShowI w (vs i) (f i) := own_i (h.row i hi)
set_option maxHeartbeats 4000000 in
set_option maxRecDepth 100000 in
theorem cIndexFunc (h : NearG w T B g vs n lim f) (x : Int) (K : Nat) (hK : w.cell? ⟨K, 0, none⟩ = some (.int .i64 x)) :
    Calls Try.prog 31 #[.slice (some ⟨g, 0, none⟩) n n, .func (.func 29) #[] #[.pointer (some ⟨K, 0, none⟩)]] w fun e w' => (∃ y : Int, e = .returned (.int .i64 y) ∧ (0 ≤ y ↔ hasB f n x = true)) ∧ w' = w := by
  have HA := Lib.hid h
  have hn := h.n1
  clear h
  go_enter Try.func31, Try.ntmps31
  go_wp2
  go_loopw [8] (fun i wr => ∃ k : Nat, k ≤ n ∧ i = .int .i64 k ∧ Hid (∀ j, j < k → x ∉ f j) ∧ wr = w) (fun i _ => n - (intOf i).toNat)
  case atStart => exact ⟨0, by omega, rfl, Lib.hid (fun j hj => by omega), rfl⟩
  case round =>
    obtain ⟨k, hk, rfl, HN, rfl⟩ := hrel
    by_cases hlt : k < n
    · have c1 := HA.out.tab.cell hlt
      have hs := HA.out.shows hlt
      have HT : Hid (x ∈ f k → hasB f n x = true) := Lib.hid (fun e => hasB_iff.2 ⟨k, hlt, e⟩)
      have HF : Hid (x ∉ f k → ∀ j, j < k + 1 → x ∉ f j) := Lib.hid (fun e j hj => by
        by_cases ej : j = k
        · subst ej; exact e
        · exact HN.out j (by omega))
      obtain ⟨q, hq⟩ : ∃ q, decide (x ∈ f k) = q := ⟨_, rfl⟩
      have HQ := Lib.hid hq
      have HS := Lib.hid hs
      generalize vs k = v at c1 HS
      clear HN hq hs
      go_wp2_with fail
      refine (cHas1 v (f k) x K q HQ.out _ HS.out hK).mono ?_
      rintro e w1 ⟨rfl, rfl⟩
      cases q with
      | true =>
        have HT1 := Lib.hid (HT.out (of_decide_eq_true HQ.out))
        clear HT HF HQ
        go_wp2
        go_ret
        exact ⟨⟨_, rfl, fun _ => HT1.out, fun _ => by omega⟩, rfl⟩
      | false =>
        have HF1 := Lib.hid (HF.out (of_decide_eq_false HQ.out))
        clear HT HF HQ
        go_wp2
        go_roundw
        case rel => exact ⟨k + 1, by omega, by go_num, HF1, trivial⟩
        case measure => simp [intOf]; omega
    · obtain rfl : k = n := by omega
      go_wp2
      go_ret
      exact ⟨⟨_, rfl, fun e => by omega, fun e => by
        obtain ⟨i, hi, hx⟩ := hasB_iff.1 e
        exact absurd hx (HN.out i hi)⟩, rfl⟩
set_option maxHeartbeats 1000000 in
theorem cContainsFunc (h : NearG w T B g vs n lim f) (x : Int) (K : Nat) (hK : w.cell? ⟨K, 0, none⟩ = some (.int .i64 x)) (q : Bool) (hq : hasB f n x = q) :
    Calls Try.prog 28 #[.slice (some ⟨g, 0, none⟩) n n, .func (.func 29) #[] #[.pointer (some ⟨K, 0, none⟩)]] w fun e w' => e = .returned (.bool q) ∧ w' = w := by
  have HQ := Lib.hid hq
  clear hq
  go_enter Try.func28, Try.ntmps28
  go_wp2_with fail
  refine (cIndexFunc h x K hK).mono ?_
  rintro e w1 ⟨⟨y, rfl, hy⟩, rfl⟩
  have HY := Lib.hid hy
  clear hy
  go_wp2
  go_ret
  exact ⟨ret_bool (by rw [← HQ.out, Bool.eq_iff_iff, decide_eq_true_iff]; exact HY.out), rfl⟩
set_option maxHeartbeats 2000000 in
set_option maxRecDepth 100000 in
theorem cHas (h : NearG w 48 B g vs n lim f) (x : Int) (q : Bool) (hq : hasB f n x = q) :
    Calls Try.prog 18 #[.pointer (some ⟨B, 0, none⟩), .int .i64 x] w fun e w' => e = .returned (.bool q) ∧ Below w.heap.size w w' := by
  have HA := Lib.hid h
  obtain ⟨c0, c1⟩ := h.self
  have hlt := h.lt
  clear h
  go_enter Try.func18, Try.ntmps18
  go_wp2_with fail
  refine (cContainsFunc (HA.out.below (below_one (Below.refl _ _) _)) x w.heap.size (self_cell (heap_new _ _) 0 _ rfl) q hq).mono ?_
  rintro e w1 ⟨rfl, rfl⟩
  go_wp2
  go_ret
  exact ⟨rfl, below_one (Below.refl _ _) _⟩
end
end Go.Proofs.Ytpmlmpkjmgebnaa
