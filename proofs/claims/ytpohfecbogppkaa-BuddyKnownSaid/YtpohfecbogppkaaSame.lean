/-
  Same, of the document's answers: whether two tables are the same.
-/
import Derived.Test.YtpohfecbogppkaaHead
set_option linter.unusedVariables false
set_option linter.unusedSimpArgs false
namespace Go.Proofs.Ytpohfecbogppkaa
open Go Go.RowKit

theorem take_eq_succ {α : Type} (a b : List α) (k : Nat) (ha : k < a.length) (hb : k < b.length) (h : a.take k = b.take k) (he : a[k] = b[k]) : a.take (k + 1) = b.take (k + 1) := by
  rw [List.take_succ_eq_append_getElem ha, List.take_succ_eq_append_getElem hb, h, he]
theorem ne_of_at {α : Type} (a b : List α) (k : Nat) (ha : k < a.length) (hb : k < b.length) (he : a[k] ≠ b[k]) : a ≠ b := by
  rintro rfl
  exact he rfl
set_option maxHeartbeats 2000000 in
set_option maxRecDepth 100000 in
theorem cSameR (u v : Value) (a b : List Pg) (w : World) (hu : ShowP w u a) (hv : ShowP w v b) :
    Calls Try.prog 35 #[u, v] w fun e w' => e = .returned (.bool (decide (a = b))) ∧ Below w.heap.size w w' := by
  obtain ⟨ao, cap, rfl, hcap, hat⟩ := hu.form
  obtain ⟨bo, cbp, rfl, hcbp, hbt⟩ := hv.form
  clear hu hv
  by_cases hl : a.length = b.length
  · have hl1 : a.length ≤ b.length := by omega
    have hl2 : b.length ≤ a.length := by omega
    have HLE := Lib.hid hl
    have hne : ((a.length : Int) != (b.length : Int)) = false := by simp [hl]
    clear hl
    go_enter Try.func35, Try.ntmps35
    go_wp2
    go_loopw [5] (fun i wr => ∃ k : Nat, k ≤ a.length ∧ i = .int .i64 k ∧ a.take k = b.take k ∧ Below w.heap.size w wr) (fun i _ => a.length - (intOf i).toNat)
    case atStart => exact ⟨0, by omega, rfl, rfl, Below.refl _ _⟩
    case round =>
      obtain ⟨k, hk, rfl, htk, hb⟩ := hrel
      have HT := Lib.hid htk
      clear htk
      by_cases hlt : k < a.length
      · have hlb : k < b.length := by omega
        obtain ⟨b1, o1, rfl, c1, c2, c3⟩ := hat k hlt
        obtain ⟨b2, o2, rfl, e1, e2, e3⟩ := hbt k hlb
        rw [← pg_at a k hlt] at c1 c2 c3
        rw [← pg_at b k hlb] at e1 e2 e3
        replace c1 := cell_keep hb c1
        replace c2 := cell_keep hb c2
        replace c3 := cell_keep hb c3
        replace e1 := cell_keep hb e1
        replace e2 := cell_keep hb e2
        replace e3 := cell_keep hb e3
        have HS : Hid (a[k] = b[k] → a.take (k + 1) = b.take (k + 1)) := Lib.hid (take_eq_succ a b k hlt hlb HT.out)
        have HN : Hid (a[k] ≠ b[k] → a ≠ b) := Lib.hid (ne_of_at a b k hlt hlb)
        generalize a[k] = x at c1 c2 c3 HS HN
        generalize b[k] = y at e1 e2 e3 HS HN
        by_cases hxy : x = y
        · have heq : ∀ w', (Op.equalIn 10000 51 (.agg #[.int .i64 x.kind, .int .i64 x.order, .int .i64 x.cache]) (.agg #[.int .i64 y.kind, .int .i64 y.order, .int .i64 y.cache])).run Try.prog w' = .ok true w' := fun w' => eqinIs (decide_eq_true hxy)
          have hgd := guardP
          have HS1 := Lib.hid (HS.out hxy)
          clear HS HN hxy
          go_wp2
          go_quiet (fail)
          go_wp2
          go_roundw
          case rel => exact ⟨k + 1, by omega, by go_num, HS1.out, below_drewN hb _⟩
          case measure => simp [intOf]; omega
        · have heq : ∀ w', (Op.equalIn 10000 51 (.agg #[.int .i64 x.kind, .int .i64 x.order, .int .i64 x.cache]) (.agg #[.int .i64 y.kind, .int .i64 y.order, .int .i64 y.cache])).run Try.prog w' = .ok false w' := fun w' => eqinIs (decide_eq_false hxy)
          have hgd := guardP
          have HN1 := Lib.hid (HN.out hxy)
          clear HS HN hxy
          go_wp2
          go_quiet (fail)
          go_wp2
          go_ret
          exact ⟨ret_bool (by rw [decide_eq_false HN1.out]), below_drewN hb _⟩
      · have hke : k = a.length := by omega
        subst hke
        have HE : Hid (a = b) := Lib.hid (by have := HT.out; rwa [List.take_length, HLE.out, List.take_length] at this)
        go_wp2
        go_ret
        exact ⟨ret_bool (by rw [decide_eq_true HE.out]), hb⟩
  · have hne : ((a.length : Int) != (b.length : Int)) = true := by simp; omega
    have HN : Hid (a ≠ b) := Lib.hid (fun e => hl (by rw [e]))
    go_enter Try.func35, Try.ntmps35
    go_wp2
    go_ret
    exact ⟨ret_bool (by rw [decide_eq_false HN.out]), Below.refl _ _⟩
end Go.Proofs.Ytpohfecbogppkaa
