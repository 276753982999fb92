/-
  How many pages a block has, whether a page may be a head, whether a block may start at a page; whether two tables are the same.
-/
import Derived.Test.YtpohfecbogppkaaMem
set_option linter.unusedVariables false
set_option linter.unusedSimpArgs false
namespace Go.Proofs.Ytpohfecbogppkaa
open Go Go.RowKit

set_option maxHeartbeats 1000000 in
theorem cPages (o : Int) (S : Nat) (h0 : 0 ≤ o) (h1 : o ≤ 10) (hS : (2 : Int) ^ o.toNat = (S : Int)) (hS1 : S ≤ 1024) (w : World) :
    Calls Try.prog 54 #[.int .i64 o] w fun e w' => e = .returned (.int .i64 S) ∧ w' = w := by
  go_enter Try.func54, Try.ntmps54
  go_wp2
  go_ret
  exact ⟨rfl, rfl⟩
set_option maxHeartbeats 4000000 in
theorem cIsHead (k o c : Int) (q : Bool) (hq : (⟨k, o, c⟩ : Pg).ok = q) (w : World) :
    Calls Try.prog 52 #[.agg #[.int .i64 k, .int .i64 o, .int .i64 c]] w fun e w' => e = .returned (.bool q) ∧ Below w.heap.size w w' := by
  have hb0 : ∀ o, Below w.heap.size w (w.alloc o) := fun o => below_one (Below.refl _ _) o
  have HQ := Lib.hid hq
  clear hq
  go_enter Try.func52, Try.ntmps52
  go_wp2
  all_goals go_ret
  all_goals (refine ⟨ret_bool ?_, hb0 _⟩; rw [← HQ.out]; unfold Pg.ok; simp_all; try first | rfl | omega)
set_option maxHeartbeats 4000000 in
theorem cRHead (k o c : Int) (q : Bool) (hq : (⟨k, o, c⟩ : Pg).ok = q) (w : World) :
    Calls Try.prog 57 #[.agg #[.int .i64 k, .int .i64 o, .int .i64 c]] w fun e w' => e = .returned (.bool q) ∧ Below w.heap.size w w' := by
  have hb0 : ∀ o, Below w.heap.size w (w.alloc o) := fun o => below_one (Below.refl _ _) o
  have HQ := Lib.hid hq
  clear hq
  go_enter Try.func57, Try.ntmps57
  go_wp2
  all_goals go_ret
  all_goals (refine ⟨ret_bool ?_, hb0 _⟩; rw [← HQ.out]; unfold Pg.ok; simp_all; try omega)
set_option maxHeartbeats 4000000 in
theorem cFits (many : Nat) (page o : Int) (S : Nat) (q : Bool) (h0 : 0 ≤ o) (h1 : o ≤ 10) (hS : (2 : Int) ^ o.toNat = (S : Int)) (hS1 : 1 ≤ S ∧ S ≤ 1024) (hm : many ≤ 1024) (hq : decide (0 ≤ page ∧ page + S ≤ many ∧ page.toNat % S = 0) = q) (w : World) :
    Calls Try.prog 53 #[.int .i64 many, .int .i64 page, .int .i64 o] w fun e w' => e = .returned (.bool q) ∧ w' = w := by
  have HQ := Lib.hid hq
  clear hq
  by_cases hp : 0 ≤ page
  rotate_left
  · have HQ1 : Hid (q = false) := Lib.hid (by rw [← HQ.out]; exact decide_eq_false (fun h => hp h.1))
    clear HQ
    go_enter Try.func53, Try.ntmps53
    go_wp2
    go_ret
    exact ⟨ret_bool HQ1.out.symm, rfl⟩
  obtain ⟨p, rfl⟩ : ∃ p : Nat, page = (p : Int) := ⟨page.toNat, by omega⟩
  obtain ⟨r, hr⟩ : ∃ r : Nat, p % S = r := ⟨_, rfl⟩
  have hri : (p : Int) % (S : Int) = (r : Int) := by omega
  by_cases h2 : r = 0
  rotate_left
  · have HQ1 : Hid (q = false) := Lib.hid (by rw [← HQ.out]; exact decide_eq_false (fun h => h2 (by have := h.2.2; rw [Int.toNat_natCast] at this; omega)))
    clear HQ hr
    go_enter Try.func53, Try.ntmps53
    go_wp2_with (go_at_call 54; refine (cPages o S h0 h1 hS hS1.2 _).mono ?_; rintro e w' ⟨rfl, rfl⟩)
    go_ret
    exact ⟨ret_bool HQ1.out.symm, rfl⟩
  subst h2
  by_cases h3 : p + S ≤ many
  · have HQ1 : Hid (q = true) := Lib.hid (by rw [← HQ.out]; exact decide_eq_true ⟨hp, by omega, by rw [Int.toNat_natCast]; exact hr⟩)
    clear HQ hr
    go_enter Try.func53, Try.ntmps53
    go_wp2_with (go_at_call 54; refine (cPages o S h0 h1 hS hS1.2 _).mono ?_; rintro e w' ⟨rfl, rfl⟩)
    go_ret
    exact ⟨ret_bool (by rw [HQ1.out]; simp; omega), rfl⟩
  · have HQ1 : Hid (q = false) := Lib.hid (by rw [← HQ.out]; exact decide_eq_false (fun h => h3 (by have := h.2.1; omega)))
    clear HQ hr
    go_enter Try.func53, Try.ntmps53
    go_wp2_with (go_at_call 54; refine (cPages o S h0 h1 hS hS1.2 _).mono ?_; rintro e w' ⟨rfl, rfl⟩)
    go_ret
    exact ⟨ret_bool (by rw [HQ1.out]; simp; omega), rfl⟩
end Go.Proofs.Ytpohfecbogppkaa
