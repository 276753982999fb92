/-
  aligned, up, slab of the document's answer.
-/
import Derived.Test.YtghmopeaphandaaLay
set_option linter.unusedVariables false
set_option linter.unusedSimpArgs false
namespace Go.Proofs.Ytghmopeaphandaa
open Go Go.RowKit

theorem wpList_storeI {ops : Array Oper} {rest : List Oper} {o : Oper} {a : Act} {w : World} {Q : Exit → Act → World → Prop} (hgd : o.guard = none) (x y : Operand) (ho : o.op = .store 3 x y)
    (g j : Nat) (v : Int) (l l' : Ly) (hx : a.eval x = .pointer (some ⟨g, j, none⟩)) (hy : a.eval y = .int .i64 v) (hg : LyAt w g l) (hj : j < 7) (hl : l.arr.setIfInBounds j (.int .i64 v) = l'.arr)
    (h : ∀ w', LyAt w' g l' → Kept (· = g) w w' → wpList Try.prog ops Q rest (a.put o.dst undef) w') : wpList Try.prog ops Q (o :: rest) a w := by
  have hc : w.cell? ⟨g, j, none⟩ = some (l.arr[j]'(by simpa using hj)) := self_cell hg j _ (Array.getElem?_eq_getElem _)
  have hf := self_free hg j
  have hn := h (w.setCell ⟨g, j, none⟩ (.int .i64 v)) (by unfold LyAt; rw [← hl]; exact cells_set hg j _) (Kept.setCell (S := (· = g)) (p := ⟨g, j, none⟩) (Kept.refl _ _) rfl _)
  refine wpList_plain hgd fun K hK => ?_
  have h2 := hK _ _ hn
  unfold Oper.wp execOp
  simp only [ho, hx, hy]
  simp [go_sem, hc, hf]
  exact h2
theorem okA_next {K z : Int} (h : okA K) (hz : okA z) : (okA (K * 2) ∨ K * 2 = 128) ∧ (z < K * 2 → z ≤ K) := by
  rcases h with rfl | rfl | rfl | rfl | rfl | rfl | rfl <;> rcases hz with rfl | rfl | rfl | rfl | rfl | rfl | rfl <;> decide
theorem okA_le {K : Int} (h : okA K) : 1 ≤ K ∧ K ≤ 64 := by rcases h with rfl | rfl | rfl | rfl | rfl | rfl | rfl <;> decide
set_option maxHeartbeats 2000000 in
theorem rAligned (a : Int) (q : Bool) (hq : decide (okA a) = q) (w : World) : Calls Try.prog 20 #[.int .i64 a] w fun e w' => e = .returned (.bool q) ∧ w' = w := by
  have HQ := Lib.hid hq
  clear hq
  go_enter Try.func20, Try.ntmps20
  go_wp2
  go_loopw [3] (fun x wr => ∃ K : Int, x = .int .i64 K ∧ Hid ((okA K ∨ K = 128) ∧ ∀ z, okA z → z < K → a ≠ z) ∧ wr = w) (fun x _ => 128 - (intOf x).toNat)
  case atStart => exact ⟨1, rfl, Lib.hid ⟨Or.inl (by decide), fun z hz hl => by have := okA_le hz; omega⟩, rfl⟩
  case round =>
    obtain ⟨K, rfl, HK, rfl⟩ := hrel
    by_cases hK : K ≤ 64
    · have ho : okA K := HK.out.1.resolve_right (by omega)
      have hr := okA_le ho
      by_cases hak : a = K
      · have HX : Hid (true = q) := Lib.hid (by rw [← HQ.out]; exact (decide_eq_true (hak ▸ ho)).symm)
        have hqq : (a == K) = true := by simp [hak]
        clear hak ho HQ HK
        go_wp2
        try rw [Exit.noGoto_ret]
        go_ret
        exact ⟨ret_bool HX.out, rfl⟩
      · have HN : Hid ((okA (K * 2) ∨ K * 2 = 128) ∧ ∀ z, okA z → z < K * 2 → a ≠ z) := Lib.hid ⟨(okA_next ho (z := 1) (by decide)).1, fun z hz hl => by
          have h1 := (okA_next ho hz).2 hl
          by_cases e : z = K
          · rw [e]; exact hak
          · exact HK.out.2 z hz (by omega)⟩
        have hqq : (a == K) = false := by simp [hak]
        clear hak ho HK
        go_wp2
        go_roundw
        case rel => exact ⟨K * 2, by go_num, HN, by trivial⟩
        case measure => simp [intOf]; omega
    · have hK2 : K = 128 := HK.out.1.resolve_left (fun h => hK (okA_le h).2)
      have HX : Hid (false = q) := Lib.hid (by
        rw [← HQ.out]
        exact (decide_eq_false fun h => HK.out.2 a h (by have := okA_le h; omega) rfl).symm)
      clear HK HQ
      subst hK2
      go_wp2
      go_ret
      exact ⟨ret_bool HX.out, rfl⟩
theorem ru_mod (n u : Int) : ru n u % u = 0 := by unfold ru; exact Int.mul_emod_left _ _
theorem ru_ge {n u : Int} (hu : 1 ≤ u) : n ≤ ru n u ∧ ru n u ≤ n + u - 1 := by
  have h := Int.emod_add_mul_ediv (n + u - 1) u
  have h1 := Int.emod_lt_of_pos (n + u - 1) (b := u) (by omega)
  have h2 := Int.emod_nonneg (n + u - 1) (b := u) (by omega)
  unfold ru
  rw [Int.mul_comm]
  omega
theorem ru_done {n u m : Int} (hu : 1 ≤ u) (h1 : n ≤ m) (h2 : m ≤ ru n u) (h3 : m % u = 0) : ru n u = m := by
  obtain ⟨p, rfl⟩ := Int.dvd_of_emod_eq_zero h3
  have h5 : (n + u - 1) / u ≤ p := by
    have h4 : n + u - 1 < u * (p + 1) := by rw [Int.mul_add, Int.mul_one]; omega
    have := Int.ediv_lt_of_lt_mul (a := n + u - 1) (b := p + 1) (c := u) (by omega) (by rw [Int.mul_comm]; exact h4)
    omega
  have h6 : (n + u - 1) / u * u ≤ p * u := Int.mul_le_mul_of_nonneg_right h5 (by omega)
  unfold ru at h2 ⊢
  rw [Int.mul_comm u p] at h2 ⊢
  omega
theorem ru_more {n u m : Int} (hu : 1 ≤ u) (h2 : m ≤ ru n u) (h3 : m % u ≠ 0) : m + 1 ≤ ru n u := by
  have h4 : m ≠ ru n u := by
    rintro rfl
    exact h3 (ru_mod n u)
  omega
set_option maxHeartbeats 2000000 in
theorem rUp (n u r : Int) (h1 : 0 ≤ n ∧ n ≤ 4096) (h2 : 1 ≤ u ∧ u ≤ 64) (hr : ru n u = r) (w : World) : Calls Try.prog 21 #[.int .i64 n, .int .i64 u] w fun e w' => e = .returned (.int .i64 r) ∧ w' = w := by
  have hg := ru_ge (n := n) h2.1
  rw [hr] at hg
  have HR := Lib.hid hr
  clear hr
  go_enter Try.func21, Try.ntmps21
  go_wp2
  go_loopw [0] (fun x wr => ∃ m : Int, x = .int .i64 m ∧ n ≤ m ∧ m ≤ r ∧ wr = w) (fun x _ => 8192 - (intOf x).toNat)
  case atStart => exact ⟨n, rfl, by omega, by omega, rfl⟩
  case round =>
    obtain ⟨m, rfl, hm1, hm2, rfl⟩ := hrel
    have h5 : m.tmod u = m % u := Int.tmod_eq_emod_of_nonneg (by omega)
    have h6 : 0 ≤ m % u := Int.emod_nonneg _ (by omega)
    have h7 : m % u < u := Int.emod_lt_of_pos _ (by omega)
    by_cases h8 : m % u = 0
    · have HX : Hid (m = r) := Lib.hid (by rw [← HR.out]; exact (ru_done h2.1 hm1 (by rw [HR.out]; exact hm2) h8).symm)
      rw [h8] at h5
      clear h6 h7 h8
      go_wp2
      go_ret
      exact ⟨ret_int HX.out, rfl⟩
    · have HX : Hid (m + 1 ≤ r) := Lib.hid (by rw [← HR.out]; exact ru_more h2.1 (by rw [HR.out]; exact hm2) h8)
      obtain ⟨z, hz⟩ : ∃ z, m % u = z := ⟨_, rfl⟩
      rw [hz] at h5 h6 h7 h8
      clear hz
      have h9 : (z == 0) = false := by simp [h8]
      go_wp2
      go_roundw
      case rel => exact ⟨m + 1, by go_num, by omega, HX.out, by trivial⟩
      case measure => simp [intOf]; omega
end Go.Proofs.Ytghmopeaphandaa
