/-
  The key at an object: the program's, and the document's.
-/
import Derived.Test.YtnnfmlbgoplnaaaLp
set_option linter.unusedVariables false
set_option linter.unusedSimpArgs false
namespace Go.Proofs.Ytnnfmlbgoplnaaa
open Go Go.RowKit

theorem ret_u {a b : Int} (h : a = b) : Ending.returned (.int .u64 a) = .returned (.int .u64 b) := by rw [h]
theorem rot_words {K t : Nat} (hK : K < M64) (ht : t < 64) : Go.bits .or .u64 (IntKind.u64.wrap ((K : Int) * 2 ^ t)) ((K : Int) / 2 ^ (64 - t)) = (rotN K t : Nat) := by
  have h1 : IntKind.u64.wrap ((K : Int) * 2 ^ t) = (((K <<< t) % 18446744073709551616 : Nat) : Int) := by
    rw [IntKind.wrap_u64, Nat.shiftLeft_eq]
    simp
  have h2 : ((K : Int) / 2 ^ (64 - t)) = ((K >>> (64 - t) : Nat) : Int) := by
    rw [Nat.shiftRight_eq_div_pow]
    simp
  rw [h1, h2, u64_or_nat _ _ (Nat.mod_lt _ (by decide)) (Nat.lt_of_le_of_lt (Nat.shiftRight_le _ _) hK)]
  rfl
theorem der_words {K A t : Nat} (hK : K < M64) (ht : 5 * A % 64 = t) : IntKind.u64.wrap (Go.bits .or .u64 (IntKind.u64.wrap ((K : Int) * 2 ^ t)) ((K : Int) / 2 ^ (64 - t)) + (A : Int) * 2654435769) = der (K : Int) (A : Int) := by
  rw [rot_words hK (by omega), IntKind.wrap_u64]
  unfold der derN
  rw [Int.toNat_natCast, Int.toNat_natCast, ht]
  unfold CC M64
  omega
set_option maxHeartbeats 2000000 in
theorem cDerived (k a : Int) (hk : 0 ≤ k ∧ k < 18446744073709551616) (ha : okO a) (w : World) :
    Calls Try.prog 96 #[.int .u64 k, .int .i64 a] w fun e w' => e = .returned (.int .u64 (der k a)) ∧ Below w.heap.size w w' := by
  obtain ⟨K, rfl⟩ : ∃ K : Nat, k = K := ⟨k.toNat, by omega⟩
  obtain ⟨A, rfl⟩ : ∃ A : Nat, a = A := ⟨a.toNat, by have := ha.1; omega⟩
  have hA : A < 16 := by have := ha.2; omega
  obtain ⟨t, ht⟩ : ∃ t : Nat, 5 * A % 64 = t := ⟨_, rfl⟩
  have HD := Lib.hid (der_words (K := K) (by have := hk.2; unfold M64; omega) ht)
  have hti : (5 * (A : Int)) % 64 = (t : Int) := by omega
  have htr : (t : Int) ≤ 63 := by omega
  go_enter Try.func96, Try.ntmps96
  go_wp2
  go_quiet (fail)
  go_wp2
  go_ret
  exact ⟨ret_u HD.out, below_drewN (Below.refl _ _) _⟩
theorem turn_words {x : Nat} (hx : x < M64) : Go.bits .or .u64 (IntKind.u64.wrap ((x : Int) * 2)) ((x : Int) / 9223372036854775808) = (rotN x 1 : Nat) := rot_words (t := 1) hx (by omega)
theorem add_words (x : Nat) : IntKind.u64.wrap ((x : Int) + 2654435769) = ((x + CC) % M64 : Nat) := by
  rw [IntKind.wrap_u64]
  unfold CC M64
  omega
set_option maxHeartbeats 2000000 in
theorem rTurned (k a : Int) (hk : 0 ≤ k ∧ k < 18446744073709551616) (ha : okO a) (w : World) :
    Calls Try.prog 97 #[.int .u64 k, .int .i64 a] w fun e w' => e = .returned (.int .u64 (der k a)) ∧ Below w.heap.size w w' := by
  obtain ⟨K, rfl⟩ : ∃ K : Nat, k = K := ⟨k.toNat, by omega⟩
  obtain ⟨A, rfl⟩ : ∃ A : Nat, a = A := ⟨a.toNat, by have := ha.1; omega⟩
  have hA : A < 16 := by have := ha.2; omega
  have hK : K < M64 := by have := hk.2; unfold M64; omega
  have HK := Lib.hid hK
  have HD : Hid ((addsN (turnN K (5 * A)) A : Int) = der (K : Int) (A : Int)) := Lib.hid (by rw [der_turned hK]; rfl)
  clear hK hk ha
  go_enter Try.func97, Try.ntmps97
  go_wp2
  go_loopw [5, 6] (fun x i wr => ∃ n : Nat, n ≤ 5 * A ∧ i = .int .i64 n ∧ x = .int .u64 (turnN K n : Nat) ∧ Hid (Below w.heap.size w wr)) (fun _ i _ => 5 * A - (intOf i).toNat)
  case atStart => exact ⟨0, by omega, rfl, rfl, Lib.hid (Below.refl _ _)⟩
  case round =>
    obtain ⟨n, hn, rfl, rfl, HW⟩ := hrel
    by_cases hlt : n < 5 * A
    · have HN : Hid (Go.bits .or .u64 (IntKind.u64.wrap ((turnN K n : Nat) * 2)) ((turnN K n : Nat) / 9223372036854775808) = (turnN K (n + 1) : Nat)) := Lib.hid (turn_words (turnN_lt HK.out n))
      generalize turnN K n = x at HN
      go_wp2
      go_roundw
      case rel => exact ⟨n + 1, by omega, by go_num, by rw [HN.out], HW⟩
      case measure => simp [intOf]; omega
    · obtain rfl : n = 5 * A := by omega
      go_wp2
      go_loopw [5, 7] (fun x i wr => ∃ n : Nat, n ≤ A ∧ i = .int .i64 n ∧ x = .int .u64 (addsN (turnN K (5 * A)) n : Nat) ∧ Hid (Below w.heap.size w wr)) (fun _ i _ => A - (intOf i).toNat)
      case atStart => exact ⟨0, by omega, rfl, rfl, HW⟩
      case round =>
        clear HW
        obtain ⟨n, hn, rfl, rfl, HW⟩ := hrel
        by_cases hlt : n < A
        · have HN : Hid (IntKind.u64.wrap ((addsN (turnN K (5 * A)) n : Nat) + 2654435769) = (addsN (turnN K (5 * A)) (n + 1) : Nat)) := Lib.hid (add_words _)
          generalize addsN (turnN K (5 * A)) n = x at HN
          go_wp2
          go_roundw
          case rel => exact ⟨n + 1, by omega, by go_num, by rw [HN.out], HW⟩
          case measure => simp [intOf]; omega
        · obtain rfl : n = A := by omega
          go_wp2
          go_ret
          exact ⟨ret_u HD.out, HW.out⟩
end Go.Proofs.Ytnnfmlbgoplnaaa
