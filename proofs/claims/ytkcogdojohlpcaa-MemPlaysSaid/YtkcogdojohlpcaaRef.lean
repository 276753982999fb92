/-
  The document's accesses: Load, Store, Cas, Cas2, Add.
-/
import Derived.Test.YtkcogdojohlpcaaAcc
set_option linter.unusedVariables false
set_option linter.unusedSimpArgs false
namespace Go.Proofs.Ytkcogdojohlpcaa
open Go Go.RowKit

section
variable {w : World} {a b n c : Nat} {F : Nat → Int}
set_option maxHeartbeats 1000000 in
theorem rThereBad (h : RefAt w a b n F c) (i : Int) (m : Nat) (hm1 : 1 ≤ m) (hm : m ≤ 2) (hi : okAt n i m = false) :
    Calls Try.prog 32 #[.pointer (some ⟨a, 0, none⟩), .int .i64 i, .int .i64 m] w fun e w' => e = .returned (.int .i64 9) ∧ Kept (fun _ => False) w w' := by
  obtain ⟨c0, c1, f1⟩ := h.cells
  have h1 := h.n1
  have h2 := h.n2
  clear h
  have hi' : i < 0 ∨ (0 ≤ i ∧ (n : Int) ≤ i) ∨ (0 ≤ i ∧ i < n ∧ m = 2 ∧ (n : Int) ≤ i + 1) := by
    simp only [okAt, Bool.and_eq_false_iff, decide_eq_false_iff_not] at hi
    omega
  clear hi
  rcases hi' with hi | ⟨h0, hi⟩ | ⟨h0, hi, hm2, h3⟩
  · go_enter Try.func32, Try.ntmps32
    go_wp2
    go_ret
    exact ⟨rfl, Kept.refl _ _⟩
  · go_enter Try.func32, Try.ntmps32
    go_wp2
    go_ret
    exact ⟨rfl, Kept.refl _ _⟩
  · subst hm2
    go_enter Try.func32, Try.ntmps32
    go_wp2
    go_ret
    exact ⟨rfl, Kept.refl _ _⟩
set_option maxHeartbeats 1000000 in
theorem rThere (h : RefAt w a b n F c) (i m : Nat) (hm : m = 1 ∨ m = 2) (hi : i + m ≤ n) (hc : c ≤ 1000000) :
    Calls Try.prog 32 #[.pointer (some ⟨a, 0, none⟩), .int .i64 i, .int .i64 m] w fun e w' => e = .returned (.int .i64 0) ∧ RefAt w' a b n F (c + 1) ∧ Kept (fun x => x = a ∨ x = b) w w' := by
  obtain ⟨c0, c1, f1⟩ := h.cells
  have h1 := h.n1
  have h2 := h.n2
  have HH := Lib.hid h
  clear h
  rcases hm with rfl | rfl
  · go_enter Try.func32, Try.ntmps32
    go_wp2
    go_ret
    exact ⟨rfl, HH.out.count (c + 1), (Kept.refl _ _).setCell (.inl rfl) _⟩
  · go_enter Try.func32, Try.ntmps32
    go_wp2
    go_ret
    exact ⟨rfl, HH.out.count (c + 1), (Kept.refl _ _).setCell (.inl rfl) _⟩

set_option maxHeartbeats 1000000 in
theorem rLoadBad (h : RefAt w a b n F c) (i : Int) (hi : okAt n i 1 = false) :
    Calls Try.prog 25 #[.pointer (some ⟨a, 0, none⟩), .int .i64 i] w fun e w' => e = .returned (.tuple #[.int .u64 0, .int .i64 9]) ∧ Kept (fun _ => False) w w' := by
  have HI := Lib.hid hi
  clear hi
  go_enter Try.func25, Try.ntmps25
  go_wp2_with fail
  refine (rThereBad h i 1 (by decide) (by decide) HI.out).mono ?_
  rintro e w1 ⟨rfl, hk⟩
  go_wp2
  go_ret2
  exact ⟨rfl, hk⟩
set_option maxHeartbeats 1000000 in
theorem rLoad (h : RefAt w a b n F c) (i : Nat) (hi : i < n) (hc : c ≤ 1000000) :
    Calls Try.prog 25 #[.pointer (some ⟨a, 0, none⟩), .int .i64 i] w fun e w' => e = .returned (.tuple #[.int .u64 (F i), .int .i64 0]) ∧ RefAt w' a b n F (c + 1) ∧ Kept (fun x => x = a ∨ x = b) w w' := by
  have hn := h.n2
  go_enter Try.func25, Try.ntmps25
  go_wp2_with fail
  refine (rThere h i 1 (.inl rfl) (by omega) hc).mono ?_
  rintro e w1 ⟨rfl, hm, hk⟩
  obtain ⟨c0, c1, f1⟩ := hm.cells
  obtain ⟨d0, g0⟩ := hm.word hi
  have HM := Lib.hid hm
  clear hm
  go_wp2
  go_ret2
  exact ⟨rfl, HM.out, hk⟩
set_option maxHeartbeats 1000000 in
theorem rStoreBad (h : RefAt w a b n F c) (i v : Int) (hi : okAt n i 1 = false) :
    Calls Try.prog 26 #[.pointer (some ⟨a, 0, none⟩), .int .i64 i, .int .u64 v] w fun e w' => e = .returned (.int .i64 9) ∧ Kept (fun _ => False) w w' := by
  have HI := Lib.hid hi
  clear hi
  go_enter Try.func26, Try.ntmps26
  go_wp2_with fail
  refine (rThereBad h i 1 (by decide) (by decide) HI.out).mono ?_
  rintro e w1 ⟨rfl, hk⟩
  go_wp2
  go_ret
  exact ⟨rfl, hk⟩
set_option maxHeartbeats 1000000 in
theorem rStore (h : RefAt w a b n F c) (i : Nat) (v : Int) (hi : i < n) (hc : c ≤ 1000000) :
    Calls Try.prog 26 #[.pointer (some ⟨a, 0, none⟩), .int .i64 i, .int .u64 v] w fun e w' => e = .returned (.int .i64 0) ∧ RefAt w' a b n (fun j => if j = i then v else F j) (c + 1) ∧ Kept (fun x => x = a ∨ x = b) w w' := by
  have hn := h.n2
  go_enter Try.func26, Try.ntmps26
  go_wp2_with fail
  refine (rThere h i 1 (.inl rfl) (by omega) hc).mono ?_
  rintro e w1 ⟨rfl, hm, hk⟩
  obtain ⟨c0, c1, f1⟩ := hm.cells
  obtain ⟨d0, g0⟩ := hm.word hi
  have HM := Lib.hid hm
  clear hm
  go_wp2
  go_ret
  exact ⟨rfl, HM.out.store i v, hk.setCell (.inr rfl) _⟩
set_option maxHeartbeats 1000000 in
theorem rAddBad (h : RefAt w a b n F c) (i v : Int) (hi : okAt n i 1 = false) :
    Calls Try.prog 29 #[.pointer (some ⟨a, 0, none⟩), .int .i64 i, .int .u64 v] w fun e w' => e = .returned (.tuple #[.int .u64 0, .int .i64 9]) ∧ Kept (fun _ => False) w w' := by
  have HI := Lib.hid hi
  clear hi
  go_enter Try.func29, Try.ntmps29
  go_wp2_with fail
  refine (rThereBad h i 1 (by decide) (by decide) HI.out).mono ?_
  rintro e w1 ⟨rfl, hk⟩
  go_wp2
  go_ret2
  exact ⟨rfl, hk⟩
set_option maxHeartbeats 1000000 in
theorem rAdd (h : RefAt w a b n F c) (i : Nat) (v : Int) (hi : i < n) (hc : c ≤ 1000000) :
    Calls Try.prog 29 #[.pointer (some ⟨a, 0, none⟩), .int .i64 i, .int .u64 v] w fun e w' => e = .returned (.tuple #[.int .u64 (F i), .int .i64 0]) ∧ RefAt w' a b n (fun j => if j = i then (IntKind.u64.wrap (F i + v)) else F j) (c + 1) ∧ Kept (fun x => x = a ∨ x = b) w w' := by
  have hn := h.n2
  go_enter Try.func29, Try.ntmps29
  go_wp2_with fail
  refine (rThere h i 1 (.inl rfl) (by omega) hc).mono ?_
  rintro e w1 ⟨rfl, hm, hk⟩
  obtain ⟨c0, c1, f1⟩ := hm.cells
  obtain ⟨d0, g0⟩ := hm.word hi
  have HM := Lib.hid hm
  clear hm
  go_wp2
  go_ret2
  exact ⟨rfl, HM.out.store i _, hk.setCell (.inr rfl) _⟩
set_option maxHeartbeats 1000000 in
theorem rCasBad (h : RefAt w a b n F c) (i old to : Int) (hi : okAt n i 1 = false) :
    Calls Try.prog 27 #[.pointer (some ⟨a, 0, none⟩), .int .i64 i, .int .u64 old, .int .u64 to] w fun e w' => e = .returned (.tuple #[.bool false, .int .i64 9]) ∧ Kept (fun _ => False) w w' := by
  have HI := Lib.hid hi
  clear hi
  go_enter Try.func27, Try.ntmps27
  go_wp2_with fail
  refine (rThereBad h i 1 (by decide) (by decide) HI.out).mono ?_
  rintro e w1 ⟨rfl, hk⟩
  go_wp2
  go_ret2
  exact ⟨rfl, hk⟩
set_option maxHeartbeats 1000000 in
theorem rCasYes (h : RefAt w a b n F c) (i : Nat) (old to : Int) (hi : i < n) (hc : c ≤ 1000000) (ho : F i = old) :
    Calls Try.prog 27 #[.pointer (some ⟨a, 0, none⟩), .int .i64 i, .int .u64 old, .int .u64 to] w fun e w' => e = .returned (.tuple #[.bool true, .int .i64 0]) ∧ RefAt w' a b n (fun j => if j = i then to else F j) (c + 1) ∧ Kept (fun x => x = a ∨ x = b) w w' := by
  have hn := h.n2
  subst ho
  go_enter Try.func27, Try.ntmps27
  go_wp2_with fail
  refine (rThere h i 1 (.inl rfl) (by omega) hc).mono ?_
  rintro e w1 ⟨rfl, hm, hk⟩
  obtain ⟨c0, c1, f1⟩ := hm.cells
  obtain ⟨d0, g0⟩ := hm.word hi
  have HM := Lib.hid hm
  clear hm
  go_wp2
  go_ret2
  exact ⟨rfl, HM.out.store i _, hk.setCell (.inr rfl) _⟩
set_option maxHeartbeats 1000000 in
theorem rCasNo (h : RefAt w a b n F c) (i : Nat) (old to : Int) (hi : i < n) (hc : c ≤ 1000000) (ho : F i ≠ old) :
    Calls Try.prog 27 #[.pointer (some ⟨a, 0, none⟩), .int .i64 i, .int .u64 old, .int .u64 to] w fun e w' => e = .returned (.tuple #[.bool false, .int .i64 0]) ∧ RefAt w' a b n F (c + 1) ∧ Kept (fun x => x = a ∨ x = b) w w' := by
  have hn := h.n2
  have hne : (F i != old) = true := by simpa using ho
  go_enter Try.func27, Try.ntmps27
  go_wp2_with fail
  refine (rThere h i 1 (.inl rfl) (by omega) hc).mono ?_
  rintro e w1 ⟨rfl, hm, hk⟩
  obtain ⟨c0, c1, f1⟩ := hm.cells
  obtain ⟨d0, g0⟩ := hm.word hi
  have HM := Lib.hid hm
  clear hm
  go_wp2
  go_ret2
  exact ⟨rfl, HM.out, hk⟩
set_option maxHeartbeats 1000000 in
theorem rCas2Bad (h : RefAt w a b n F c) (i old second to other : Int) (hi : okAt n i 2 = false) :
    Calls Try.prog 28 #[.pointer (some ⟨a, 0, none⟩), .int .i64 i, .int .u64 old, .int .u64 second, .int .u64 to, .int .u64 other] w fun e w' => e = .returned (.tuple #[.bool false, .int .i64 9]) ∧ Kept (fun _ => False) w w' := by
  have HI := Lib.hid hi
  clear hi
  go_enter Try.func28, Try.ntmps28
  go_wp2_with fail
  refine (rThereBad h i 2 (by decide) (by decide) HI.out).mono ?_
  rintro e w1 ⟨rfl, hk⟩
  go_wp2
  go_ret2
  exact ⟨rfl, hk⟩
set_option maxHeartbeats 1000000 in
theorem rCas2Yes (h : RefAt w a b n F c) (i : Nat) (old second to other : Int) (hi : i + 1 < n) (hc : c ≤ 1000000) (ho : F i = old) (ho2 : F (i + 1) = second) :
    Calls Try.prog 28 #[.pointer (some ⟨a, 0, none⟩), .int .i64 i, .int .u64 old, .int .u64 second, .int .u64 to, .int .u64 other] w fun e w' => e = .returned (.tuple #[.bool true, .int .i64 0]) ∧ RefAt w' a b n (fun j => if j = i + 1 then other else if j = i then to else F j) (c + 1) ∧ Kept (fun x => x = a ∨ x = b) w w' := by
  have hn := h.n2
  subst ho ho2
  go_enter Try.func28, Try.ntmps28
  go_wp2_with fail
  refine (rThere h i 2 (.inr rfl) (by omega) hc).mono ?_
  rintro e w1 ⟨rfl, hm, hk⟩
  obtain ⟨c0, c1, f1⟩ := hm.cells
  obtain ⟨d0, g0⟩ := hm.word (show i < n by omega)
  obtain ⟨d1, g1⟩ := hm.word hi
  obtain ⟨e0, _, _⟩ := (hm.store i to).cells
  obtain ⟨e1, k1⟩ := (hm.store i to).word hi
  have HM := Lib.hid hm
  clear hm
  go_wp2
  go_ret2
  exact ⟨rfl, (HM.out.store i to).store (i + 1) other, (hk.setCell (.inr rfl) _).setCell (.inr rfl) _⟩
set_option maxHeartbeats 1000000 in
theorem rCas2No (h : RefAt w a b n F c) (i : Nat) (old second to other : Int) (hi : i + 1 < n) (hc : c ≤ 1000000) (ho : ¬ (F i = old ∧ F (i + 1) = second)) :
    Calls Try.prog 28 #[.pointer (some ⟨a, 0, none⟩), .int .i64 i, .int .u64 old, .int .u64 second, .int .u64 to, .int .u64 other] w fun e w' => e = .returned (.tuple #[.bool false, .int .i64 0]) ∧ RefAt w' a b n F (c + 1) ∧ Kept (fun x => x = a ∨ x = b) w w' := by
  have hn := h.n2
  by_cases h1 : F i = old
  · have h2 : (F (i + 1) != second) = true := by simpa using fun h2 => ho ⟨h1, h2⟩
    clear ho
    subst h1
    go_enter Try.func28, Try.ntmps28
    go_wp2_with fail
    refine (rThere h i 2 (.inr rfl) (by omega) hc).mono ?_
    rintro e w1 ⟨rfl, hm, hk⟩
    obtain ⟨c0, c1, f1⟩ := hm.cells
    obtain ⟨d0, g0⟩ := hm.word (show i < n by omega)
    obtain ⟨d1, g1⟩ := hm.word hi
    have HM := Lib.hid hm
    clear hm
    go_wp2
    go_ret2
    exact ⟨rfl, HM.out, hk⟩
  · have h2 : (F i != old) = true := by simpa using h1
    clear ho h1
    go_enter Try.func28, Try.ntmps28
    go_wp2_with fail
    refine (rThere h i 2 (.inr rfl) (by omega) hc).mono ?_
    rintro e w1 ⟨rfl, hm, hk⟩
    obtain ⟨c0, c1, f1⟩ := hm.cells
    obtain ⟨d0, g0⟩ := hm.word (show i < n by omega)
    obtain ⟨d1, g1⟩ := hm.word hi
    have HM := Lib.hid hm
    clear hm
    go_wp2
    go_ret2
    exact ⟨rfl, HM.out, hk⟩
end
end Go.Proofs.Ytkcogdojohlpcaa
