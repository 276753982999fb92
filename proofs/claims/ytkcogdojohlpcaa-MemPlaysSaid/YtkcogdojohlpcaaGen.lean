/-
  Each access of both memories, in one sentence each: what it answers and leaves, whether its words are there or not.
-/
import Derived.Test.YtkcogdojohlpcaaMops
import Derived.Test.YtkcogdojohlpcaaRef
set_option linter.unusedVariables false
set_option linter.unusedSimpArgs false
namespace Go.Proofs.Ytkcogdojohlpcaa
open Go Go.RowKit

def eOf (n : Nat) (i : Int) (m : Nat) : Int := if okAt n i m = true then 0 else 9
def upOf (n : Nat) (i : Int) (m c : Nat) : Nat := if okAt n i m = true then c + 1 else c
def vOf (n : Nat) (F : Nat → Int) (i : Int) : Int := if okAt n i 1 = true then F i.toNat else 0
def putAt (F : Nat → Int) (i : Nat) (v : Int) : Nat → Int := fun j => if j = i then v else F j
def fStore (n : Nat) (F : Nat → Int) (i v : Int) : Nat → Int := if okAt n i 1 = true then putAt F i.toNat v else F
def fAdd (n : Nat) (F : Nat → Int) (i v : Int) : Nat → Int := if okAt n i 1 = true then putAt F i.toNat (IntKind.u64.wrap (F i.toNat + v)) else F
def bCas (n : Nat) (F : Nat → Int) (i old : Int) : Bool := okAt n i 1 && decide (F i.toNat = old)
def fCas (n : Nat) (F : Nat → Int) (i old to : Int) : Nat → Int := if bCas n F i old = true then putAt F i.toNat to else F
def bCas2 (n : Nat) (F : Nat → Int) (i old second : Int) : Bool := okAt n i 2 && (decide (F i.toNat = old) && decide (F (i.toNat + 1) = second))
def fCas2 (n : Nat) (F : Nat → Int) (i old second to other : Int) : Nat → Int := if bCas2 n F i old second = true then putAt (putAt F i.toNat to) (i.toNat + 1) other else F
theorem ok_nat {n m : Nat} {i : Int} (h : okAt n i m = true) : ∃ k : Nat, i = k ∧ k + m ≤ n := by
  unfold okAt at h
  rw [Bool.and_eq_true, decide_eq_true_eq, decide_eq_true_eq] at h
  exact ⟨i.toNat, by omega, by omega⟩
theorem ok_false {n m : Nat} {i : Int} (h : ¬ okAt n i m = true) : okAt n i m = false := by
  cases hq : okAt n i m
  · rfl
  · exact absurd hq h
theorem upOf_le (n : Nat) (i : Int) (m c : Nat) : upOf n i m c ≤ c + 1 := by
  unfold upOf
  split <;> omega
theorem mStoreBad {w : World} {a b k n c : Nat} {F : Nat → Int} (h : MemAt w a b k n F c) (i v : Int) (hi : okAt n i 1 = false) :
    Calls Try.prog 21 #[.pointer (some ⟨a, 0, none⟩), .int .i64 i, .int .u64 v] w fun e w' => e = .returned (.int .i64 9) ∧ Kept (fun _ => False) w w' := (cStoreBad h i v hi).mono (by rintro e w' ⟨he, rfl⟩; exact ⟨he, Kept.refl _ _⟩)
theorem mLoadBad {w : World} {a b k n c : Nat} {F : Nat → Int} (h : MemAt w a b k n F c) (i : Int) (hi : okAt n i 1 = false) :
    Calls Try.prog 20 #[.pointer (some ⟨a, 0, none⟩), .int .i64 i] w fun e w' => e = .returned (.tuple #[.int .u64 0, .int .i64 9]) ∧ Kept (fun _ => False) w w' := (cLoadBad h i hi).mono (by rintro e w' ⟨he, rfl⟩; exact ⟨he, Kept.refl _ _⟩)
theorem mAddBad {w : World} {a b k n c : Nat} {F : Nat → Int} (h : MemAt w a b k n F c) (i v : Int) (hi : okAt n i 1 = false) :
    Calls Try.prog 19 #[.pointer (some ⟨a, 0, none⟩), .int .i64 i, .int .u64 v] w fun e w' => e = .returned (.tuple #[.int .u64 0, .int .i64 9]) ∧ Kept (fun _ => False) w w' := (cAddBad h i v hi).mono (by rintro e w' ⟨he, rfl⟩; exact ⟨he, Kept.refl _ _⟩)
theorem mCasBad {w : World} {a b k n c : Nat} {F : Nat → Int} (h : MemAt w a b k n F c) (i old to : Int) (hi : okAt n i 1 = false) :
    Calls Try.prog 23 #[.pointer (some ⟨a, 0, none⟩), .int .i64 i, .int .u64 old, .int .u64 to] w fun e w' => e = .returned (.tuple #[.bool false, .int .i64 9]) ∧ Kept (fun _ => False) w w' := (cCasBad h i old to hi).mono (by rintro e w' ⟨he, rfl⟩; exact ⟨he, Kept.refl _ _⟩)
theorem gLoad {w : World} {a b k n c : Nat} {F : Nat → Int} (h : MemAt w a b k n F c) (i : Int) (hc : c ≤ 1000000) :
    Calls Try.prog 20 #[.pointer (some ⟨a, 0, none⟩), .int .i64 i] w fun e w' => e = .returned (.tuple #[.int .u64 (vOf n F i), .int .i64 (eOf n i 1)]) ∧ MemAt w' a b k n (F) (upOf n i 1 c) ∧ Kept (fun x => x = a ∨ x = b) w w' := by
  by_cases hi : okAt n i 1 = true
  · obtain ⟨i, rfl, hin⟩ := ok_nat hi
    have e0 : eOf n (i : Int) 1 = 0 := if_pos hi
    have e1 : upOf n (i : Int) 1 c = c + 1 := if_pos hi
    rw [e0, e1]
    have e2 : vOf n F (i : Int) = F i := if_pos hi
    rw [e2]
    exact mLoad h i (by omega) hc rfl
  · have e0 : eOf n i 1 = 9 := if_neg hi
    have e1 : upOf n i 1 c = c := if_neg hi
    rw [e0, e1]
    have e2 : vOf n F i = 0 := if_neg hi
    rw [e2]
    refine (mLoadBad h i (ok_false hi)).mono ?_
    rintro e w' ⟨he, hk⟩
    exact ⟨he, h.kept hk id id id, hk.mono (fun _ h => h.elim)⟩
theorem gStore {w : World} {a b k n c : Nat} {F : Nat → Int} (h : MemAt w a b k n F c) (i v : Int) (hc : c ≤ 1000000) :
    Calls Try.prog 21 #[.pointer (some ⟨a, 0, none⟩), .int .i64 i, .int .u64 v] w fun e w' => e = .returned (.int .i64 (eOf n i 1)) ∧ MemAt w' a b k n (fStore n F i v) (upOf n i 1 c) ∧ Kept (fun x => x = a ∨ x = b) w w' := by
  by_cases hi : okAt n i 1 = true
  · obtain ⟨i, rfl, hin⟩ := ok_nat hi
    have e0 : eOf n (i : Int) 1 = 0 := if_pos hi
    have e1 : upOf n (i : Int) 1 c = c + 1 := if_pos hi
    rw [e0, e1]
    have e2 : fStore n F (i : Int) v = putAt F i v := if_pos hi
    rw [e2]
    exact mStore h i v (by omega) hc (fun _ _ => rfl)
  · have e0 : eOf n i 1 = 9 := if_neg hi
    have e1 : upOf n i 1 c = c := if_neg hi
    rw [e0, e1]
    have e2 : fStore n F i v = F := if_neg hi
    rw [e2]
    refine (mStoreBad h i v (ok_false hi)).mono ?_
    rintro e w' ⟨he, hk⟩
    exact ⟨he, h.kept hk id id id, hk.mono (fun _ h => h.elim)⟩
theorem gAdd {w : World} {a b k n c : Nat} {F : Nat → Int} (h : MemAt w a b k n F c) (i v : Int) (hc : c ≤ 1000000) :
    Calls Try.prog 19 #[.pointer (some ⟨a, 0, none⟩), .int .i64 i, .int .u64 v] w fun e w' => e = .returned (.tuple #[.int .u64 (vOf n F i), .int .i64 (eOf n i 1)]) ∧ MemAt w' a b k n (fAdd n F i v) (upOf n i 1 c) ∧ Kept (fun x => x = a ∨ x = b) w w' := by
  by_cases hi : okAt n i 1 = true
  · obtain ⟨i, rfl, hin⟩ := ok_nat hi
    have e0 : eOf n (i : Int) 1 = 0 := if_pos hi
    have e1 : upOf n (i : Int) 1 c = c + 1 := if_pos hi
    rw [e0, e1]
    have e2 : fAdd n F (i : Int) v = putAt F i (IntKind.u64.wrap (F i + v)) := if_pos hi
    have e3 : vOf n F (i : Int) = F i := if_pos hi
    rw [e2, e3]
    exact mAdd h i v (by omega) hc rfl (fun _ _ => rfl)
  · have e0 : eOf n i 1 = 9 := if_neg hi
    have e1 : upOf n i 1 c = c := if_neg hi
    rw [e0, e1]
    have e2 : fAdd n F i v = F := if_neg hi
    have e3 : vOf n F i = 0 := if_neg hi
    rw [e2, e3]
    refine (mAddBad h i v (ok_false hi)).mono ?_
    rintro e w' ⟨he, hk⟩
    exact ⟨he, h.kept hk id id id, hk.mono (fun _ h => h.elim)⟩
theorem gCas {w : World} {a b k n c : Nat} {F : Nat → Int} (h : MemAt w a b k n F c) (i old to : Int) (hc : c ≤ 1000000) :
    Calls Try.prog 23 #[.pointer (some ⟨a, 0, none⟩), .int .i64 i, .int .u64 old, .int .u64 to] w fun e w' => e = .returned (.tuple #[.bool (bCas n F i old), .int .i64 (eOf n i 1)]) ∧ MemAt w' a b k n (fCas n F i old to) (upOf n i 1 c) ∧ Kept (fun x => x = a ∨ x = b) w w' := by
  by_cases hi : okAt n i 1 = true
  · obtain ⟨i, rfl, hin⟩ := ok_nat hi
    have e0 : eOf n (i : Int) 1 = 0 := if_pos hi
    have e1 : upOf n (i : Int) 1 c = c + 1 := if_pos hi
    rw [e0, e1]
    by_cases ho : F i = old
    · have e3 : bCas n F (i : Int) old = true := by unfold bCas; rw [hi, Bool.true_and]; exact decide_eq_true ho
      have e2 : fCas n F (i : Int) old to = putAt F i to := if_pos e3
      rw [e2, e3]
      exact mCasYes h i old to (by omega) hc ho (fun _ _ => rfl)
    · have e3 : bCas n F (i : Int) old = false := by unfold bCas; rw [hi, Bool.true_and]; exact decide_eq_false ho
      have e2 : fCas n F (i : Int) old to = F := if_neg (by rw [e3]; exact Bool.false_ne_true)
      rw [e2, e3]
      exact mCasNo h i old to (by omega) hc ho
  · have e0 : eOf n i 1 = 9 := if_neg hi
    have e1 : upOf n i 1 c = c := if_neg hi
    rw [e0, e1]
    have e3 : bCas n F i old = false := by unfold bCas; rw [ok_false hi, Bool.false_and]
    have e2 : fCas n F i old to = F := if_neg (by rw [e3]; exact Bool.false_ne_true)
    rw [e2, e3]
    refine (mCasBad h i old to (ok_false hi)).mono ?_
    rintro e w' ⟨he, hk⟩
    exact ⟨he, h.kept hk id id id, hk.mono (fun _ h => h.elim)⟩
theorem gCas2 {w : World} {a b k n c : Nat} {F : Nat → Int} (h : MemAt w a b k n F c) (i old second to other : Int) (hc : c ≤ 1000000) :
    Calls Try.prog 22 #[.pointer (some ⟨a, 0, none⟩), .int .i64 i, .int .u64 old, .int .u64 second, .int .u64 to, .int .u64 other] w fun e w' => e = .returned (.tuple #[.bool (bCas2 n F i old second), .int .i64 (eOf n i 2)]) ∧ MemAt w' a b k n (fCas2 n F i old second to other) (upOf n i 2 c) ∧ Kept (fun x => x = a ∨ x = b) w w' := by
  by_cases hi : okAt n i 2 = true
  · obtain ⟨i, rfl, hin⟩ := ok_nat hi
    have e0 : eOf n (i : Int) 2 = 0 := if_pos hi
    have e1 : upOf n (i : Int) 2 c = c + 1 := if_pos hi
    rw [e0, e1]
    by_cases ho : F i = old ∧ F (i + 1) = second
    · have e3 : bCas2 n F (i : Int) old second = true := by
        unfold bCas2
        rw [hi, Bool.true_and, Bool.and_eq_true]
        exact ⟨decide_eq_true ho.1, decide_eq_true ho.2⟩
      have e2 : fCas2 n F (i : Int) old second to other = putAt (putAt F i to) (i + 1) other := if_pos e3
      rw [e2, e3]
      exact mCas2Yes h i old second to other (by omega) hc ho.1 ho.2 (fun _ _ => rfl)
    · have e3 : bCas2 n F (i : Int) old second = false := by
        unfold bCas2
        rw [hi, Bool.true_and, Bool.and_eq_false_iff, decide_eq_false_iff_not, decide_eq_false_iff_not]
        exact (Classical.not_and_iff_not_or_not.1 ho)
      have e2 : fCas2 n F (i : Int) old second to other = F := if_neg (by rw [e3]; exact Bool.false_ne_true)
      rw [e2, e3]
      exact cCas2No h i old second to other (by omega) hc ho
  · have e0 : eOf n i 2 = 9 := if_neg hi
    have e1 : upOf n i 2 c = c := if_neg hi
    rw [e0, e1]
    have e3 : bCas2 n F i old second = false := by unfold bCas2; rw [ok_false hi, Bool.false_and]
    have e2 : fCas2 n F i old second to other = F := if_neg (by rw [e3]; exact Bool.false_ne_true)
    rw [e2, e3]
    refine (cCas2Bad h i old second to other (ok_false hi)).mono ?_
    rintro e w' ⟨he, hk⟩
    exact ⟨he, h.kept hk id id id, hk.mono (fun _ h => h.elim)⟩
theorem sLoad {w : World} {a b n c : Nat} {F : Nat → Int} (h : RefAt w a b n F c) (i : Int) (hc : c ≤ 1000000) :
    Calls Try.prog 25 #[.pointer (some ⟨a, 0, none⟩), .int .i64 i] w fun e w' => e = .returned (.tuple #[.int .u64 (vOf n F i), .int .i64 (eOf n i 1)]) ∧ RefAt w' a b n (F) (upOf n i 1 c) ∧ Kept (fun x => x = a ∨ x = b) w w' := by
  by_cases hi : okAt n i 1 = true
  · obtain ⟨i, rfl, hin⟩ := ok_nat hi
    have e0 : eOf n (i : Int) 1 = 0 := if_pos hi
    have e1 : upOf n (i : Int) 1 c = c + 1 := if_pos hi
    rw [e0, e1]
    have e2 : vOf n F (i : Int) = F i := if_pos hi
    rw [e2]
    exact rLoad h i (by omega) hc
  · have e0 : eOf n i 1 = 9 := if_neg hi
    have e1 : upOf n i 1 c = c := if_neg hi
    rw [e0, e1]
    have e2 : vOf n F i = 0 := if_neg hi
    rw [e2]
    refine (rLoadBad h i (ok_false hi)).mono ?_
    rintro e w' ⟨he, hk⟩
    exact ⟨he, h.kept hk id id, hk.mono (fun _ h => h.elim)⟩
theorem sStore {w : World} {a b n c : Nat} {F : Nat → Int} (h : RefAt w a b n F c) (i v : Int) (hc : c ≤ 1000000) :
    Calls Try.prog 26 #[.pointer (some ⟨a, 0, none⟩), .int .i64 i, .int .u64 v] w fun e w' => e = .returned (.int .i64 (eOf n i 1)) ∧ RefAt w' a b n (fStore n F i v) (upOf n i 1 c) ∧ Kept (fun x => x = a ∨ x = b) w w' := by
  by_cases hi : okAt n i 1 = true
  · obtain ⟨i, rfl, hin⟩ := ok_nat hi
    have e0 : eOf n (i : Int) 1 = 0 := if_pos hi
    have e1 : upOf n (i : Int) 1 c = c + 1 := if_pos hi
    rw [e0, e1]
    have e2 : fStore n F (i : Int) v = putAt F i v := if_pos hi
    rw [e2]
    exact rStore h i v (by omega) hc
  · have e0 : eOf n i 1 = 9 := if_neg hi
    have e1 : upOf n i 1 c = c := if_neg hi
    rw [e0, e1]
    have e2 : fStore n F i v = F := if_neg hi
    rw [e2]
    refine (rStoreBad h i v (ok_false hi)).mono ?_
    rintro e w' ⟨he, hk⟩
    exact ⟨he, h.kept hk id id, hk.mono (fun _ h => h.elim)⟩
theorem sAdd {w : World} {a b n c : Nat} {F : Nat → Int} (h : RefAt w a b n F c) (i v : Int) (hc : c ≤ 1000000) :
    Calls Try.prog 29 #[.pointer (some ⟨a, 0, none⟩), .int .i64 i, .int .u64 v] w fun e w' => e = .returned (.tuple #[.int .u64 (vOf n F i), .int .i64 (eOf n i 1)]) ∧ RefAt w' a b n (fAdd n F i v) (upOf n i 1 c) ∧ Kept (fun x => x = a ∨ x = b) w w' := by
  by_cases hi : okAt n i 1 = true
  · obtain ⟨i, rfl, hin⟩ := ok_nat hi
    have e0 : eOf n (i : Int) 1 = 0 := if_pos hi
    have e1 : upOf n (i : Int) 1 c = c + 1 := if_pos hi
    rw [e0, e1]
    have e2 : fAdd n F (i : Int) v = putAt F i (IntKind.u64.wrap (F i + v)) := if_pos hi
    have e3 : vOf n F (i : Int) = F i := if_pos hi
    rw [e2, e3]
    exact rAdd h i v (by omega) hc
  · have e0 : eOf n i 1 = 9 := if_neg hi
    have e1 : upOf n i 1 c = c := if_neg hi
    rw [e0, e1]
    have e2 : fAdd n F i v = F := if_neg hi
    have e3 : vOf n F i = 0 := if_neg hi
    rw [e2, e3]
    refine (rAddBad h i v (ok_false hi)).mono ?_
    rintro e w' ⟨he, hk⟩
    exact ⟨he, h.kept hk id id, hk.mono (fun _ h => h.elim)⟩
theorem sCas {w : World} {a b n c : Nat} {F : Nat → Int} (h : RefAt w a b n F c) (i old to : Int) (hc : c ≤ 1000000) :
    Calls Try.prog 27 #[.pointer (some ⟨a, 0, none⟩), .int .i64 i, .int .u64 old, .int .u64 to] w fun e w' => e = .returned (.tuple #[.bool (bCas n F i old), .int .i64 (eOf n i 1)]) ∧ RefAt w' a b n (fCas n F i old to) (upOf n i 1 c) ∧ Kept (fun x => x = a ∨ x = b) w w' := by
  by_cases hi : okAt n i 1 = true
  · obtain ⟨i, rfl, hin⟩ := ok_nat hi
    have e0 : eOf n (i : Int) 1 = 0 := if_pos hi
    have e1 : upOf n (i : Int) 1 c = c + 1 := if_pos hi
    rw [e0, e1]
    by_cases ho : F i = old
    · have e3 : bCas n F (i : Int) old = true := by unfold bCas; rw [hi, Bool.true_and]; exact decide_eq_true ho
      have e2 : fCas n F (i : Int) old to = putAt F i to := if_pos e3
      rw [e2, e3]
      exact rCasYes h i old to (by omega) hc ho
    · have e3 : bCas n F (i : Int) old = false := by unfold bCas; rw [hi, Bool.true_and]; exact decide_eq_false ho
      have e2 : fCas n F (i : Int) old to = F := if_neg (by rw [e3]; exact Bool.false_ne_true)
      rw [e2, e3]
      exact rCasNo h i old to (by omega) hc ho
  · have e0 : eOf n i 1 = 9 := if_neg hi
    have e1 : upOf n i 1 c = c := if_neg hi
    rw [e0, e1]
    have e3 : bCas n F i old = false := by unfold bCas; rw [ok_false hi, Bool.false_and]
    have e2 : fCas n F i old to = F := if_neg (by rw [e3]; exact Bool.false_ne_true)
    rw [e2, e3]
    refine (rCasBad h i old to (ok_false hi)).mono ?_
    rintro e w' ⟨he, hk⟩
    exact ⟨he, h.kept hk id id, hk.mono (fun _ h => h.elim)⟩
theorem sCas2 {w : World} {a b n c : Nat} {F : Nat → Int} (h : RefAt w a b n F c) (i old second to other : Int) (hc : c ≤ 1000000) :
    Calls Try.prog 28 #[.pointer (some ⟨a, 0, none⟩), .int .i64 i, .int .u64 old, .int .u64 second, .int .u64 to, .int .u64 other] w fun e w' => e = .returned (.tuple #[.bool (bCas2 n F i old second), .int .i64 (eOf n i 2)]) ∧ RefAt w' a b n (fCas2 n F i old second to other) (upOf n i 2 c) ∧ Kept (fun x => x = a ∨ x = b) w w' := by
  by_cases hi : okAt n i 2 = true
  · obtain ⟨i, rfl, hin⟩ := ok_nat hi
    have e0 : eOf n (i : Int) 2 = 0 := if_pos hi
    have e1 : upOf n (i : Int) 2 c = c + 1 := if_pos hi
    rw [e0, e1]
    by_cases ho : F i = old ∧ F (i + 1) = second
    · have e3 : bCas2 n F (i : Int) old second = true := by
        unfold bCas2
        rw [hi, Bool.true_and, Bool.and_eq_true]
        exact ⟨decide_eq_true ho.1, decide_eq_true ho.2⟩
      have e2 : fCas2 n F (i : Int) old second to other = putAt (putAt F i to) (i + 1) other := if_pos e3
      rw [e2, e3]
      exact rCas2Yes h i old second to other (by omega) hc ho.1 ho.2
    · have e3 : bCas2 n F (i : Int) old second = false := by
        unfold bCas2
        rw [hi, Bool.true_and, Bool.and_eq_false_iff, decide_eq_false_iff_not, decide_eq_false_iff_not]
        exact (Classical.not_and_iff_not_or_not.1 ho)
      have e2 : fCas2 n F (i : Int) old second to other = F := if_neg (by rw [e3]; exact Bool.false_ne_true)
      rw [e2, e3]
      exact rCas2No h i old second to other (by omega) hc ho
  · have e0 : eOf n i 2 = 9 := if_neg hi
    have e1 : upOf n i 2 c = c := if_neg hi
    rw [e0, e1]
    have e3 : bCas2 n F i old second = false := by unfold bCas2; rw [ok_false hi, Bool.false_and]
    have e2 : fCas2 n F i old second to other = F := if_neg (by rw [e3]; exact Bool.false_ne_true)
    rw [e2, e3]
    refine (rCas2Bad h i old second to other (ok_false hi)).mono ?_
    rintro e w' ⟨he, hk⟩
    exact ⟨he, h.kept hk id id, hk.mono (fun _ h => h.elim)⟩
end Go.Proofs.Ytkcogdojohlpcaa
