/-
  at, isGoing, begin of the program.
-/
import Derived.Test.YtnnpclknlccmiaaGb
set_option linter.unusedVariables false
set_option linter.unusedSimpArgs false
namespace Go.Proofs.Ytnnpclknlccmiaa
open Go Go.RowKit

section
variable {w w' : World} {B p n b : Nat} {vs : Nat → Value} {g : Gr}
set_option maxHeartbeats 1000000 in
set_option maxRecDepth 100000 in
theorem cAtNo (h : GV w B p n vs g) (h1 : 1 ≤ n ∧ n ≤ 8) {cpu : Int} (hp : ¬ isP n cpu) :
    Calls Try.prog 38 #[.pointer (some ⟨B, 0, none⟩), .int .i64 cpu] w fun e w' => e = .returned (.tuple #[.pointer none, .int .i64 9]) ∧ w' = w := by
  have c0 := h.c0
  have hn0 : ((n : Int) == 0) = false := by simp; omega
  unfold isP at hp
  by_cases h0 : cpu < 0
  · go_enter Try.func38, Try.ntmps38
    go_wp2
    go_ret2
    exact ⟨rfl, rfl⟩
  · have h2 : (n : Int) ≤ cpu := by omega
    go_enter Try.func38, Try.ntmps38
    go_wp2
    go_ret2
    exact ⟨rfl, rfl⟩
set_option maxHeartbeats 1000000 in
set_option maxRecDepth 100000 in
theorem cAt (h : GV w B p n vs g) (h1 : 1 ≤ n ∧ n ≤ 8) {c : Nat} (hc : c < n) :
    Calls Try.prog 38 #[.pointer (some ⟨B, 0, none⟩), .int .i64 c] w fun e w' => e = .returned (.tuple #[.pointer (some ⟨p, c * 2, none⟩), .int .i64 0]) ∧ w' = w := by
  have c0 := h.c0
  have hn0 : ((n : Int) == 0) = false := by simp; omega
  go_enter Try.func38, Try.ntmps38
  go_wp2
  go_ret2
  exact ⟨rfl, rfl⟩
theorem any8 (a : Nat → Bool) (h1 : 1 ≤ n ∧ n ≤ 8) (ho : ∀ i, n ≤ i → a i = false) : anyB a n = (a 0 || a 1 || a 2 || a 3 || a 4 || a 5 || a 6 || a 7) := by
  rw [Bool.eq_iff_iff, anyB_iff]
  simp only [Bool.or_eq_true]
  constructor
  · rintro ⟨i, hi, ha⟩
    have : i = 0 ∨ i = 1 ∨ i = 2 ∨ i = 3 ∨ i = 4 ∨ i = 5 ∨ i = 6 ∨ i = 7 := by omega
    rcases this with rfl | rfl | rfl | rfl | rfl | rfl | rfl | rfl <;> simp [ha]
  · intro h
    have key : ∀ i, a i = true → ∃ i, i < n ∧ a i = true := by
      intro i ha
      refine ⟨i, ?_, ha⟩
      rcases Nat.lt_or_ge i n with h | h
      · exact h
      · rw [ho i h] at ha; cases ha
    rcases h with ((((((h | h) | h) | h) | h) | h) | h) | h <;> exact key _ h
theorem eqGuard8 : Try.prog.eqGuardType Try.prog.depth 54 = false := by kernel_rfl
theorem eq8 (w : World) (b0 b1 b2 b3 b4 b5 b6 b7 : Bool) : (Op.equalIn 10000 54 (.agg #[.bool b0, .bool b1, .bool b2, .bool b3, .bool b4, .bool b5, .bool b6, .bool b7]) (.agg #[.bool false, .bool false, .bool false, .bool false, .bool false, .bool false, .bool false, .bool false])).run Try.prog w = .ok (!(b0 || b1 || b2 || b3 || b4 || b5 || b6 || b7)) w := by
  cases b0 <;> cases b1 <;> cases b2 <;> cases b3 <;> cases b4 <;> cases b5 <;> cases b6 <;> cases b7 <;> kernel_rfl
theorem neq8 (w : World) (a : Nat → Bool) (q : Bool) (h1 : 1 ≤ n ∧ n ≤ 8) (ho : ∀ i, n ≤ i → a i = false) (hq : anyB a n = q) : ∀ w, (Op.equalIn 10000 54 (.agg #[.bool (a 0), .bool (a 1), .bool (a 2), .bool (a 3), .bool (a 4), .bool (a 5), .bool (a 6), .bool (a 7)]) (.agg #[.bool false, .bool false, .bool false, .bool false, .bool false, .bool false, .bool false, .bool false])).run Try.prog w = .ok (!q) w := by
  intro w
  rw [eq8, ← hq, any8 a h1 ho]
theorem GV.aws (h : GV w B p n vs g) : w.rangeAt B 2 [.bool (g.aw 0), .bool (g.aw 1), .bool (g.aw 2), .bool (g.aw 3), .bool (g.aw 4), .bool (g.aw 5), .bool (g.aw 6), .bool (g.aw 7)] := by
  intro j v hj
  have hlt := (List.getElem?_eq_some_iff.1 hj).1
  have h8 : j < 8 := hlt
  rw [h.ca h8]
  have : j = 0 ∨ j = 1 ∨ j = 2 ∨ j = 3 ∨ j = 4 ∨ j = 5 ∨ j = 6 ∨ j = 7 := by omega
  rcases this with rfl | rfl | rfl | rfl | rfl | rfl | rfl | rfl <;> exact hj
theorem info8 : (Try.prog.info? 54).map (·.size) = some 8 := by kernel_rfl
set_option maxHeartbeats 1000000 in
set_option maxRecDepth 100000 in
theorem cGoing (h : GV w B p n vs g) (h1 : 1 ≤ n ∧ n ≤ 8) (ho : ∀ i, n ≤ i → g.aw i = false) (q : Bool) (hq : anyB g.aw n = q) :
    Calls Try.prog 42 #[.pointer (some ⟨B, 0, none⟩)] w fun e w' => e = .returned (.bool q) ∧ w' = w := by
  have heq := neq8 w g.aw q h1 ho hq
  have HR := Lib.hid h.aws
  have hgd := eqGuard8
  clear h hq ho
  go_enter Try.func42, Try.ntmps42
  go_wp2_with (refine wpList_load_mid (by rfl) _ _ (by rfl) B 2 (by rfl) _ _ HR.out Try.underlying54 (by rfl) info8 ?_)
  go_ret
  exact ⟨ret_bool (by simp), rfl⟩
set_option maxHeartbeats 1000000 in
set_option maxRecDepth 100000 in
theorem cBegin (h : GV w B p n vs g) (h1 : 1 ≤ n ∧ n ≤ 8) (ho : ∀ i, n ≤ i → g.aw i = false) :
    Calls Try.prog 44 #[.pointer (some ⟨B, 0, none⟩)] w fun e w' => e = .returned (.tuple #[]) ∧ GV w' B p n vs { g with aw := allT n } ∧ Kept (OwnG B p) w w' := by
  have c0 := h.c0
  have HA := Lib.hid h
  have HO := Lib.hid ho
  clear h ho
  go_enter Try.func44, Try.ntmps44
  go_wp2
  go_loopw [8] (fun i wr => ∃ k : Nat, k ≤ n ∧ i = .int .i64 k ∧ Hid (∃ a : Nat → Bool, (∀ j, j < k → a j = true) ∧ (∀ j, n ≤ j → a j = false) ∧ GV wr B p n vs { g with aw := a } ∧ Kept (OwnG B p) w wr)) (fun i _ => n - (intOf i).toNat)
  case atStart => exact ⟨0, by omega, rfl, Lib.hid ⟨g.aw, fun j hj => by omega, HO.out, HA.out, Kept.refl _ _⟩⟩
  case round =>
    obtain ⟨k, hk, rfl, HR⟩ := hrel
    by_cases hlt : k < n
    · obtain ⟨a, ha1, ha2, hg, hkp⟩ := HR.out
      have e0 := hg.c0
      have ea := hg.ca (show k < 8 by omega)
      have ef := hg.box.frozen (2 + k)
      have HN : Hid (∃ a : Nat → Bool, (∀ j, j < k + 1 → a j = true) ∧ (∀ j, n ≤ j → a j = false) ∧ GV (wr.setCell ⟨B, 2 + k, none⟩ (.bool true)) B p n vs { g with aw := a } ∧ Kept (OwnG B p) w (wr.setCell ⟨B, 2 + k, none⟩ (.bool true))) := by
        obtain ⟨s1, s2⟩ := set_aw hg (c := k) (q := true) (by omega)
        refine Lib.hid ⟨upd a k true, fun j hj => ?_, fun j hj => ?_, s1, hkp.trans s2⟩
        · by_cases e : j = k
          · subst e; rw [upd_same]
          · rw [upd_other _ _ e]; exact ha1 j (by omega)
        · rw [upd_other _ _ (by omega)]; exact ha2 j hj
      clear HR ha1 ha2 hg hkp
      go_wp2
      go_roundw
      case rel => exact ⟨k + 1, by omega, by go_num, HN⟩
      case measure => simp [intOf]; omega
    · obtain rfl : k = n := by omega
      go_wp2
      go_end0
      obtain ⟨a, ha1, ha2, hg, hkp⟩ := HR.out
      refine ⟨rfl, hg.congr (fun _ _ => rfl) (fun _ _ => rfl) rfl (fun i _ => ?_), hkp⟩
      show allT k i = a i
      by_cases e : i < k
      · rw [ha1 i e, allT_yes e]
      · rw [ha2 i (by omega), allT_no (by omega)]
end
end Go.Proofs.Ytnnpclknlccmiaa
