/-
  Every call once more, with its answer named, and what stands from call to call (the table; all that lay before the statement began); the statements' 'works' answers true.
-/
import Derived.Test.YtekajahffnhboabDoorRef3
set_option linter.unusedVariables false
set_option linter.unusedSimpArgs false
namespace Go.Proofs.YtekajahffnhboabDoor
open Go Go.RowKit

/-- What stands from call to call. -/
def St (w0 w : World) : Prop := Tab w ∧ w0.heap.size ≤ w.heap.size ∧ Below w0.heap.size w0 w
theorem St.start {w : World} (h : Tab w) : St w w := ⟨h, Nat.le_refl _, Below.refl _ _⟩
theorem St.step {w0 w w' : World} (h : St w0 w) (hb : Below w.heap.size w w') : St w0 w' := by
  have hz := hb.size
  exact ⟨h.1.below (Nat.le_refl _) hb, Nat.le_trans h.2.1 hz, h.2.2.trans (hb.mono h.2.1)⟩

theorem wCheck (w0 : World) (s : ByteArray) (b : Int) (hs : s.size ≤ 8796093022208) (hv : errOf (sp.isName (sp.at' s 0)) = b) (w : World) (h : St w0 w) :
    Calls Tryd.prog 10 #[.string s] w fun e w' => e = .returned (.int .i64 b) ∧ St w0 w' := by
  refine (cCheck s w h.1 (by omega)).mono ?_
  rintro e w' ⟨rfl, hb⟩
  exact ⟨ret_int (by rw [sp.chk_isName, hv]), h.step hb⟩
theorem wrCheck (w0 : World) (s : ByteArray) (b : Int) (hs : s.size ≤ 8796093022208) (hv : errOf (sp.isName (sp.at' s 0)) = b) (w : World) (h : St w0 w) :
    Calls Tryd.prog 11 #[.string s] w fun e w' => e = .returned (.int .i64 b) ∧ St w0 w' := by
  refine (rCheck s w hs).mono ?_
  rintro e w' ⟨rfl, hb⟩
  exact ⟨ret_int hv, h.step hb⟩
theorem wRunes (w0 : World) (s : ByteArray) (b : Nat) (hs : s.size ≤ 8796093022208) (hv : (sp.at' s 0).length = b) (w : World) (h : St w0 w) :
    Calls Tryd.prog 12 #[.string s] w fun e w' => e = .returned (.int .i64 b) ∧ St w0 w' := by
  refine (cRunes s w (by omega)).mono ?_
  rintro e w' ⟨rfl, hb⟩
  exact ⟨by rw [hv], h.step hb⟩
theorem wrRunes (w0 : World) (s : ByteArray) (b : Nat) (hs : s.size ≤ 8796093022208) (hv : (sp.at' s 0).length = b) (w : World) (h : St w0 w) :
    Calls Tryd.prog 13 #[.string s] w fun e w' => e = .returned (.int .i64 b) ∧ St w0 w' := by
  refine (rRunesN s w hs).mono ?_
  rintro e w' ⟨rfl, hb⟩
  exact ⟨by rw [hv], h.step hb⟩
theorem wFold (w0 : World) (s t : ByteArray) (hs : s.size ≤ 8796093022208) (hv : (⟨(sp.foldB s.data.toList).toArray⟩ : ByteArray) = t) (w : World) (h : St w0 w) :
    Calls Tryd.prog 14 #[.string s] w fun e w' => e = .returned (.string t) ∧ St w0 w' := by
  refine (cFold s w h.1 hs).mono ?_
  rintro e w' ⟨rfl, hb⟩
  exact ⟨by rw [hv], h.step hb⟩
theorem wrFold (w0 : World) (s t : ByteArray) (hs : s.size ≤ 8796093022208) (hv : (⟨(sp.foldB s.data.toList).toArray⟩ : ByteArray) = t) (w : World) (h : St w0 w) :
    Calls Tryd.prog 15 #[.string s] w fun e w' => e = .returned (.string t) ∧ St w0 w' := by
  refine (rFold s w hs).mono ?_
  rintro e w' ⟨rfl, hb⟩
  exact ⟨by rw [hv], h.step hb⟩
theorem wGreat (w0 : World) (s t : ByteArray) (hs : s.size ≤ 8796093022208) (hv : (⟨(sp.greatB s.data.toList).toArray⟩ : ByteArray) = t) (w : World) (h : St w0 w) :
    Calls Tryd.prog 16 #[.string s] w fun e w' => e = .returned (.string t) ∧ St w0 w' := by
  refine (lGreat s w hs).mono ?_
  rintro e w' ⟨rfl, hb⟩
  exact ⟨by rw [hv], h.step hb⟩
theorem wCut (w0 : World) (s : ByteArray) (n : Int) (t : ByteArray) (hs : s.size ≤ 8796093022208) (hn0 : -9223372036854775808 ≤ n) (hn1 : n ≤ 9223372036854775807) (hv : (⟨(sp.cutB s.data.toList n).toArray⟩ : ByteArray) = t) (w : World) (h : St w0 w) :
    Calls Tryd.prog 21 #[.string s, .int .i64 n] w fun e w' => e = .returned (.string t) ∧ St w0 w' := by
  refine (cCut s n w hs hn0 hn1).mono ?_
  rintro e w' ⟨rfl, hb⟩
  exact ⟨by rw [hv], h.step hb⟩
theorem wrCut (w0 : World) (s : ByteArray) (n : Int) (t : ByteArray) (hs : s.size ≤ 8796093022208) (hn0 : -9223372036854775808 ≤ n) (hn1 : n ≤ 9223372036854775807) (hv : (⟨(sp.cutB s.data.toList n).toArray⟩ : ByteArray) = t) (w : World) (h : St w0 w) :
    Calls Tryd.prog 22 #[.string s, .int .i64 n] w fun e w' => e = .returned (.string t) ∧ St w0 w' := by
  refine (rCut s n w hs hn0 hn1).mono ?_
  rintro e w' ⟨rfl, hb⟩
  exact ⟨by rw [hv], h.step hb⟩
theorem wSame (w0 : World) (a b : ByteArray) (q : Bool) (ha : a.size ≤ 8796093022208) (hb : b.size ≤ 8796093022208) (hv : sameB a.data.toList b.data.toList = q) (w : World) (h : St w0 w) :
    Calls Tryd.prog 17 #[.string a, .string b] w fun e w' => e = .returned (.bool q) ∧ St w0 w' := by
  refine (cSame a b w h.1 ha hb).mono ?_
  rintro e w' ⟨rfl, hb⟩
  exact ⟨ret_bool hv, h.step hb⟩
theorem wrSame (w0 : World) (a b : ByteArray) (q : Bool) (ha : a.size ≤ 8796093022208) (hb : b.size ≤ 8796093022208) (hv : sameB a.data.toList b.data.toList = q) (w : World) (h : St w0 w) :
    Calls Tryd.prog 18 #[.string a, .string b] w fun e w' => e = .returned (.bool q) ∧ St w0 w' := by
  refine (rSame a b w ha hb).mono ?_
  rintro e w' ⟨rfl, hb⟩
  exact ⟨ret_bool hv, h.step hb⟩
theorem rlt_lessB (a b : ByteArray) : sp.rlt (sp.folds (sp.at' a 0)) (sp.folds (sp.at' b 0)) = lessB a.data.toList b.data.toList := by
  rw [sp.at_zero, sp.at_zero, ← sp.bl_enc _ _ (sp.folds_sc (sp.runes_sc _)) (sp.folds_sc (sp.runes_sc _))]
  rfl
theorem wLess (w0 : World) (a b : ByteArray) (q : Bool) (ha : a.size ≤ 8796093022208) (hb : b.size ≤ 8796093022208) (hv : lessB a.data.toList b.data.toList = q) (w : World) (h : St w0 w) :
    Calls Tryd.prog 19 #[.string a, .string b] w fun e w' => e = .returned (.bool q) ∧ St w0 w' := by
  refine (cLess a b w h.1 ha hb).mono ?_
  rintro e w' ⟨rfl, hb⟩
  exact ⟨ret_bool hv, h.step hb⟩
theorem wrLess (w0 : World) (a b : ByteArray) (q : Bool) (ha : a.size ≤ 8796093022208) (hb : b.size ≤ 8796093022208) (hv : lessB a.data.toList b.data.toList = q) (w : World) (h : St w0 w) :
    Calls Tryd.prog 20 #[.string a, .string b] w fun e w' => e = .returned (.bool q) ∧ St w0 w' := by
  refine (rLess a b w ha hb).mono ?_
  rintro e w' ⟨rfl, hb⟩
  exact ⟨ret_bool (by rw [rlt_lessB, hv]), h.step hb⟩

set_option maxHeartbeats 4000000 in
set_option maxRecDepth 100000 in
theorem works_any (w0 w : World) (h : St w0 w) : Calls Tryd.prog 9 #[] w fun e w' => e = .returned (.bool true) ∧ St w0 w' := by
  go_enter Tryd.func9, Tryd.ntmps9
  go_wp2_with fail
  refine (wCheck w0 _ 0 (of_decide_eq_true (by kernel_rfl)) (by kernel_rfl) _ h).mono ?_
  rintro e w1 ⟨rfl, h1⟩
  go_wp2_with fail
  refine (wCheck w0 _ 0 (of_decide_eq_true (by kernel_rfl)) (by kernel_rfl) _ h1).mono ?_
  rintro e w2 ⟨rfl, h2⟩
  go_wp2_with fail
  refine (wCheck w0 _ 10 (of_decide_eq_true (by kernel_rfl)) (by kernel_rfl) _ h2).mono ?_
  rintro e w3 ⟨rfl, h3⟩
  go_wp2_with fail
  refine (wCheck w0 _ 10 (of_decide_eq_true (by kernel_rfl)) (by kernel_rfl) _ h3).mono ?_
  rintro e w4 ⟨rfl, h4⟩
  go_wp2_with fail
  refine (wCheck w0 _ 10 (of_decide_eq_true (by kernel_rfl)) (by kernel_rfl) _ h4).mono ?_
  rintro e w5 ⟨rfl, h5⟩
  go_wp2_with fail
  refine (wCheck w0 _ 10 (of_decide_eq_true (by kernel_rfl)) (by kernel_rfl) _ h5).mono ?_
  rintro e w6 ⟨rfl, h6⟩
  clear h h1 h2 h3 h4 h5
  go_wp2_with fail
  refine (wFold w0 _ ⟨#[195, 164, 98, 95, 207, 137]⟩ (of_decide_eq_true (by kernel_rfl)) (by kernel_rfl) _ h6).mono ?_
  rintro e w7 ⟨rfl, h7⟩
  go_wp2_with fail
  refine (wFold w0 _ ⟨#[239, 191, 189]⟩ (of_decide_eq_true (by kernel_rfl)) (by kernel_rfl) _ h7).mono ?_
  rintro e w8 ⟨rfl, h8⟩
  go_wp2_with fail
  refine (wSame w0 _ _ true (of_decide_eq_true (by kernel_rfl)) (of_decide_eq_true (by kernel_rfl)) (by kernel_rfl) _ h8).mono ?_
  rintro e w9 ⟨rfl, h9⟩
  go_wp2_with fail
  refine (wLess w0 _ _ true (of_decide_eq_true (by kernel_rfl)) (of_decide_eq_true (by kernel_rfl)) (by kernel_rfl) _ h9).mono ?_
  rintro e w10 ⟨rfl, h10⟩
  go_wp2_with fail
  refine (wLess w0 _ _ false (of_decide_eq_true (by kernel_rfl)) (of_decide_eq_true (by kernel_rfl)) (by kernel_rfl) _ h10).mono ?_
  rintro e w11 ⟨rfl, h11⟩
  go_wp2_with fail
  refine (wCut w0 _ 2 ⟨#[195, 164, 195, 182]⟩ (of_decide_eq_true (by kernel_rfl)) (by decide) (by decide) (by kernel_rfl) _ h11).mono ?_
  rintro e w12 ⟨rfl, h12⟩
  go_wp2_with fail
  refine (wRunes w0 _ 3 (of_decide_eq_true (by kernel_rfl)) (by kernel_rfl) _ h12).mono ?_
  rintro e w13 ⟨rfl, h13⟩
  go_wp2
  go_ret
  exact ⟨rfl, h13⟩
end Go.Proofs.YtekajahffnhboabDoor
