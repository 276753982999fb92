/-
  The law StockTakes, walked.
-/
import Derived.Test.YthjonjkeaiobdaaOne
set_option linter.unusedVariables false
set_option linter.unusedSimpArgs false
namespace Go.Proofs.Ythjonjkeaiobdaa
open Go Go.RowKit

def tk (a n : Int) : Sk := noS.put 0 a n
theorem tk_g (a n : Int) : (tk a n).g 0 = gOf a n := put_g _ _ _ _
theorem tk_n (a n : Int) : (tk a n).n 0 = n := put_n _ _ _ _
theorem tk_put (a n : Int) : PutIs 1 noS 0 a n 0 0 0 (tk a (0 + n)) ∨ ¬ (isG a ∧ 0 ≤ n ∧ n ≤ 1024) := by
  by_cases h : isG a ∧ 0 ≤ n ∧ n ≤ 1024
  · exact .inl (.fits 0 rfl (by decide) h.1 (by unfold isN; omega) (.inl rfl) (by show 0 + n ≤ 1024; omega))
  · exact .inr h
theorem tk_is {a n : Int} (h : isG a) (h1 : 0 ≤ n) (h2 : n ≤ 1024) : PutIs 1 noS 0 a n 0 0 0 (tk a n) := by
  rcases tk_put a n with e | e
  · rwa [Int.zero_add] at e
  · exact absurd ⟨h, h1, h2⟩ e
theorem gOf_ne {a b n : Int} (h : a ≠ b) (hb : isG b) : gOf a n ≠ b := by
  unfold gOf
  split
  · unfold isG at hb; omega
  · exact h
/-- another group takes nothing -/
theorem tk_other {a b n k : Int} (h : a ≠ b) (hb : isG b) (hk : 1 ≤ k) : TakeIs 1 (tk a n) 0 b k false (tk a n) := .other 0 rfl (by decide) hk (by rw [tk_g]; exact gOf_ne h hb)
theorem tk_none {a b n k : Int} (hk : k < 1) : TakeIs 1 (tk a n) 0 b k false (tk a n) := .none 0 rfl (by decide) hk
theorem tk_ok {a n k : Int} (hk : 1 ≤ k) (h : k ≤ n) : TakeIs 1 (tk a n) 0 a k true (tk a (n - k)) := by
  have h0 := TakeIs.ok (c := 1) (t := tk a n) (x := 0) (g := a) (n := k) 0 rfl (by decide) hk (by rw [tk_g]; unfold gOf; rw [if_neg (by omega)]) (by rw [tk_n]; exact h)
  rw [tk_n] at h0
  have e : (tk a n).put 0 a (n - k) = tk a (n - k) := put_put _ _ _ _ _ _
  rwa [e] at h0
theorem tk_few {a n k : Int} (ha : isG a) (hk : 1 ≤ k) (h : n < k) (h0 : 0 ≤ n) : TakeIs 1 (tk a n) 0 a k false (tk a n) := by
  by_cases e : n = 0
  · exact .other 0 rfl (by decide) hk (by rw [tk_g]; unfold gOf; rw [if_pos e]; unfold isG at ha; omega)
  · exact .few 0 rfl (by decide) hk (by rw [tk_g]; unfold gOf; rw [if_neg e]) (by rw [tk_n]; exact h)
theorem tk_hasG {a n u : Int} (h : gOf a n = u) : hasG 1 (tk a n) 0 = u := (hasG_at (tk a n) (show 0 < 1 by decide)).trans ((tk_g a n).trans h)
theorem tk_hasN {a n : Int} : hasN 1 (tk a n) 0 = n := (hasN_at (tk a n) (show 0 < 1 by decide)).trans (tk_n a n)
theorem two_lit {w w' : World} {a b : Int} {T : TypeId} (hb : Below (w.alloc (.cells #[.int .i64 a, .int .i64 b] T)).heap.size (w.alloc (.cells #[.int .i64 a, .int .i64 b] T)) w') : w'.cell? ⟨w.heap.size, 0, none⟩ = some (.int .i64 a) ∧ w'.cell? ⟨w.heap.size, 1, none⟩ = some (.int .i64 b) :=
  ⟨cell_keep hb (self_cell (heap_new w _) 0 _ rfl), cell_keep hb (self_cell (heap_new w _) 1 _ rfl)⟩
set_option maxHeartbeats 1000000 in
set_option maxRecDepth 100000 in
theorem walkTakes (p : Int × Int) (x y : Int) (W : World) : Calls Try.prog 5 #[.agg #[.int .i64 p.1, .int .i64 p.2], .int .i64 x, .int .i64 y] W fun e W' => e = .returned (.bool true) ∧ Below W.heap.size W W' := by
  obtain ⟨p1, p2⟩ := p
  show Calls Try.prog 5 #[.agg #[.int .i64 p1, .int .i64 p2], .int .i64 x, .int .i64 y] W fun e W' => e = .returned (.bool true) ∧ Below W.heap.size W W'
  have l1 := bring_lt p1 16 (by decide)
  have l2 := bring_lt p2 16 (by decide)
  have l3 := bring_lt x 1025 (by decide)
  have l4 := bring_lt y 1200 (by decide)
  obtain ⟨a, ha⟩ : ∃ a : Int, (1 + (bring p1 16 : Int)) = a := ⟨_, rfl⟩
  obtain ⟨b, hb⟩ : ∃ b : Int, (1 + (bring p2 16 : Int)) = b := ⟨_, rfl⟩
  obtain ⟨n, hn⟩ : ∃ n : Int, (bring x 1025 : Int) = n := ⟨_, rfl⟩
  obtain ⟨m, hm⟩ : ∃ m : Int, (1 + (bring y 1200 : Int)) = m := ⟨_, rfl⟩
  have hga : isG a := by unfold isG; omega
  have hgb : isG b := by unfold isG; omega
  have hn0 : 0 ≤ n := by omega
  have hn1 : n ≤ 1024 := by omega
  have hm0 : 1 ≤ m := by omega
  have hm1 : m ≤ 1200 := by omega
  have hA : IntKind.i64.wrap (1 + (bring p1 16 : Int)) = a := by rw [IntWalk.i64_in _ (by omega)]; exact ha
  have hB : IntKind.i64.wrap (1 + (bring p2 16 : Int)) = b := by rw [IntWalk.i64_in _ (by omega)]; exact hb
  have HM : Hid (IntKind.i64.wrap (1 + (bring y 1200 : Int)) = m) := Lib.hid (by rw [IntWalk.i64_in _ (by omega)]; exact hm)
  have HN := Lib.hid hn
  have HPUT := Lib.hid (tk_is hga hn0 hn1)
  have HT0 := Lib.hid (tk_none (a := a) (b := a) (n := n) (k := 0) (by decide))
  have HT1 := Lib.hid (tk_none (a := a) (b := a) (n := n) (k := -1) (by decide))
  clear ha hb hn hm l1 l2 l3 l4
  have hbox := below_one (Below.refl _ W) (.cells #[.int .i64 p1, .int .i64 p2] 44)
  have HBOX := Lib.hid hbox
  clear hbox
  go_enter Try.func5, Try.ntmps5
  go_wp2_with fail
  refine (oNew 1 (by decide) (by decide) _).mono ?_
  rintro e w1 ⟨B, r, rfl, h1⟩
  obtain ⟨c0, c1⟩ := two_lit h1.low
  have H1 := Lib.hid (h1.lower HBOX.out)
  clear h1
  go_wp2
  go_quiet ((go_at_call 15; exact Calls.quiet_of_same (cBringN _ 16 16 rfl (by decide) _)))
  have H2 := Lib.hid (H1.out.drewN nq)
  generalize w1.drewN nq = w2 at H2 ⊢
  clear c0 c1 H1 hA hB HBOX
  go_wp2_with fail
  refine (cBringN x 1025 1025 rfl (by decide) _).mono ?_
  rintro e w2a ⟨rfl, rfl⟩
  rw [HN.out]
  have hM := HM.out
  go_wp2_with fail
  refine (cBringN y 1200 1200 rfl (by decide) _).mono ?_
  rintro e w3 ⟨rfl, rfl⟩
  go_wp2_with fail
  refine (oPut H2.out HPUT.out).mono ?_
  rintro e w4 ⟨rfl, h4, _⟩
  have H4 := Lib.hid h4
  clear h4 H2 hM HM HN HPUT
  by_cases hab : a = b
  · subst hab
    have hq : (a != a) = false := by simp
    have H5 := H4
    go_wp2_with fail
    refine (oTake H5.out HT0.out).mono ?_
    rintro e w6 ⟨rfl, h6, _⟩
    have H6 := Lib.hid h6
    clear h6
    go_wp2_with fail
    refine (oTake H6.out HT1.out).mono ?_
    rintro e w7 ⟨rfl, h7, _⟩
    have H7 := Lib.hid h7
    clear h7
    by_cases hle : m ≤ n
    · have HT := Lib.hid (tk_ok (a := a) hm0 hle)
      go_wp2_with fail
      refine (oTake H7.out HT.out).mono ?_
      rintro e w8 ⟨rfl, h8, _⟩
      have H8 := Lib.hid h8
      clear h8 HT
      obtain ⟨v, hv⟩ : ∃ v : Int, n - m = v := ⟨_, rfl⟩
      have hv0 : 0 ≤ v := by omega
      have hw : IntKind.i64.wrap (n - m) = v := by rw [IntWalk.i64_in _ (by omega)]; exact hv
      rw [hv] at H8
      clear hv
      by_cases hz : v = 0
      · have hz1 : (a == 0) = false := by simp; unfold isG at hga; omega
        have hz2 : (0 == a) = false := by simp; unfold isG at hga; omega
        have hz3 : (v == 0) = true := by simp [hz]
        have HG : Hid (gOf a v = 0) := Lib.hid (by unfold gOf; rw [if_pos hz])
        clear hz
        go_wp2_with fail
        refine (oHas H8.out 0 0 v (tk_hasG HG.out) tk_hasN).mono ?_
        rintro e w9 ⟨rfl, h9, _⟩
        have H9 := Lib.hid h9
        clear h9
        go_wp2_with fail
        refine (works _).mono ?_
        rintro e w10 ⟨rfl, hb10⟩
        have HB := Lib.hid (below_then H9.out.low hb10)
        clear hb10
        go_wp2
        go_ret
        exact ⟨rfl, HB.out⟩
      · have hz0 : 0 < v := by omega
        have HG : Hid (gOf a v = a) := Lib.hid (by unfold gOf; rw [if_neg hz])
        clear hz
        go_wp2_with fail
        refine (oHas H8.out 0 a v (tk_hasG HG.out) tk_hasN).mono ?_
        rintro e w9 ⟨rfl, h9, _⟩
        have H9 := Lib.hid h9
        clear h9
        go_wp2_with fail
        refine (works _).mono ?_
        rintro e w10 ⟨rfl, hb10⟩
        have HB := Lib.hid (below_then H9.out.low hb10)
        clear hb10
        go_wp2
        go_ret
        exact ⟨rfl, HB.out⟩
    · have HT := Lib.hid (tk_few hga hm0 (show n < m by omega) hn0)
      go_wp2_with fail
      refine (oTake H7.out HT.out).mono ?_
      rintro e w8 ⟨rfl, h8, _⟩
      have H8 := Lib.hid h8
      clear h8 HT
      by_cases hz : n = 0
      · have hz1 : (a == 0) = false := by simp; unfold isG at hga; omega
        have hz2 : (0 == a) = false := by simp; unfold isG at hga; omega
        have hz3 : (n == 0) = true := by simp [hz]
        have HG : Hid (gOf a n = 0) := Lib.hid (by unfold gOf; rw [if_pos hz])
        clear hz
        go_wp2_with fail
        refine (oHas H8.out 0 0 n (tk_hasG HG.out) tk_hasN).mono ?_
        rintro e w9 ⟨rfl, h9, _⟩
        have H9 := Lib.hid h9
        clear h9
        go_wp2_with fail
        refine (works _).mono ?_
        rintro e w10 ⟨rfl, hb10⟩
        have HB := Lib.hid (below_then H9.out.low hb10)
        clear hb10
        go_wp2
        go_ret
        exact ⟨rfl, HB.out⟩
      · have hz0 : 0 < n := by omega
        have HG : Hid (gOf a n = a) := Lib.hid (by unfold gOf; rw [if_neg hz])
        clear hz
        go_wp2_with fail
        refine (oHas H8.out 0 a n (tk_hasG HG.out) tk_hasN).mono ?_
        rintro e w9 ⟨rfl, h9, _⟩
        have H9 := Lib.hid h9
        clear h9
        go_wp2_with fail
        refine (works _).mono ?_
        rintro e w10 ⟨rfl, hb10⟩
        have HB := Lib.hid (below_then H9.out.low hb10)
        clear hb10
        go_wp2
        go_ret
        exact ⟨rfl, HB.out⟩
  · have hq : (a != b) = true := by simp [hab]
    have HTO := Lib.hid (tk_other (n := n) hab hgb hm0)
    go_wp2_with fail
    refine (oTake H4.out HTO.out).mono ?_
    rintro e w5 ⟨rfl, h5, _⟩
    have H5 := Lib.hid h5
    clear h5
    go_wp2_with fail
    refine (oTake H5.out HT0.out).mono ?_
    rintro e w6 ⟨rfl, h6, _⟩
    have H6 := Lib.hid h6
    clear h6
    go_wp2_with fail
    refine (oTake H6.out HT1.out).mono ?_
    rintro e w7 ⟨rfl, h7, _⟩
    have H7 := Lib.hid h7
    clear h7
    by_cases hle : m ≤ n
    · have HT := Lib.hid (tk_ok (a := a) hm0 hle)
      go_wp2_with fail
      refine (oTake H7.out HT.out).mono ?_
      rintro e w8 ⟨rfl, h8, _⟩
      have H8 := Lib.hid h8
      clear h8 HT
      obtain ⟨v, hv⟩ : ∃ v : Int, n - m = v := ⟨_, rfl⟩
      have hv0 : 0 ≤ v := by omega
      have hw : IntKind.i64.wrap (n - m) = v := by rw [IntWalk.i64_in _ (by omega)]; exact hv
      rw [hv] at H8
      clear hv
      by_cases hz : v = 0
      · have hz1 : (a == 0) = false := by simp; unfold isG at hga; omega
        have hz2 : (0 == a) = false := by simp; unfold isG at hga; omega
        have hz3 : (v == 0) = true := by simp [hz]
        have HG : Hid (gOf a v = 0) := Lib.hid (by unfold gOf; rw [if_pos hz])
        clear hz
        go_wp2_with fail
        refine (oHas H8.out 0 0 v (tk_hasG HG.out) tk_hasN).mono ?_
        rintro e w9 ⟨rfl, h9, _⟩
        have H9 := Lib.hid h9
        clear h9
        go_wp2_with fail
        refine (works _).mono ?_
        rintro e w10 ⟨rfl, hb10⟩
        have HB := Lib.hid (below_then H9.out.low hb10)
        clear hb10
        go_wp2
        go_ret
        exact ⟨rfl, HB.out⟩
      · have hz0 : 0 < v := by omega
        have HG : Hid (gOf a v = a) := Lib.hid (by unfold gOf; rw [if_neg hz])
        clear hz
        go_wp2_with fail
        refine (oHas H8.out 0 a v (tk_hasG HG.out) tk_hasN).mono ?_
        rintro e w9 ⟨rfl, h9, _⟩
        have H9 := Lib.hid h9
        clear h9
        go_wp2_with fail
        refine (works _).mono ?_
        rintro e w10 ⟨rfl, hb10⟩
        have HB := Lib.hid (below_then H9.out.low hb10)
        clear hb10
        go_wp2
        go_ret
        exact ⟨rfl, HB.out⟩
    · have HT := Lib.hid (tk_few hga hm0 (show n < m by omega) hn0)
      go_wp2_with fail
      refine (oTake H7.out HT.out).mono ?_
      rintro e w8 ⟨rfl, h8, _⟩
      have H8 := Lib.hid h8
      clear h8 HT
      by_cases hz : n = 0
      · have hz1 : (a == 0) = false := by simp; unfold isG at hga; omega
        have hz2 : (0 == a) = false := by simp; unfold isG at hga; omega
        have hz3 : (n == 0) = true := by simp [hz]
        have HG : Hid (gOf a n = 0) := Lib.hid (by unfold gOf; rw [if_pos hz])
        clear hz
        go_wp2_with fail
        refine (oHas H8.out 0 0 n (tk_hasG HG.out) tk_hasN).mono ?_
        rintro e w9 ⟨rfl, h9, _⟩
        have H9 := Lib.hid h9
        clear h9
        go_wp2_with fail
        refine (works _).mono ?_
        rintro e w10 ⟨rfl, hb10⟩
        have HB := Lib.hid (below_then H9.out.low hb10)
        clear hb10
        go_wp2
        go_ret
        exact ⟨rfl, HB.out⟩
      · have hz0 : 0 < n := by omega
        have HG : Hid (gOf a n = a) := Lib.hid (by unfold gOf; rw [if_neg hz])
        clear hz
        go_wp2_with fail
        refine (oHas H8.out 0 a n (tk_hasG HG.out) tk_hasN).mono ?_
        rintro e w9 ⟨rfl, h9, _⟩
        have H9 := Lib.hid h9
        clear h9
        go_wp2_with fail
        refine (works _).mono ?_
        rintro e w10 ⟨rfl, hb10⟩
        have HB := Lib.hid (below_then H9.out.low hb10)
        clear hb10
        go_wp2
        go_ret
        exact ⟨rfl, HB.out⟩
end Go.Proofs.Ythjonjkeaiobdaa
