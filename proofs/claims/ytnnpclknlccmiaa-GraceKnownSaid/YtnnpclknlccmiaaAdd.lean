/-
  Add, of the program and of the document's answer.
-/
import Derived.Test.YtnnpclknlccmiaaQueue

set_option linter.unusedVariables false
set_option linter.unusedSimpArgs false
namespace Go.Proofs.Ytnnpclknlccmiaa
open Go Go.RowKit

theorem len_one (x : Wt) : ([x] : List Wt).length = 1 := rfl
theorem lit_one (w : World) (a d : Int) : ShowW (w.alloc (.cells #[.int .i64 a, .int .i64 d] 82)) (.slice (some ⟨w.heap.size, 0, none⟩) 1 1) [Wt.mk a d] := lit_w w _ [Wt.mk a d] 1 rfl (by omega)
theorem self2 {w : World} {K : Nat} {a b : Value} {t : TypeId} {fr : Nat × Nat} (h : w.heap[K]? = some (.cells #[a, b] t fr)) : w.cell? ⟨K, 0, none⟩ = some a ∧ w.cell? ⟨K, 1, none⟩ = some b := ⟨self_cell h 0 _ rfl, self_cell h 1 _ rfl⟩
theorem undrew {w w' : World} (h : Below w.drew.heap.size w.drew w') : Below w.heap.size w w' := (below_drewN (Below.refl _ w) 1).trans h
theorem below_lit' {w w' : World} {o : Obj} (hb : Below (w.drew.alloc o).heap.size (w.drew.alloc o) w') : Below w.heap.size w w' :=
  (below_one (below_drewN (Below.refl w.heap.size w) 1) o).trans (hb.mono (by rw [size_alloc]; exact Nat.le_succ _))
/-- what Add answers -/
def AddIs (w : World) (l : List Wt) (x : Wt) (e : Ending) (w' : World) : Prop := ∃ ao n cap, n = (addL l x).length ∧ e = .returned (.tuple #[.slice ao n cap, .int .i64 (addF l x)]) ∧ OwnW w.heap.size w' (.slice ao n cap) (addL l x) ∧ Below w.heap.size w w'
theorem AddIs.bare {w w' : World} {l : List Wt} {x : Wt} {c : Int} (h : addF l x = c ∧ addL l x = []) (hb : Below w.heap.size w w') : AddIs w l x (.returned (.tuple #[.slice none 0 0, .int .i64 c])) w' := by
  refine ⟨none, 0, 0, by rw [h.2]; rfl, by rw [h.1], ?_, hb⟩
  rw [h.2]
  exact OwnW.nil _ _
set_option maxHeartbeats 1000000 in
set_option maxRecDepth 100000 in
theorem cAdd (u : Value) (l : List Wt) (a d : Int) (w : World) (hu : ShowW w u l) :
    Calls Try.prog 46 #[u, .agg #[.int .i64 a, .int .i64 d]] w (AddIs w l ⟨a, d⟩) := by
  obtain ⟨c, hc⟩ : ∃ c, chkF l = c := ⟨_, rfl⟩
  have HC := Lib.hid hc
  have HU := Lib.hid hu
  have hb0 : Below w.heap.size w (w.alloc (.cells #[.int .i64 a, .int .i64 d] 82)) := below_one (Below.refl _ _) _
  have hx0 : (w.alloc (.cells #[.int .i64 a, .int .i64 d] 82)).heap[w.heap.size]? = some (.cells #[.int .i64 a, .int .i64 d] 82) := heap_new _ _
  clear hu hc
  go_enter Try.func46, Try.ntmps46
  go_wp2_with fail
  refine (cCheck _ l c HC.out _ (HU.out.below hb0)).mono ?_
  rintro e w1 ⟨rfl, hb⟩
  have hx1 := keep_block hx0 hb
  have hb1 := hb0.trans (hb.mono (by rw [size_alloc]; omega))
  clear hb hx0 hb0
  by_cases hc0 : c = 0
  rotate_left
  · have HR : Hid (addF l ⟨a, d⟩ = c ∧ addL l ⟨a, d⟩ = []) := Lib.hid (by have := add_bad (x := ⟨a, d⟩) (fun e => hc0 (HC.out.symm.trans e)); rw [HC.out] at this; exact this)
    have hq : (c != 0) = true := by simpa using hc0
    go_wp2
    go_ret2
    exact AddIs.bare HR.out hb1
  subst hc0
  have hlen := chk_len HC.out
  obtain ⟨x0, x1⟩ := self2 hx1
  obtain ⟨c2, hc2⟩ : ∃ c, chkF (l ++ [Wt.mk a d]) = c := ⟨_, rfl⟩
  have HC2 := Lib.hid hc2
  have HB1 := Lib.hid hb1
  have hlt1 := lt_of_block hx1
  clear hc2 hb1
  go_wp2_with fail
  refine (cQueue _ _ l [Wt.mk a d] _ (HU.out.below (below_one HB1.out _)) (lit_one w1 a d) (by rw [len_one]; omega)).mono ?_
  rintro e w2 ⟨ao, cap, rfl, hown, hb⟩
  have HOWN : Hid (OwnW w.heap.size w2 (.slice ao (l ++ [Wt.mk a d]).length cap) (l ++ [Wt.mk a d])) := Lib.hid (hown.le (Nat.le_trans HB1.out.size (by rw [size_alloc]; omega)))
  have HB2 := Lib.hid ((below_one HB1.out _).trans (hb.mono (below_one HB1.out _).size))
  clear hown hb x0 x1 hx1 hlt1
  obtain ⟨n, hn⟩ : ∃ n, (l ++ [Wt.mk a d]).length = n := ⟨_, rfl⟩
  rw [hn] at HOWN ⊢
  have HNN := Lib.hid hn
  clear hn
  go_wp2_with fail
  refine (cCheck _ (l ++ [Wt.mk a d]) c2 HC2.out _ HOWN.out.shows).mono ?_
  rintro e w3 ⟨rfl, hb⟩
  have HOWN3 := Lib.hid (HOWN.out.below hb)
  have HB3 := Lib.hid (below_then HB2.out hb)
  clear hb
  by_cases hc0 : c2 = 0
  rotate_left
  · have HR : Hid (addF l ⟨a, d⟩ = c2 ∧ addL l ⟨a, d⟩ = []) := Lib.hid (by have := add_no (x := ⟨a, d⟩) HC.out (fun e => hc0 (HC2.out.symm.trans e)); rw [HC2.out] at this; exact this)
    have hq : (c2 != 0) = true := by simpa using hc0
    go_wp2
    go_ret2
    exact AddIs.bare HR.out HB3.out
  subst hc0
  have HR := Lib.hid (add_yes HC.out HC2.out)
  go_wp2
  go_ret2
  exact ⟨ao, n, cap, by rw [HR.out.2, HNN.out], by rw [HR.out.1]; rfl, by rw [HR.out.2]; exact HOWN3.out, HB3.out⟩
set_option maxHeartbeats 1000000 in
set_option maxRecDepth 100000 in
theorem rAdd (u : Value) (l : List Wt) (a d : Int) (w : World) (hu : ShowW w u l) :
    Calls Try.prog 51 #[u, .agg #[.int .i64 a, .int .i64 d]] w (AddIs w l ⟨a, d⟩) := by
  obtain ⟨c, hc⟩ : ∃ c, chkF l = c := ⟨_, rfl⟩
  have HC := Lib.hid hc
  have HU := Lib.hid hu
  obtain ⟨uo, ucap, rfl, _⟩ := hu.form
  have hb0 : Below w.heap.size w (w.alloc (.cells #[.int .i64 a, .int .i64 d] 82)) := below_one (Below.refl _ _) _
  have hx0 : (w.alloc (.cells #[.int .i64 a, .int .i64 d] 82)).heap[w.heap.size]? = some (.cells #[.int .i64 a, .int .i64 d] 82) := heap_new _ _
  clear hu hc
  go_enter Try.func51, Try.ntmps51
  go_wp2_with fail
  refine (rCheck _ l c HC.out _ (HU.out.below hb0)).mono ?_
  rintro e w1 ⟨rfl, hb⟩
  have hx1 := keep_block hx0 hb
  have hb1 := hb0.trans (hb.mono (by rw [size_alloc]; omega))
  clear hb hx0 hb0
  by_cases hc0 : c = 0
  rotate_left
  · have HR : Hid (addF l ⟨a, d⟩ = c ∧ addL l ⟨a, d⟩ = []) := Lib.hid (by have := add_bad (x := ⟨a, d⟩) (fun e => hc0 (HC.out.symm.trans e)); rw [HC.out] at this; exact this)
    have hq : (c != 0) = true := by simpa using hc0
    go_wp2
    go_ret2
    exact AddIs.bare HR.out hb1
  subst hc0
  have hlen := chk_len HC.out
  obtain ⟨x0, x1⟩ := self2 hx1
  obtain ⟨c2, hc2⟩ : ∃ c, chkF (l ++ [Wt.mk a d]) = c := ⟨_, rfl⟩
  by_cases h256 : l.length = 256
  · have h256i : (l.length : Int) = 256 := by omega
    have HR : Hid (addF l ⟨a, d⟩ = 5 ∧ addL l ⟨a, d⟩ = []) := Lib.hid (by
      have h5 := snoc_five (x := ⟨a, d⟩) HC.out h256
      have := add_no (x := ⟨a, d⟩) HC.out (by rw [h5]; decide)
      rw [h5] at this
      exact this)
    have hq : ((l.length : Int) == 256) = true := by simp [h256]
    clear h256
    go_wp2
    go_ret2
    exact AddIs.bare HR.out hb1
  have HN2 : Hid (c2 ≠ 0 → c2 = 2) := Lib.hid (fun h => by rw [← hc2] at h ⊢; exact snoc_two HC.out h256 h)
  have h256i : ¬ (l.length : Int) = 256 := by omega
  have hq : ((l.length : Int) == 256) = false := by simp; omega
  have HC2 := Lib.hid hc2
  have HB1 := Lib.hid hb1
  have HX1 := Lib.hid hx1
  have hlt1 := lt_of_block hx1
  clear hc2 hb1 hx1
  go_wp2_with fail
  go_region_law (first
    | (go_simp; go_at_call 55; refine (rCopy _ l _ (show ShowW w1.drew _ l from HU.out.below (below_drewN HB1.out 1)) (by omega)).mono ?_; rintro e w2 ⟨ao2, cap2, rfl, hown2, hb2⟩; have hx2 := keep_block (show w1.drew.heap[w.heap.size]? = some _ from HX1.out) hb2; obtain ⟨y0, y1⟩ := self2 hx2; have ylt := lt_of_block hx2; have HO2 : Hid (OwnW w1.heap.size w2 (.slice ao2 l.length cap2) l ∧ Below w1.heap.size w1 w2) := Lib.hid ⟨hown2, undrew hb2⟩; clear hown2 hb2 hx2)
    | (go_simp; go_at_call 55; refine (rCopy _ l _ (show ShowW (w1.drew.alloc _) _ l from HU.out.below (below_one (below_drewN HB1.out 1) _)) (by omega)).mono ?_; rintro e w2 ⟨ao2, cap2, rfl, hown2, hb2⟩; have HO2 : Hid (OwnW w1.heap.size w2 (.slice ao2 l.length cap2) l ∧ Below w1.heap.size w1 w2 ∧ ShowW w2 (.slice (some ⟨w1.heap.size, 0, none⟩) 1 1) [Wt.mk a d]) := Lib.hid ⟨hown2.le (by simp [size_alloc]), below_lit' hb2, (lit_one w1.drew a d).below hb2⟩; clear hown2 hb2)
    | (refine step_appendW (by rfl) _ _ (by rfl) w1.heap.size _ _ l [Wt.mk a d] (by rfl) (by rfl) (HO2.out.1.below (below_one (Below.refl _ _) _)) (lit_one w2 a d) (by rw [len_one]; omega) (Nat.le_trans HO2.out.2.size (by rw [size_alloc]; omega)) ?_; intro ao3 cap3 w3 hown3 hb3; have HO3 : Hid (OwnW w1.heap.size w3 (.slice ao3 (l ++ [Wt.mk a d]).length cap3) (l ++ [Wt.mk a d]) ∧ Below w1.heap.size w1 w3) := Lib.hid ⟨hown3, (below_one HO2.out.2 _).trans hb3⟩; clear hown3 hb3)
    | (refine step_appendW (by rfl) _ _ (by rfl) w1.heap.size _ _ l [Wt.mk a d] (by rfl) (by rfl) HO2.out.1 HO2.out.2.2 (by rw [len_one]; omega) HO2.out.2.1.size ?_; intro ao3 cap3 w3 hown3 hb3; have HO3 : Hid (OwnW w1.heap.size w3 (.slice ao3 (l ++ [Wt.mk a d]).length cap3) (l ++ [Wt.mk a d]) ∧ Below w1.heap.size w1 w3) := Lib.hid ⟨hown3, HO2.out.2.1.trans hb3⟩; clear hown3 hb3))
  all_goals
    obtain ⟨n, hn⟩ : ∃ n, (l ++ [Wt.mk a d]).length = n := ⟨_, rfl⟩
    rw [List.length_append, len_one] at hn
    rw [List.length_append, len_one, hn] at HO3
    first | rw [hn] | rw [List.length_append, len_one, hn]
    have HB3 := Lib.hid (HB1.out.trans (HO3.out.2.mono HB1.out.size))
    have HNN : Hid ((l ++ [Wt.mk a d]).length = n) := Lib.hid (by rw [List.length_append, len_one, hn])
    have HO4 := Lib.hid (HO3.out.1.le HB1.out.size)
    clear HO2 HO3 hn
    go_wp2_with fail
    refine (rCheck _ (l ++ [Wt.mk a d]) c2 HC2.out _ HO4.out.shows).mono ?_
    rintro e w4 ⟨rfl, hb⟩
    have HO5 := Lib.hid (HO4.out.below hb)
    have HB4 := Lib.hid (below_then HB3.out hb)
    clear hb
    by_cases hc0 : c2 = 0
    · subst hc0
      have HR := Lib.hid (add_yes HC.out HC2.out)
      go_wp2
      go_ret2
      exact ⟨_, n, _, by rw [HR.out.2, HNN.out], by rw [HR.out.1]; rfl, by rw [HR.out.2]; exact HO5.out, HB4.out⟩
    · have HR : Hid (addF l ⟨a, d⟩ = 2 ∧ addL l ⟨a, d⟩ = []) := Lib.hid (by have := add_no (x := ⟨a, d⟩) HC.out (fun e => hc0 (HC2.out.symm.trans e)); rw [HC2.out, HN2.out hc0] at this; exact this)
      have hq : (c2 != 0) = true := by simpa using hc0
      go_wp2
      go_ret2
      exact AddIs.bare HR.out HB4.out
end Go.Proofs.Ytnnpclknlccmiaa
