/-
  Counts of the document.
-/
import Derived.Test.YtnnfmlbgoplnaaaCo
set_option linter.unusedVariables false
set_option linter.unusedSimpArgs false
namespace Go.Proofs.Ytnnfmlbgoplnaaa
open Go Go.RowKit

set_option maxHeartbeats 2000000 in
theorem rCounts (x : Int) (hx : okW x) (w : World) :
    Calls Try.prog 68 #[.int .u64 x] w fun e w' => e = .returned (.tuple #[(cntV x).agg, .bool (decide (isC x))]) ∧ Below w.heap.size w w' := by
  have hc : cntV x = if isC x then inC x else zC := rfl
  have hi : isC x = (mayC (inC x) ∧ wdC (inC x) = x) := rfl
  have hP := rPack (inC x)
  have hI : inC x = ⟨x % 256, x / 256 % 256, decide (x / 65536 % 2 = 1), decide (x / 131072 % 2 = 1)⟩ := rfl
  have hf0 : (x / 65536 % 2 == 1) = decide (x / 65536 % 2 = 1) := rfl
  have hl0 : (x / 131072 % 2 == 1) = decide (x / 131072 % 2 = 1) := rfl
  obtain ⟨p, hp⟩ : ∃ p, x % 256 = p := ⟨_, rfl⟩
  obtain ⟨q, hq⟩ : ∃ q, x / 256 % 256 = q := ⟨_, rfl⟩
  have hp2 : 0 ≤ p ∧ p < 256 := by omega
  have hq2 : 0 ≤ q ∧ q < 256 := by omega
  obtain ⟨f, hf⟩ : ∃ f, decide (x / 65536 % 2 = 1) = f := ⟨_, rfl⟩
  obtain ⟨l, hl⟩ : ∃ l, decide (x / 131072 % 2 = 1) = l := ⟨_, rfl⟩
  have hf1 : (x / 65536 % 2 == 1) = f := hf0.trans hf
  have hl1 : (x / 131072 % 2 == 1) = l := hl0.trans hl
  rw [hp, hq, hf, hl] at hI
  rw [hI] at hc hi hP
  obtain ⟨X, hX⟩ : ∃ X : Ct, (⟨p, q, f, l⟩ : Ct) = X := ⟨_, rfl⟩
  rw [hX] at hc hi hP
  have HXX := Lib.hid hX
  clear hI hf0 hl0 hf hl hX
  obtain ⟨p1, p2⟩ := hp2
  obtain ⟨q1, q2⟩ := hq2
  have hx' := hx
  obtain ⟨hx1, hx2⟩ := hx'
  by_cases hm : mayC X
  · rw [← (pack_good hm).1, ← (pack_good hm).2] at hP
    by_cases hv : wdC X = x
    · have h1 : isC x := by rw [hi]; exact ⟨hm, hv⟩
      rw [hc, if_pos h1, decide_eq_true h1]
      rw [hv] at hP
      have HP := Lib.hid hP
      have hxx : (x != x) = false := by simp
      clear hc hi hP hm hv h1 hx
      go_enter Try.func68, Try.ntmps68
      go_wp2_with (refine wpList_storeC (by rfl) _ _ (by rfl) (w.heap.size + 1) ⟨p, q, f, l⟩ (by rfl) (by rfl) _ (heap_new2 _ _ _) rfl ?_; intro w2 h2 hk2; rw [HXX.out] at h2; have hb2 := below_one_kept (W := w.alloc ct0) (below_one (Below.refl _ _) _) hk2 (by rw [size_alloc]; exact Nat.le_refl _); have HK2 := Lib.hid ((zero_new w).below hb2); have HX2 := Lib.hid h2; have HL2 := Lib.hid (below_then (below_one (Below.refl _ _) _) hb2); clear h2 hk2 hb2; refine Stop.mk ?_)
      unfold Stop
      go_wp2_with (refine wpList_loadC (by rfl) _ (by rfl) (w.heap.size + 1) X (by rfl) HX2.out ?_)
      refine (HP.out _).mono ?_
      rintro e w3 ⟨rfl, hb3⟩
      have HK3 := Lib.hid (HK2.out.below hb3)
      have HX3 := Lib.hid (HX2.out.below hb3)
      have HL3 := Lib.hid (below_then HL2.out hb3)
      clear hb3 HL2 HK2 HX2
      go_wp2_with (first
        | (refine wpList_loadC (by rfl) _ (by rfl) (w.heap.size + 1) X (by rfl) HX3.out ?_)
        | (refine wpList_storeC (by rfl) _ _ (by rfl) w.heap.size X (by rfl) (by rfl) _ HK3.out rfl ?_; intro w4 h4 hk4))
      exact bodyPost_ret (res_rcounts rfl rfl h4) rfl ⟨rfl, below_one_kept HL3.out hk4 (Nat.le_refl _)⟩
    · have h1 : ¬ isC x := by rw [hi]; exact fun e => hv e.2
      rw [hc, if_neg h1, decide_eq_false h1]
      have hxx : (wdC X != x) = true := by simpa using hv
      generalize wdC X = V at *
      have HP := Lib.hid hP
      clear hc hi hP hm hv h1 hx
      go_enter Try.func68, Try.ntmps68
      go_wp2_with (refine wpList_storeC (by rfl) _ _ (by rfl) (w.heap.size + 1) ⟨p, q, f, l⟩ (by rfl) (by rfl) _ (heap_new2 _ _ _) rfl ?_; intro w2 h2 hk2; rw [HXX.out] at h2; have hb2 := below_one_kept (W := w.alloc ct0) (below_one (Below.refl _ _) _) hk2 (by rw [size_alloc]; exact Nat.le_refl _); have HK2 := Lib.hid ((zero_new w).below hb2); have HX2 := Lib.hid h2; have HL2 := Lib.hid (below_then (below_one (Below.refl _ _) _) hb2); clear h2 hk2 hb2; refine Stop.mk ?_)
      unfold Stop
      go_wp2_with (refine wpList_loadC (by rfl) _ (by rfl) (w.heap.size + 1) X (by rfl) HX2.out ?_)
      refine (HP.out _).mono ?_
      rintro e w3 ⟨rfl, hb3⟩
      have HK3 := Lib.hid (HK2.out.below hb3)
      have HL3 := Lib.hid (below_then HL2.out hb3)
      clear hb3 HL2 HK2 HX2
      go_wp2_with (refine wpList_storeC (by rfl) _ _ (by rfl) w.heap.size zC (by rfl) (by rfl) _ HK3.out rfl ?_; intro w5 h5 hk5)
      exact bodyPost_ret (res_rcounts rfl rfl h5) rfl ⟨rfl, below_one_kept HL3.out hk5 (Nat.le_refl _)⟩
  · rw [← (pack_bad hm).1, ← (pack_bad hm).2] at hP
    have h1 : ¬ isC x := by rw [hi]; exact fun e => hm e.1
    rw [hc, if_neg h1, decide_eq_false h1]
    have HP := Lib.hid hP
    clear hc hi hP hm h1 hx
    go_enter Try.func68, Try.ntmps68
    go_wp2_with (refine wpList_storeC (by rfl) _ _ (by rfl) (w.heap.size + 1) ⟨p, q, f, l⟩ (by rfl) (by rfl) _ (heap_new2 _ _ _) rfl ?_; intro w2 h2 hk2; rw [HXX.out] at h2; have hb2 := below_one_kept (W := w.alloc ct0) (below_one (Below.refl _ _) _) hk2 (by rw [size_alloc]; exact Nat.le_refl _); have HK2 := Lib.hid ((zero_new w).below hb2); have HX2 := Lib.hid h2; have HL2 := Lib.hid (below_then (below_one (Below.refl _ _) _) hb2); clear h2 hk2 hb2; refine Stop.mk ?_)
    unfold Stop
    go_wp2_with (refine wpList_loadC (by rfl) _ (by rfl) (w.heap.size + 1) X (by rfl) HX2.out ?_)
    refine (HP.out _).mono ?_
    rintro e w3 ⟨rfl, hb3⟩
    have HK3 := Lib.hid (HK2.out.below hb3)
    have HL3 := Lib.hid (below_then HL2.out hb3)
    clear hb3 HL2 HK2 HX2
    go_wp2_with (refine wpList_storeC (by rfl) _ _ (by rfl) w.heap.size zC (by rfl) (by rfl) _ HK3.out rfl ?_; intro w5 h5 hk5)
    exact bodyPost_ret (res_rcounts rfl rfl h5) rfl ⟨rfl, below_one_kept HL3.out hk5 (Nat.le_refl _)⟩
end Go.Proofs.Ytnnfmlbgoplnaaa
