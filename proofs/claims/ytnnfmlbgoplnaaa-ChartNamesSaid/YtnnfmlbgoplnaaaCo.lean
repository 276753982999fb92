/-
  Counts: the program's (countsIn, decoded), and the document's.
-/
import Derived.Test.YtnnfmlbgoplnaaaPr
set_option linter.unusedVariables false
set_option linter.unusedSimpArgs false
namespace Go.Proofs.Ytnnfmlbgoplnaaa
open Go Go.RowKit


theorem res_countsIn {tmps : Array Value} {K : Nat} {w : World} {c : Ct} (h2 : tmps.getD 2 undef = .pointer (some ⟨K, 0, none⟩)) (hb : CtAt w K c) :
    (results Try.f75 tmps).run Try.prog w = .ok c.agg w := by
  obtain ⟨fs, hf⟩ := underC
  exact results_cell_row rfl tmps w K _ c.arr _ (.struct fs) h2 hb hf rfl infoC
theorem res_dec {tmps : Array Value} {K : Nat} {w : World} {c : Ct} {b : Bool} (h2 : tmps.getD 6 undef = .pointer (some ⟨K, 0, none⟩)) (h3 : tmps.getD 7 undef = .bool b) (hb : CtAt w K c) :
    (results Try.f74 tmps).run Try.prog w = .ok (.tuple #[c.agg, .bool b]) w := by
  obtain ⟨c0, c1, c2, c3⟩ := hb.cells
  rw [Array.getD_eq_getD_getElem?] at h2 h3
  simp [results, Try.f74, h2, h3, c0, c1, c2, c3, go_sem]
theorem res_counts {tmps : Array Value} {K : Nat} {w : World} {c : Ct} {b : Bool} (h2 : tmps.getD 2 undef = .pointer (some ⟨K, 0, none⟩)) (h3 : tmps.getD 3 undef = .bool b) (hb : CtAt w K c) :
    (results Try.f63 tmps).run Try.prog w = .ok (.tuple #[c.agg, .bool b]) w := by
  obtain ⟨c0, c1, c2, c3⟩ := hb.cells
  rw [Array.getD_eq_getD_getElem?] at h2 h3
  simp [results, Try.f63, h2, h3, c0, c1, c2, c3, go_sem]
theorem res_rcounts {tmps : Array Value} {K : Nat} {w : World} {c : Ct} {b : Bool} (h2 : tmps.getD 2 undef = .pointer (some ⟨K, 0, none⟩)) (h3 : tmps.getD 3 undef = .bool b) (hb : CtAt w K c) :
    (results Try.f68 tmps).run Try.prog w = .ok (.tuple #[c.agg, .bool b]) w := by
  obtain ⟨c0, c1, c2, c3⟩ := hb.cells
  rw [Array.getD_eq_getD_getElem?] at h2 h3
  simp [results, Try.f68, h2, h3, c0, c1, c2, c3, go_sem]
theorem zero_new (w : World) : CtAt (w.alloc ct0) w.heap.size zC := heap_new _ _
set_option maxHeartbeats 2000000 in
theorem cCountsIn (x : Int) (hx : okW x) (w : World) :
    Calls Try.prog 75 #[.int .u64 x] w fun e w' => e = .returned (inC x).agg ∧ Below w.heap.size w w' := by
  have hA := and255 hx
  have hB := and255 (x := x / 256) ⟨by have := hx.1; omega, by have := hx.2; omega⟩
  have hF := and65536 hx
  have hL := and131072 hx
  have hI : inC x = ⟨x % 256, x / 256 % 256, decide (x / 65536 % 2 = 1), decide (x / 131072 % 2 = 1)⟩ := rfl
  rw [hI]
  obtain ⟨p, hp⟩ : ∃ p, x % 256 = p := ⟨_, rfl⟩
  obtain ⟨q, hq⟩ : ∃ q, x / 256 % 256 = q := ⟨_, rfl⟩
  rw [hp] at hA ⊢
  rw [hq] at hB ⊢
  generalize decide (x / 65536 % 2 = 1) = f at hF ⊢
  generalize decide (x / 131072 % 2 = 1) = l at hL ⊢
  have hp2 : 0 ≤ p ∧ p < 256 := by omega
  have hq2 : 0 ≤ q ∧ q < 256 := by omega
  obtain ⟨p1, p2⟩ := hp2
  obtain ⟨q1, q2⟩ := hq2
  clear hI hp hq
  obtain ⟨hx1, hx2⟩ := hx
  go_enter Try.func75, Try.ntmps75
  go_wp2_with (refine wpList_storeC (by rfl) _ _ (by rfl) w.heap.size ⟨p, q, f, l⟩ (by rfl) (by rfl) _ (zero_new w) rfl ?_; intro w2 h2 hk2)
  exact bodyPost_ret (res_countsIn rfl h2) rfl ⟨rfl, below_one_kept (below_one (Below.refl _ _) _) hk2 (Nat.le_refl _)⟩
set_option maxHeartbeats 2000000 in
theorem cDecC (x : Int) (hx : okW x) (w : World) :
    Calls Try.prog 74 #[.int .u64 x, fnV 75, fnV 76] w fun e w' => e = .returned (.tuple #[(cntV x).agg, .bool (decide (isC x))]) ∧ Below w.heap.size w w' := by
  have HI := Lib.hid (cCountsIn x hx)
  have H0 := Lib.hid (cCountsIn 0 (by decide))
  rw [in0] at H0
  have hc : cntV x = if isC x then inC x else zC := rfl
  have hi : isC x = (mayC (inC x) ∧ wdC (inC x) = x) := rfl
  have hP := cPack (inC x)
  generalize inC x = X at *
  by_cases hm : mayC X
  · rw [← (pack_good hm).1, ← (pack_good hm).2] at hP
    by_cases hv : wdC X = x
    · have h1 : isC x := by rw [hi]; exact ⟨hm, hv⟩
      rw [hc, if_pos h1, decide_eq_true h1]
      rw [hv] at hP
      have HP := Lib.hid hP
      have hxx : (x != x) = false := by simp
      clear hc hi hP hm hv h1 H0 hx
      go_enter Try.func74, Try.ntmps74
      go_wp2_with fail
      refine (HI.out _).mono ?_
      rintro e w1 ⟨rfl, hb1⟩
      have HK1 := Lib.hid ((zero_new w).below hb1)
      have HL1 := Lib.hid (below_then (below_one (Below.refl _ _) _) hb1)
      clear hb1
      go_wp2_with (refine wpList_storeC (by rfl) _ _ (by rfl) w1.heap.size X (by rfl) (by rfl) _ (zero_new w1) rfl ?_; intro w2 h2 hk2; have hb2 := below_one_kept (below_one (Below.refl w1.heap.size w1) _) hk2 (Nat.le_refl _); have HK2 := Lib.hid (HK1.out.below hb2); have HX2 := Lib.hid h2; have HL2 := Lib.hid (below_then HL1.out hb2); have HS2 := Lib.hid HL1.out.size; clear h2 hk2 hb2 HL1 HK1; refine Stop.mk ?_)
      unfold Stop
      go_wp2_with (refine wpList_loadC (by rfl) _ (by rfl) w1.heap.size X (by rfl) HX2.out ?_)
      refine (HP.out _).mono ?_
      rintro e w3 ⟨rfl, hb3⟩
      have HK3 := Lib.hid (HK2.out.below hb3)
      have HX3 := Lib.hid (HX2.out.below hb3)
      have HL3 := Lib.hid (below_then HL2.out hb3)
      clear hb3 HL2 HK2 HX2
      go_wp2_with (first
        | (refine wpList_loadC (by rfl) _ (by rfl) w1.heap.size X (by rfl) HX3.out ?_)
        | (refine wpList_storeC (by rfl) _ _ (by rfl) w.heap.size X (by rfl) (by rfl) _ HK3.out rfl ?_; intro w4 h4 hk4))
      exact bodyPost_ret (res_dec rfl rfl h4) rfl ⟨rfl, below_one_kept HL3.out hk4 (Nat.le_refl _)⟩
    · have h1 : ¬ isC x := by rw [hi]; exact fun e => hv e.2
      rw [hc, if_neg h1, decide_eq_false h1]
      have hxx : (wdC X != x) = true := by simpa using hv
      generalize wdC X = V at *
      have HP := Lib.hid hP
      clear hc hi hP hm hv h1 hx
      go_enter Try.func74, Try.ntmps74
      go_wp2_with fail
      refine (HI.out _).mono ?_
      rintro e w1 ⟨rfl, hb1⟩
      have HK1 := Lib.hid ((zero_new w).below hb1)
      have HL1 := Lib.hid (below_then (below_one (Below.refl _ _) _) hb1)
      clear hb1
      go_wp2_with (refine wpList_storeC (by rfl) _ _ (by rfl) w1.heap.size X (by rfl) (by rfl) _ (zero_new w1) rfl ?_; intro w2 h2 hk2; have hb2 := below_one_kept (below_one (Below.refl w1.heap.size w1) _) hk2 (Nat.le_refl _); have HK2 := Lib.hid (HK1.out.below hb2); have HX2 := Lib.hid h2; have HL2 := Lib.hid (below_then HL1.out hb2); clear h2 hk2 hb2 HL1 HK1; refine Stop.mk ?_)
      unfold Stop
      go_wp2_with (refine wpList_loadC (by rfl) _ (by rfl) w1.heap.size X (by rfl) HX2.out ?_)
      refine (HP.out _).mono ?_
      rintro e w3 ⟨rfl, hb3⟩
      have HK3 := Lib.hid (HK2.out.below hb3)
      have HL3 := Lib.hid (below_then HL2.out hb3)
      clear hb3 HL2 HK2 HX2 HI
      go_wp2_with fail
      refine (H0.out _).mono ?_
      rintro e w4 ⟨rfl, hb4⟩
      have HK4 := Lib.hid (HK3.out.below hb4)
      have HL4 := Lib.hid (below_then HL3.out hb4)
      clear hb4 HL3 HK3
      go_wp2_with (refine wpList_storeC (by rfl) _ _ (by rfl) w.heap.size zC (by rfl) (by rfl) _ HK4.out rfl ?_; intro w5 h5 hk5)
      exact bodyPost_ret (res_dec rfl rfl h5) rfl ⟨rfl, below_one_kept HL4.out hk5 (Nat.le_refl _)⟩
  · rw [← (pack_bad hm).1, ← (pack_bad hm).2] at hP
    have h1 : ¬ isC x := by rw [hi]; exact fun e => hm e.1
    rw [hc, if_neg h1, decide_eq_false h1]
    have HP := Lib.hid hP
    clear hc hi hP hm h1 hx
    go_enter Try.func74, Try.ntmps74
    go_wp2_with fail
    refine (HI.out _).mono ?_
    rintro e w1 ⟨rfl, hb1⟩
    have HK1 := Lib.hid ((zero_new w).below hb1)
    have HL1 := Lib.hid (below_then (below_one (Below.refl _ _) _) hb1)
    clear hb1
    go_wp2_with (refine wpList_storeC (by rfl) _ _ (by rfl) w1.heap.size X (by rfl) (by rfl) _ (zero_new w1) rfl ?_; intro w2 h2 hk2; have hb2 := below_one_kept (below_one (Below.refl w1.heap.size w1) _) hk2 (Nat.le_refl _); have HK2 := Lib.hid (HK1.out.below hb2); have HX2 := Lib.hid h2; have HL2 := Lib.hid (below_then HL1.out hb2); clear h2 hk2 hb2 HL1 HK1; refine Stop.mk ?_)
    unfold Stop
    go_wp2_with (refine wpList_loadC (by rfl) _ (by rfl) w1.heap.size X (by rfl) HX2.out ?_)
    refine (HP.out _).mono ?_
    rintro e w3 ⟨rfl, hb3⟩
    have HK3 := Lib.hid (HK2.out.below hb3)
    have HL3 := Lib.hid (below_then HL2.out hb3)
    clear hb3 HL2 HK2 HX2 HI
    go_wp2_with fail
    refine (H0.out _).mono ?_
    rintro e w4 ⟨rfl, hb4⟩
    have HK4 := Lib.hid (HK3.out.below hb4)
    have HL4 := Lib.hid (below_then HL3.out hb4)
    clear hb4 HL3 HK3
    go_wp2_with (refine wpList_storeC (by rfl) _ _ (by rfl) w.heap.size zC (by rfl) (by rfl) _ HK4.out rfl ?_; intro w5 h5 hk5)
    exact bodyPost_ret (res_dec rfl rfl h5) rfl ⟨rfl, below_one_kept HL4.out hk5 (Nat.le_refl _)⟩
set_option maxHeartbeats 2000000 in
theorem cCounts (x : Int) (hx : okW x) (w : World) :
    Calls Try.prog 63 #[.int .u64 x] w fun e w' => e = .returned (.tuple #[(cntV x).agg, .bool (decide (isC x))]) ∧ Below w.heap.size w w' := by
  have HD := Lib.hid (cDecC x hx)
  generalize cntV x = X at *
  generalize decide (isC x) = b at *
  clear hx
  go_enter Try.func63, Try.ntmps63
  go_wp2_with fail
  refine (HD.out _).mono ?_
  rintro e w1 ⟨rfl, hb1⟩
  have HK1 := Lib.hid ((zero_new w).below hb1)
  have HL1 := Lib.hid (below_then (below_one (Below.refl _ _) _) hb1)
  clear hb1
  go_wp2_with (refine wpList_storeC (by rfl) _ _ (by rfl) w.heap.size X (by rfl) (by rfl) _ HK1.out rfl ?_; intro w2 h2 hk2)
  exact bodyPost_ret (res_counts rfl rfl h2) rfl ⟨rfl, below_one_kept HL1.out hk2 (Nat.le_refl _)⟩
end Go.Proofs.Ytnnfmlbgoplnaaa
