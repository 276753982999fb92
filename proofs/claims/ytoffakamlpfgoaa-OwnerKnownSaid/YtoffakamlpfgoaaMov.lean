/-
  Move and Empty of the program; all calls on owners that are none.
-/
import Derived.Test.YtoffakamlpfgoaaCnt
set_option linter.unusedVariables false
set_option linter.unusedSimpArgs false
namespace Go.Proofs.Ytoffakamlpfgoaa
open Go Go.RowKit
section
variable {Sx : Nat → Prop} {w w' : World} {B b S O D : Nat} {f f' : Ow} {p : Option Addr} {s i g n e a c : Int} {Ts : List TypeId}
/-- a move under way -/
structure MV (W w : World) (B b S O r : Nat) (f : Ow) (a c : Int) (left : Tst) (m : Nat) : Prop where
  rg : RangeAt w b r (movL f a c left) left m
  v : OV w B b S O (movL f a c left)
  k : Kept (· = b) W w
  ge : W.heap.size ≤ r
theorem MV.below {W : World} {r m : Nat} {left : Tst} (h : MV W w B b S O r f a c left m) (hb : Below w.heap.size w w') : MV W w' B b S O r f a c left m :=
  ⟨h.rg.below hb, h.v.below hb, h.k.trans (Kept.ofBelow hb), h.ge⟩
theorem MV.step {W : World} {r m m2 : Nat} {left : Tst} (h : MV W w B b S O r f a c left m) (hr : RangeAt w' b r (movL f a c left) (cut1 left s i) m2) (hk : Kept (· = r) w w') :
    RangeAt w' b r (movL f a c left) (cut1 left s i) m2 ∧ OV w' B b S O (movL f a c left) ∧ Kept (· = b) W w' :=
  ⟨hr, ⟨(hk.block B h.v.lt.1 (h.rg.nc h.v.box).1).trans h.v.box, hr.map, h.v.sz, h.v.oi⟩, by
    have hge := h.ge
    have hsz := h.k.size
    refine ⟨hk.os.trans h.k.os, hk.tape.trans h.k.tape, hk.output.trans h.k.output, Nat.le_trans h.k.size hk.size, fun k h1 h2 => ?_⟩
    rw [hk.block k (by omega) (by omega), h.k.block k h1 h2]⟩
set_option maxHeartbeats 4000000 in
set_option maxRecDepth 100000 in
theorem cMove (h : OV w B b S O f) (hr : MoveIs S O f a c n e f') :
    Calls Try.prog 14 #[.pointer (some ⟨B, 0, none⟩), .int .i64 a, .int .i64 c] w fun e' w' => e' = .returned (.tuple #[.int .i64 n, .int .i64 e]) ∧ OV w' B b S O f' ∧ Kept (· = b) w w' := by
  have HA := Lib.hid h
  cases hr with
  | gr hg =>
    clear h
    by_cases hga : grp a
    · have HGA := Lib.hid (decide_eq_true hga)
      have HGC := Lib.hid (decide_eq_false (fun e => hg ⟨hga, e⟩))
      clear hg hga
      go_enter Try.func14, Try.ntmps14
      go_wp2_with fail
      refine (cIsNone HA.out).mono ?_
      rintro e w1 ⟨rfl, rfl⟩
      go_wp2_with fail
      refine (cIsGroup _ _ HGA.out _).mono ?_
      rintro e w2 ⟨rfl, rfl⟩
      go_wp2_with fail
      refine (cIsGroup _ _ HGC.out _).mono ?_
      rintro e w3 ⟨rfl, rfl⟩
      go_wp2
      go_ret2
      exact ⟨rfl, HA.out, Kept.refl _ _⟩
    · have HGA := Lib.hid (decide_eq_false hga)
      clear hg hga
      go_enter Try.func14, Try.ntmps14
      go_wp2_with fail
      refine (cIsNone HA.out).mono ?_
      rintro e w1 ⟨rfl, rfl⟩
      go_wp2_with fail
      refine (cIsGroup _ _ HGA.out _).mono ?_
      rintro e w2 ⟨rfl, rfl⟩
      go_wp2
      go_ret2
      exact ⟨rfl, HA.out, Kept.refl _ _⟩
  | same hga hgc hac =>
    subst hac
    have HGA := Lib.hid (decide_eq_true hga)
    have haa : (a == a) = true := by simp
    clear h hga hgc
    go_enter Try.func14, Try.ntmps14
    go_wp2_with fail
    refine (cIsNone HA.out).mono ?_
    rintro e w1 ⟨rfl, rfl⟩
    go_wp2_with fail
    refine (cIsGroup _ _ HGA.out _).mono ?_
    rintro e w2 ⟨rfl, rfl⟩
    go_wp2_with fail
    refine (cIsGroup _ _ HGA.out _).mono ?_
    rintro e w3 ⟨rfl, rfl⟩
    go_wp2
    go_ret2
    exact ⟨rfl, HA.out, Kept.refl _ _⟩
  | ok hga hgc hac =>
    have HGA := Lib.hid (decide_eq_true hga)
    have HGC := Lib.hid (decide_eq_true hgc)
    have HP := Lib.hid (And.intro hga hgc)
    have hac2 : (a == c) = false := by simp [hac]
    have c2 := h.c2
    clear h hga hgc hac
    go_enter Try.func14, Try.ntmps14
    go_wp2_with fail
    refine (cIsNone HA.out).mono ?_
    rintro e w1 ⟨rfl, rfl⟩
    go_wp2_with fail
    refine (cIsGroup _ _ HGA.out _).mono ?_
    rintro e w2 ⟨rfl, rfl⟩
    go_wp2_with fail
    refine (cIsGroup _ _ HGC.out _).mono ?_
    rintro e w1 ⟨rfl, rfl⟩
    go_wp2_with (first | (at_range; refine wpList_rangeAt rfl _ rfl rfl HA.out.map ?_; intro w0 cnt0 hrg0 hb0 hs0) | go_in)
    go_frame
    obtain ⟨r, hr⟩ : ∃ r, w1.heap.size = r := ⟨_, rfl⟩
    rw [hr] at hrg0 ⊢
    clear hs0
    have H0 : Hid (MV w1 w0 B b S O r f a c (allL f) cnt0) := Lib.hid ⟨by rw [movL_start f c HP.out.1]; exact hrg0, by rw [movL_start f c HP.out.1]; exact HA.out.below hb0, Kept.ofBelow hb0, by omega⟩
    clear hr hrg0 hb0 c2
    go_loopw [8, 9, 10] (fun u v x wr => ∃ left m, u = .int .i64 ((cnt (tstL f a left) S O : Nat) : Int) ∧ Hid (MV w1 wr B b S O r f a c left m) ∧ Hid (∀ x y, left x y = true → f x y ≠ 0)) (fun _ _ _ wr => wr.rangeLeft b r)
    case atStart => exact ⟨_, cnt0, by rw [tstL_start]; rfl, H0, Lib.hid fun x y h => by simpa [allL] using h⟩
    case round =>
      obtain ⟨left, m, rfl, HG, HLN⟩ := hrel
      clear H0
      obtain ⟨C, hC⟩ : ∃ C, cnt (tstL f a left) S O = C := ⟨_, rfl⟩
      have hC4 : C ≤ 4096 := by rw [← hC]; exact cnt_small _ HA.out.sz.2.1 HA.out.sz.2.2.2
      rw [hC]
      have HC := Lib.hid hC
      clear hC
      go_wp2_with (first | (at_next; refine wpList_nextAt rfl _ rfl rfl HG.out.rg ?_ ?_) | go_in)
      · intro _ hl0
        have HE : Hid (cnt (ofG f a) S O = C) := Lib.hid ((tstL_ofG HA.out.oi HP.out.1 hl0).symm.trans HC.out)
        have HV : Hid (OV wr B b S O (mov f a c)) := Lib.hid (by have := HG.out.v; rw [movL_end f a c hl0] at this; exact this)
        clear hl0
        go_wp2
        go_ret2
        exact ⟨by rw [HE.out]; rfl, HV.out, HG.out.k⟩
      · intro s i w2 m2 hws hwi hl hrg2 hlt hk2 hen
        have H2 := Lib.hid (HG.out.step hrg2 hk2)
        rw [movL_at hl] at hen ⊢
        have hne : f s i ≠ 0 := HLN.out s i hl
        have HLN2 : Hid (∀ x y, cut1 left s i x y = true → f x y ≠ 0) := Lib.hid fun x y h => HLN.out x y (by simp [cut1] at h; exact h.1)
        have HWF := Lib.hid (And.intro hws hwi)
        have HLT : Hid (m2 < m) := Lib.hid hlt
        have HGE := Lib.hid HG.out.ge
        have HLE := Lib.hid HG.out.rg.left_eq
        by_cases hg : f s i = a
        · have HH1 : Hid (cnt (tstL f a (cut1 left s i)) S O = C + 1) := Lib.hid (by rw [tstL_hit HA.out.oi hne hl hg, HC.out])
          have HNZ : Hid (movL f a c left s i ≠ 0) := Lib.hid (by rw [movL_at hl]; exact hne)
          have HCZ : Hid (c ≠ 0) := Lib.hid (by have := HP.out.2; unfold grp at this; omega)
          have HUP : Hid (upd (movL f a c left) s i c = movL f a c (cut1 left s i)) := Lib.hid (movL_hit hg)
          have hgg : (f s i == a) = true := by simp [hg]
          clear hrg2 hk2 hne hl hlt hg hws hwi HG
          generalize f s i = G at hen hgg ⊢
          go_wp2
          obtain ⟨D, hD⟩ : ∃ D, w2.heap.size = D := ⟨_, rfl⟩
          obtain ⟨w3, hw3⟩ : ∃ w3, w2.alloc (.cells #[.int .i64 s, .int .i64 i] 54) = w3 := ⟨_, rfl⟩
          have hb3 : Below w2.heap.size w2 w3 := by rw [← hw3]; exact below_one (Below.refl _ _) _
          have hx3 : w3.heap[D]? = some (.cells #[.int .i64 s, .int .i64 i] 54 (0, 0)) := by rw [← hw3, ← hD]; exact heap_new _ _
          have H3 := Lib.hid (And.intro (H2.out.1.below hb3) (And.intro (OX.mk (H2.out.2.1.below hb3) hx3) (H2.out.2.2.trans (Kept.ofBelow hb3))))
          rw [hw3, hD]
          clear hw3 hD hb3 hx3 H2 hen
          have HR4 := Lib.hid (H3.out.1.below (Below.refl _ w3).drew)
          have H4 := Lib.hid H3.out.2.1.drew
          have HF4 := Lib.hid (And.intro H4.out.v.c2 (And.intro (self_cell H4.out.x 0 _ rfl) (self_cell H4.out.x 1 _ rfl)))
          obtain ⟨w5, hrun, hrg5, hk5⟩ := HR4.out.store HWF.out.1 HWF.out.2 HNZ.out HCZ.out
          rw [HUP.out] at hrg5
          have HR5 := Lib.hid hrg5
          have H5 := Lib.hid (H4.out.turn hrg5.map hk5 (HA.out.oi.movL HP.out.1 HP.out.2 _))
          have HK5 := Lib.hid (H3.out.2.2.trans (Kept.trans (Kept.ofBelow (S := (· = b)) (Below.refl _ w3).drew) hk5))
          have HF5 := Lib.hid (And.intro H5.out.v.c2 (And.intro (self_cell H5.out.x 0 _ rfl) (self_cell H5.out.x 1 _ rfl)))
          clear hrg5 hk5
          go_region_held3 (fun W => W.cell? ⟨B, 2, none⟩ = some (.map (some b)) ∧ W.cell? ⟨D, 0, none⟩ = some (.int .i64 s) ∧ W.cell? ⟨D, 1, none⟩ = some (.int .i64 i)) (first | exact HF4.out | exact HF5.out) (fail)
          go_wp2
          go_roundw
          case rel => exact ⟨cut1 left s i, m2, by rw [HH1.out]; go_num, Lib.hid ⟨HR5.out, H5.out.v, HK5.out, HGE.out⟩, HLN2⟩
          case measure => rw [HR5.out.left_eq, HLE.out]; exact HLT.out
        · have HM1 : Hid (cnt (tstL f a (cut1 left s i)) S O = C) := Lib.hid (by rw [tstL_miss S O hg, HC.out])
          have H3 : Hid (RangeAt w2 b r (movL f a c (cut1 left s i)) (cut1 left s i) m2 ∧ OV w2 B b S O (movL f a c (cut1 left s i)) ∧ Kept (· = b) w1 w2) := Lib.hid (by rw [movL_miss hg]; exact H2.out)
          have hgg : (f s i == a) = false := by simp [hg]
          clear hrg2 hk2 hne hl hlt hg hws hwi HG H2
          generalize f s i = G at hen hgg ⊢
          go_wp2
          go_roundw
          case rel => exact ⟨cut1 left s i, m2, by rw [HM1.out], Lib.hid (MV.below ⟨H3.out.1, H3.out.2.1, H3.out.2.2, HGE.out⟩ (below_one (Below.refl _ _) _)), HLN2⟩
          case measure => rw [(H3.out.1.below (below_one (Below.refl _ _) _)).left_eq, HLE.out]; exact HLT.out
theorem zMove (h : OZ w p) (a c : Int) : Calls Try.prog 14 #[.pointer p, .int .i64 a, .int .i64 c] w fun e w' => e = .returned (.tuple #[.int .i64 0, .int .i64 1]) ∧ w' = w := by
  have HA := Lib.hid h
  clear h
  go_enter Try.func14, Try.ntmps14
  go_wp2_with fail
  refine (zIsNone HA.out).mono ?_
  rintro e w2 ⟨rfl, rfl⟩
  go_wp2
  go_ret2
  exact ⟨rfl, rfl⟩
theorem zCount (h : OZ w p) (a : Int) : Calls Try.prog 20 #[.pointer p, .int .i64 a] w fun e w' => e = .returned (.int .i64 0) ∧ w' = w := by
  have HA := Lib.hid h
  clear h
  go_enter Try.func20, Try.ntmps20
  go_wp2_with fail
  refine (zIsNone HA.out).mono ?_
  rintro e w2 ⟨rfl, rfl⟩
  go_wp2
  go_ret
  exact ⟨rfl, rfl⟩
theorem zEmpty (h : OZ w p) (a : Int) : Calls Try.prog 19 #[.pointer p, .int .i64 a] w fun e w' => e = .returned (.bool false) ∧ w' = w := by
  have HA := Lib.hid h
  clear h
  go_enter Try.func19, Try.ntmps19
  go_wp2_with fail
  refine (zIsNone HA.out).mono ?_
  rintro e w2 ⟨rfl, rfl⟩
  go_wp2
  go_ret
  exact ⟨rfl, rfl⟩
set_option maxHeartbeats 2000000 in
set_option maxRecDepth 100000 in
theorem cEmpty (h : OV w B b S O f) (hs : wf64 s) (q : Bool) (hq : q = true ↔ Emp S O f s) : Calls Try.prog 19 #[.pointer (some ⟨B, 0, none⟩), .int .i64 s] w fun e w' => e = .returned (.bool q) ∧ Below w.heap.size w w' := by
  have HA := Lib.hid h
  by_cases hn : inn S O s 0
  · have HQ := Lib.hid (decide_eq_true hn)
    have HS := Lib.hid hs
    have HN := Lib.hid hn
    have HE := Lib.hid hq
    have ho1 := h.sz.2.2.1
    have ho2 := h.sz.2.2.2
    clear h hs hn hq
    go_enter Try.func19, Try.ntmps19
    go_wp2_with fail
    refine (cIsNone HA.out).mono ?_
    rintro e w1 ⟨rfl, rfl⟩
    go_wp2_with fail
    refine (cHas HA.out _ _ _ HQ.out).mono ?_
    rintro e w2 ⟨rfl, hb2⟩
    have H2 := Lib.hid (HA.out.below hb2)
    have HB2 := Lib.hid hb2
    have c1 := H2.out.c1
    clear hb2 HA
    go_wp2
    go_loopw [5, 19] (fun x u wr => ∃ k : Nat, k ≤ O ∧ u = .int .i64 k ∧ wr = w2 ∧ Hid (∀ i : Nat, i < k → f s i = 0)) (fun _ u _ => O - (intOf u).toNat)
    case atStart => exact ⟨0, by omega, rfl, rfl, Lib.hid fun i h => by omega⟩
    case round =>
      obtain ⟨k, hk, rfl, rfl, HZ⟩ := hrel
      by_cases hlt : k < O
      · have HWK := Lib.hid (wf_small (x := (k : Int)) ⟨by omega, by omega⟩)
        obtain ⟨G, hG⟩ : ∃ G, f s (k : Int) = G := ⟨_, rfl⟩
        have HG := Lib.hid hG
        clear hG
        by_cases hg : G = 0
        · have hgg : (G != 0) = false := by simp [hg]
          have HZ2 : Hid (∀ i : Nat, i < k + 1 → f s i = 0) := Lib.hid fun i h => by
            rcases (by omega : i < k ∨ i = k) with h | rfl
            · exact HZ.out i h
            · rw [HG.out, hg]
          clear hg HZ
          go_wp2_with fail
          refine (cOf H2.out HS.out HWK.out HG.out).mono ?_
          rintro e w3 ⟨rfl, rfl⟩
          go_wp2
          go_roundw
          case rel => exact ⟨k + 1, by omega, by go_num, trivial, HZ2⟩
          case measure => simp [intOf]; omega
        · have hgg : (G != 0) = true := by simp [hg]
          have HY : Hid (q = false) := Lib.hid (by
            rw [Bool.eq_false_iff]
            intro e
            have := (HE.out.1 e).2.2 k hlt
            rw [HG.out] at this
            exact hg this)
          clear hg HZ
          go_wp2_with fail
          refine (cOf H2.out HS.out HWK.out HG.out).mono ?_
          rintro e w3 ⟨rfl, rfl⟩
          go_wp2
          go_ret
          exact ⟨ret_bool HY.out.symm, HB2.out⟩
      · obtain rfl : k = O := by omega
        have HY : Hid (q = true) := Lib.hid (HE.out.2 ⟨HN.out.1, HN.out.2.1, HZ.out⟩)
        clear HZ
        go_wp2
        go_ret
        exact ⟨ret_bool HY.out.symm, HB2.out⟩
  · have HQ := Lib.hid (decide_eq_false hn)
    have HY : Hid (q = false) := Lib.hid (by
      rw [Bool.eq_false_iff]
      intro e
      obtain ⟨e1, e2, _⟩ := hq.1 e
      have := h.sz.2.2.1
      exact hn ⟨e1, e2, by omega, by omega⟩)
    clear h hs hn hq
    go_enter Try.func19, Try.ntmps19
    go_wp2_with fail
    refine (cIsNone HA.out).mono ?_
    rintro e w1 ⟨rfl, rfl⟩
    go_wp2_with fail
    refine (cHas HA.out _ _ _ HQ.out).mono ?_
    rintro e w2 ⟨rfl, hb2⟩
    have HB2 := Lib.hid hb2
    clear hb2
    go_wp2
    go_ret
    exact ⟨ret_bool HY.out.symm, HB2.out⟩
end
end Go.Proofs.Ytoffakamlpfgoaa
