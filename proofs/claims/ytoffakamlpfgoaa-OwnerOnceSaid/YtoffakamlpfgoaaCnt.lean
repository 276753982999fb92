/-
  Count, Move and Empty of the program: the map gone through in any order.
-/
import Derived.Test.YtoffakamlpfgoaaAct
set_option linter.unusedVariables false
set_option linter.unusedSimpArgs false
namespace Go.Proofs.Ytoffakamlpfgoaa
open Go Go.RowKit

/-- that group's, and no longer to come -/
def tstL (f : Ow) (g : Int) (left : Tst) : Tst := fun x y => f x y != 0 && f x y == g && !left x y
theorem tstL_start (S O : Nat) (f : Ow) (g : Int) : cnt (tstL f g (allL f)) S O = 0 :=
  cnt_none _ _ _ fun s i _ => by by_cases e : f s i = 0 <;> simp [tstL, allL, e]
theorem tstL_hit {S O : Nat} {f : Ow} {g s i : Int} {left : Tst} (hi : OI S O f) (h0 : f s i ≠ 0) (hl : left s i = true) (hg : f s i = g) : cnt (tstL f g (cut1 left s i)) S O = cnt (tstL f g left) S O + 1 := by
  refine cnt_one (s := s) (i := i) (hi s i h0).1 ?_ ?_ fun x y hne => ?_
  · simp [tstL, hl]
  · simp [tstL, cut1, hl, h0, hg]
    rw [← hg]; exact h0
  · have : (x == s && y == i) = false := by
      rw [Bool.eq_false_iff]
      intro e
      simp only [Bool.and_eq_true, beq_iff_eq] at e
      exact hne e
    simp [tstL, cut1, this]
theorem tstL_miss {f : Ow} {g s i : Int} {left : Tst} (S O : Nat) (hg : f s i ≠ g) : cnt (tstL f g (cut1 left s i)) S O = cnt (tstL f g left) S O := by
  refine cnt_congr S O fun x y _ => ?_
  by_cases e : x = s ∧ y = i
  · obtain ⟨rfl, rfl⟩ := e
    have : (f x y == g) = false := by simp [hg]
    simp [tstL, this]
  · have : (x == s && y == i) = false := by
      rw [Bool.eq_false_iff]
      intro e2
      simp only [Bool.and_eq_true, beq_iff_eq] at e2
      exact e e2
    simp [tstL, cut1, this]
theorem tstL_end {S O : Nat} {f : Ow} {left : Tst} (hi : OI S O f) (g : Int) (hl : ∀ s i, left s i = false) : cnt (tstL f g left) S O = countF S O f g := by
  unfold countF
  split
  · next h =>
    refine cnt_congr S O fun x y _ => ?_
    by_cases e : f x y = g
    · have h0 : g ≠ 0 := by unfold grp at h; omega
      simp [tstL, ofG, hl, e, h0]
    · simp [tstL, ofG, hl, e]
  · next h =>
    refine cnt_none _ _ _ fun x y _ => ?_
    by_cases e : f x y = 0
    · simp [tstL, e]
    · have h1 : f x y ≠ g := fun e2 => h (e2 ▸ (hi x y e).2)
      simp [tstL, h1]
theorem tstL_ofG {S O : Nat} {f : Ow} {left : Tst} {g : Int} (hi : OI S O f) (hg : grp g) (hl : ∀ s i, left s i = false) : cnt (tstL f g left) S O = cnt (ofG f g) S O := by
  rw [tstL_end hi g hl, countF, if_pos hg]
/-- what has been moved so far -/
def movL (f : Ow) (a c : Int) (left : Tst) : Ow := fun x y => if f x y = a ∧ left x y = false then c else f x y
theorem movL_start (f : Ow) {a : Int} (c : Int) (ha : grp a) : movL f a c (allL f) = f := by
  funext x y
  unfold movL
  rw [if_neg]
  rintro ⟨e1, e2⟩
  have : f x y ≠ 0 := by rw [e1]; unfold grp at ha; omega
  simp [allL, this] at e2
theorem movL_end (f : Ow) (a c : Int) {left : Tst} (hl : ∀ s i, left s i = false) : movL f a c left = mov f a c := by
  funext x y
  unfold movL mov
  simp [hl]
theorem movL_at {f : Ow} {a c s i : Int} {left : Tst} (hl : left s i = true) : movL f a c left s i = f s i := by
  unfold movL
  rw [if_neg]
  rintro ⟨_, e⟩
  rw [hl] at e
  cases e
theorem movL_hit {f : Ow} {a c s i : Int} {left : Tst} (hf : f s i = a) : upd (movL f a c left) s i c = movL f a c (cut1 left s i) := by
  funext x y
  by_cases e : x = s ∧ y = i
  · obtain ⟨rfl, rfl⟩ := e
    rw [upd_same]
    unfold movL cut1
    rw [if_pos ⟨hf, by simp⟩]
  · rw [upd_other _ _ e]
    have : (x == s && y == i) = false := by
      rw [Bool.eq_false_iff]
      intro e2
      simp only [Bool.and_eq_true, beq_iff_eq] at e2
      exact e e2
    simp [movL, cut1, this]
theorem movL_miss {f : Ow} {a c s i : Int} {left : Tst} (hf : f s i ≠ a) : movL f a c (cut1 left s i) = movL f a c left := by
  funext x y
  by_cases e : x = s ∧ y = i
  · obtain ⟨rfl, rfl⟩ := e
    simp [movL, hf]
  · have : (x == s && y == i) = false := by
      rw [Bool.eq_false_iff]
      intro e2
      simp only [Bool.and_eq_true, beq_iff_eq] at e2
      exact e e2
    simp [movL, cut1, this]
theorem OI.movL {S O : Nat} {f : Ow} (h : OI S O f) {a c : Int} (ha : grp a) (hc : grp c) (left : Tst) : OI S O (movL f a c left) := by
  intro x y hne
  unfold Go.Proofs.Ytoffakamlpfgoaa.movL at hne ⊢
  by_cases e : f x y = a ∧ left x y = false
  · rw [if_pos e]
    exact ⟨(h x y (by rw [e.1]; unfold grp at ha; omega)).1, hc⟩
  · rw [if_neg e] at hne ⊢
    exact h x y hne
section
variable {Sx : Nat → Prop} {w w' : World} {B b S O D : Nat} {f f' : Ow} {p : Option Addr} {s i g n e a : Int} {Ts : List TypeId}
set_option maxHeartbeats 2000000 in
set_option maxRecDepth 100000 in
theorem cCount (h : OV w B b S O f) (g : Int) : Calls Try.prog 20 #[.pointer (some ⟨B, 0, none⟩), .int .i64 g] w fun e w' => e = .returned (.int .i64 (countF S O f g)) ∧ Below w.heap.size w w' := by
  have HA := Lib.hid h
  have c2 := h.c2
  clear h
  go_enter Try.func20, Try.ntmps20
  go_wp2_with fail
  refine (cIsNone HA.out).mono ?_
  rintro e w1 ⟨rfl, rfl⟩
  go_wp2_with (first | (at_range; refine wpList_rangeAt rfl _ rfl rfl HA.out.map ?_; intro w0 cnt0 hrg0 hb0 hs0) | go_in)
  go_frame
  obtain ⟨r, hr⟩ : ∃ r, w1.heap.size = r := ⟨_, rfl⟩
  rw [hr] at hrg0 ⊢
  clear hs0
  have HR0 := Lib.hid hr
  have H0 := Lib.hid hrg0
  have HB0 := Lib.hid hb0
  clear hr hrg0 hb0
  go_loopw [5, 7] (fun u v wr => ∃ left m, u = .int .i64 ((cnt (tstL f g left) S O : Nat) : Int) ∧ Hid (RangeAt wr b r f left m) ∧ Hid (Below w1.heap.size w1 wr)) (fun _ _ wr => wr.rangeLeft b r)
  case atStart => exact ⟨_, cnt0, by rw [tstL_start]; rfl, H0, HB0⟩
  case round =>
    obtain ⟨left, m, rfl, HG, HB⟩ := hrel
    clear H0 HB0
    obtain ⟨C, hC⟩ : ∃ C, cnt (tstL f g left) S O = C := ⟨_, rfl⟩
    have hC4 : C ≤ 4096 := by rw [← hC]; exact cnt_small _ HA.out.sz.2.1 HA.out.sz.2.2.2
    rw [hC]
    have HC := Lib.hid hC
    clear hC
    go_wp2_with (first | (at_next; refine wpList_nextAt rfl _ rfl rfl HG.out ?_ ?_) | go_in)
    · intro _ hl0
      have HE : Hid (countF S O f g = C) := Lib.hid ((tstL_end HA.out.oi g hl0).symm.trans HC.out)
      clear hl0
      go_wp2
      go_ret
      exact ⟨ret_int (by rw [HE.out]), HB.out⟩
    · intro s i w2 m2 hws hwi hl hrg2 hlt hk2 hen
      have H2 := Lib.hid hrg2
      have HB2 := Lib.hid (below_kept HB.out hk2 (by rintro k rfl; rw [HR0.out]; exact Nat.le_refl _))
      have hne : f s i ≠ 0 := by
        obtain ⟨_, _, _, _, _, _, _, _, _, _, _, _, h8, _⟩ := HG.out
        exact h8 s i hl
      have HH : Hid (f s i = g → cnt (tstL f g (cut1 left s i)) S O = C + 1) := Lib.hid (fun e => by rw [tstL_hit HA.out.oi hne hl e, HC.out])
      have HM : Hid (f s i ≠ g → cnt (tstL f g (cut1 left s i)) S O = C) := Lib.hid (fun e => by rw [tstL_miss S O e, HC.out])
      have HLT : Hid (m2 < m) := Lib.hid hlt
      clear hrg2 hk2 hne hl hlt
      generalize f s i = G at hen HH HM ⊢
      by_cases hg : G = g
      · have HH1 := Lib.hid (HH.out hg)
        have hgg : (G == g) = true := by simp [hg]
        clear HH HM hg
        go_wp2
        go_roundw
        case rel => exact ⟨cut1 left s i, m2, by rw [HH1.out]; go_num, H2, HB2⟩
        case measure => rw [H2.out.left_eq, HG.out.left_eq]; exact HLT.out
      · have HM1 := Lib.hid (HM.out hg)
        have hgg : (G == g) = false := by simp [hg]
        clear HH HM hg
        go_wp2
        go_roundw
        case rel => exact ⟨cut1 left s i, m2, by rw [HM1.out], H2, HB2⟩
        case measure => rw [H2.out.left_eq, HG.out.left_eq]; exact HLT.out
end
end Go.Proofs.Ytoffakamlpfgoaa
