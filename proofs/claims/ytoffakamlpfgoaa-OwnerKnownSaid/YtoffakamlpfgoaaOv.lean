/-
  Owners of the program in a world; isNone, has, isGroup, New, Of.
-/
import Derived.Test.YtoffakamlpfgoaaMp
import Derived.Carry
set_option linter.unusedVariables false
set_option linter.unusedSimpArgs false
namespace Go.Proofs.Ytoffakamlpfgoaa
open Go Go.RowKit

/-- the program's owners: their struct, their map -/
structure OV (w : World) (B b S O : Nat) (f : Ow) : Prop where
  box : w.heap[B]? = some (.cells #[.int .i64 S, .int .i64 O, .map (some b)] 47 (0, 0))
  map : MapAt w b f
  sz : 1 ≤ S ∧ S ≤ 256 ∧ 1 ≤ O ∧ O ≤ 16
  oi : OI S O f
/-- owners that are none: nil, or zero ones -/
def OZ (w : World) (p : Option Addr) : Prop := p = none ∨ ∃ B, p = some ⟨B, 0, none⟩ ∧ w.heap[B]? = some (.cells #[.int .i64 0, .int .i64 0, .map none] 47 (0, 0))
section
variable {Sx : Nat → Prop} {w w' : World} {B b S O : Nat} {f f' : Ow} {p : Option Addr} {s i g n e : Int} {Ts : List TypeId}
theorem OV.c0 (h : OV w B b S O f) : w.cell? ⟨B, 0, none⟩ = some (.int .i64 S) := self_cell h.box 0 _ rfl
theorem OV.c1 (h : OV w B b S O f) : w.cell? ⟨B, 1, none⟩ = some (.int .i64 O) := self_cell h.box 1 _ rfl
theorem OV.c2 (h : OV w B b S O f) : w.cell? ⟨B, 2, none⟩ = some (.map (some b)) := self_cell h.box 2 _ rfl
theorem OV.lt (h : OV w B b S O f) : B < w.heap.size ∧ b < w.heap.size := ⟨lt_of_block h.box, h.map.lt⟩
theorem OV.ne (h : OV w B b S O f) : B ≠ b := h.map.ne h.box
theorem OV.below (h : OV w B b S O f) (hb : Below w.heap.size w w') : OV w' B b S O f := ⟨keep_block h.box hb, h.map.below hb, h.sz, h.oi⟩
/-- blocks of other types change -/
theorem OV.kept (h : OV w B b S O f) (hk : Kept Sx w w') (hS : ∀ k, Sx k → Typ w Ts k) (hT : 47 ∉ Ts) : OV w' B b S O f :=
  ⟨box_kept h.box hk hS hT, h.map.kept hk (fun e => h.map.nt (hS b e)), h.sz, h.oi⟩
/-- the map itself changes -/
theorem OV.turn (h : OV w B b S O f) (hm : MapAt w' b f') (hk : Kept (· = b) w w') (hi : OI S O f') : OV w' B b S O f' :=
  ⟨(hk.block B h.lt.1 h.ne).trans h.box, hm, h.sz, hi⟩
theorem OV.drew (h : OV w B b S O f) : OV w.drew B b S O f := h.below (Below.refl _ w).drew
theorem OV.alloc (h : OV w B b S O f) (o : Obj) : OV (w.alloc o) B b S O f := h.below (below_one (Below.refl _ _) _)
theorem OZ.below (h : OZ w p) (hb : Below w.heap.size w w') : OZ w' p := by
  rcases h with e | ⟨B, e, h⟩
  · exact .inl e
  · exact .inr ⟨B, e, keep_block h hb⟩
set_option maxHeartbeats 1000000 in
theorem cIsNone (h : OV w B b S O f) : Calls Try.prog 21 #[.pointer (some ⟨B, 0, none⟩)] w fun e w' => e = .returned (.bool false) ∧ w' = w := by
  have c0 := h.c0
  have h1 := h.sz.1
  have hS : ((S : Int) == 0) = false := by simp; omega
  clear h
  go_enter Try.func21, Try.ntmps21
  go_wp2
  go_ret
  exact ⟨rfl, rfl⟩
set_option maxHeartbeats 1000000 in
theorem zIsNone (h : OZ w p) : Calls Try.prog 21 #[.pointer p] w fun e w' => e = .returned (.bool true) ∧ w' = w := by
  rcases h with rfl | ⟨B, rfl, hb⟩
  · go_enter Try.func21, Try.ntmps21
    go_wp2
    go_ret
    exact ⟨rfl, rfl⟩
  · have c0 := self_cell hb 0 _ rfl
    clear hb
    go_enter Try.func21, Try.ntmps21
    go_wp2
    go_ret
    exact ⟨rfl, rfl⟩
set_option maxHeartbeats 2000000 in
set_option maxRecDepth 100000 in
theorem cHas (h : OV w B b S O f) (s i : Int) (q : Bool) (hq : decide (inn S O s i) = q) :
    Calls Try.prog 22 #[.pointer (some ⟨B, 0, none⟩), .agg #[.int .i64 s, .int .i64 i]] w fun e w' => e = .returned (.bool q) ∧ Below w.heap.size w w' := by
  have H1 := Lib.hid (h.alloc (.cells #[.int .i64 s, .int .i64 i] 54))
  have HB := Lib.hid (below_one (Below.refl w.heap.size w) (.cells #[.int .i64 s, .int .i64 i] 54))
  have HX := Lib.hid (heap_new w (.cells #[.int .i64 s, .int .i64 i] 54))
  have HQ := Lib.hid hq
  clear h hq
  by_cases h1 : 0 ≤ s
  · by_cases h2 : s < (S : Int)
    · by_cases h3 : 0 ≤ i
      · by_cases h4 : i < (O : Int)
        · have HY : Hid (q = true) := Lib.hid (HQ.out.symm.trans (decide_eq_true ⟨h1, h2, h3, h4⟩))
          clear HQ
          go_enter Try.func22, Try.ntmps22
          go_wp2_with fail
          obtain ⟨D, hD⟩ : ∃ D, w.heap.size = D := ⟨_, rfl⟩
          obtain ⟨w1, hw1⟩ : ∃ w1, w.alloc (.cells #[.int .i64 s, .int .i64 i] 54) = w1 := ⟨_, rfl⟩
          rw [hw1] at H1 HB HX ⊢
          rw [hD] at HX ⊢
          clear hD hw1
          have d0 := self_cell HX.out 0 _ rfl
          have d1 := self_cell HX.out 1 _ rfl
          have c0 := H1.out.c0
          have c1 := H1.out.c1
          go_quiet (fail)
          go_wp2
          go_ret
          exact ⟨ret_bool HY.out.symm, below_drewN HB.out _⟩
        · have HY : Hid (q = false) := Lib.hid (HQ.out.symm.trans (decide_eq_false (fun e => h4 e.2.2.2)))
          clear HQ
          go_enter Try.func22, Try.ntmps22
          go_wp2_with fail
          obtain ⟨D, hD⟩ : ∃ D, w.heap.size = D := ⟨_, rfl⟩
          obtain ⟨w1, hw1⟩ : ∃ w1, w.alloc (.cells #[.int .i64 s, .int .i64 i] 54) = w1 := ⟨_, rfl⟩
          rw [hw1] at H1 HB HX ⊢
          rw [hD] at HX ⊢
          clear hD hw1
          have d0 := self_cell HX.out 0 _ rfl
          have d1 := self_cell HX.out 1 _ rfl
          have c0 := H1.out.c0
          have c1 := H1.out.c1
          go_quiet (fail)
          go_wp2
          go_ret
          exact ⟨ret_bool (by rw [HY.out]; exact decide_eq_false (by omega)), below_drewN HB.out _⟩
      · have HY : Hid (q = false) := Lib.hid (HQ.out.symm.trans (decide_eq_false (fun e => h3 e.2.2.1)))
        clear HQ
        go_enter Try.func22, Try.ntmps22
        go_wp2_with fail
        obtain ⟨D, hD⟩ : ∃ D, w.heap.size = D := ⟨_, rfl⟩
        obtain ⟨w1, hw1⟩ : ∃ w1, w.alloc (.cells #[.int .i64 s, .int .i64 i] 54) = w1 := ⟨_, rfl⟩
        rw [hw1] at H1 HB HX ⊢
        rw [hD] at HX ⊢
        clear hD hw1
        have d0 := self_cell HX.out 0 _ rfl
        have d1 := self_cell HX.out 1 _ rfl
        have c0 := H1.out.c0
        have c1 := H1.out.c1
        go_quiet (fail)
        go_wp2
        go_ret
        exact ⟨ret_bool HY.out.symm, below_drewN HB.out _⟩
    · have HY : Hid (q = false) := Lib.hid (HQ.out.symm.trans (decide_eq_false (fun e => h2 e.2.1)))
      clear HQ
      go_enter Try.func22, Try.ntmps22
      go_wp2_with fail
      obtain ⟨D, hD⟩ : ∃ D, w.heap.size = D := ⟨_, rfl⟩
      obtain ⟨w1, hw1⟩ : ∃ w1, w.alloc (.cells #[.int .i64 s, .int .i64 i] 54) = w1 := ⟨_, rfl⟩
      rw [hw1] at H1 HB HX ⊢
      rw [hD] at HX ⊢
      clear hD hw1
      have d0 := self_cell HX.out 0 _ rfl
      have d1 := self_cell HX.out 1 _ rfl
      have c0 := H1.out.c0
      have c1 := H1.out.c1
      go_quiet (fail)
      go_wp2
      go_ret
      exact ⟨ret_bool HY.out.symm, below_drewN HB.out _⟩
  · have HY : Hid (q = false) := Lib.hid (HQ.out.symm.trans (decide_eq_false (fun e => h1 e.1)))
    clear HQ
    go_enter Try.func22, Try.ntmps22
    go_wp2_with fail
    obtain ⟨D, hD⟩ : ∃ D, w.heap.size = D := ⟨_, rfl⟩
    obtain ⟨w1, hw1⟩ : ∃ w1, w.alloc (.cells #[.int .i64 s, .int .i64 i] 54) = w1 := ⟨_, rfl⟩
    rw [hw1] at H1 HB HX ⊢
    rw [hD] at HX ⊢
    clear hD hw1
    have d0 := self_cell HX.out 0 _ rfl
    have d1 := self_cell HX.out 1 _ rfl
    have c0 := H1.out.c0
    have c1 := H1.out.c1
    go_quiet (fail)
    go_wp2
    go_ret
    exact ⟨ret_bool HY.out.symm, below_drewN HB.out _⟩
theorem cIsGroup (g : Int) (q : Bool) (hq : decide (grp g) = q) (w : World) : Calls Try.prog 23 #[.int .i64 g] w fun e w' => e = .returned (.bool q) ∧ w' = w := by
  have HQ := Lib.hid hq
  clear hq
  by_cases h1 : 1 ≤ g
  · by_cases h2 : g ≤ 16
    · have HY : Hid (q = true) := Lib.hid (HQ.out.symm.trans (decide_eq_true ⟨h1, h2⟩))
      clear HQ
      go_enter Try.func23, Try.ntmps23
      go_wp2
      go_ret
      exact ⟨ret_bool HY.out.symm, rfl⟩
    · have HY : Hid (q = false) := Lib.hid (HQ.out.symm.trans (decide_eq_false (fun e => h2 e.2)))
      clear HQ
      go_enter Try.func23, Try.ntmps23
      go_wp2
      go_ret
      exact ⟨ret_bool HY.out.symm, rfl⟩
  · have HY : Hid (q = false) := Lib.hid (HQ.out.symm.trans (decide_eq_false (fun e => h1 e.1)))
    clear HQ
    go_enter Try.func23, Try.ntmps23
    go_wp2
    go_ret
    exact ⟨ret_bool HY.out.symm, rfl⟩
theorem rGroup (g : Int) (q : Bool) (hq : decide (grp g) = q) (w : World) : Calls Try.prog 25 #[.int .i64 g] w fun e w' => e = .returned (.bool q) ∧ w' = w := by
  have HQ := Lib.hid hq
  clear hq
  by_cases h1 : 1 ≤ g
  · by_cases h2 : g ≤ 16
    · have HY : Hid (q = true) := Lib.hid (HQ.out.symm.trans (decide_eq_true ⟨h1, h2⟩))
      clear HQ
      go_enter Try.func25, Try.ntmps25
      go_wp2
      go_ret
      exact ⟨ret_bool HY.out.symm, rfl⟩
    · have HY : Hid (q = false) := Lib.hid (HQ.out.symm.trans (decide_eq_false (fun e => h2 e.2)))
      clear HQ
      go_enter Try.func25, Try.ntmps25
      go_wp2
      go_ret
      exact ⟨ret_bool HY.out.symm, rfl⟩
  · have HY : Hid (q = false) := Lib.hid (HQ.out.symm.trans (decide_eq_false (fun e => h1 e.1)))
    clear HQ
    go_enter Try.func25, Try.ntmps25
    go_wp2
    go_ret
    exact ⟨ret_bool HY.out.symm, rfl⟩
theorem ov_new (w : World) {S O K : Nat} (hK : w.heap.size = K) (hs : 1 ≤ S ∧ S ≤ 256 ∧ 1 ≤ O ∧ O ≤ 16) : OV ((w.alloc (.map #[] 0)).alloc (.cells #[.int .i64 S, .int .i64 O, .map (some K)] 47)) (K + 1) K S O noO := by
  subst hK
  exact ⟨heap_new2 w _ _, (map_made w).below (below_one (Below.refl _ _) _), hs, OI.none S O⟩
set_option maxHeartbeats 2000000 in
theorem cNew (S O : Nat) (hs : 1 ≤ S ∧ S ≤ 256 ∧ 1 ≤ O ∧ O ≤ 16) (w : World) : Calls Try.prog 7 #[.int .i64 S, .int .i64 O] w fun e w' => ∃ B b, e = .returned (.tuple #[.pointer (some ⟨B, 0, none⟩), .int .i64 0]) ∧ OV w' B b S O noO ∧ Below w.heap.size w w' ∧ w.heap.size ≤ B ∧ w.heap.size ≤ b := by
  have hmm := @run_makeMap Try.prog
  have HN := Lib.hid (ov_new w rfl hs)
  have h1 : ¬ (S : Int) < 1 := by omega
  have h2 : ¬ (256 : Int) < S := by omega
  have h3 : ¬ (O : Int) < 1 := by omega
  have h4 : ¬ (16 : Int) < O := by omega
  clear hs
  go_enter Try.func7, Try.ntmps7
  go_wp2
  go_ret2
  exact ⟨_, rfl, _, HN.out, below_one (below_one (Below.refl _ _) _) _, by omega, by omega⟩
set_option maxHeartbeats 2000000 in
theorem cNewNo (x y : Int) (h : ¬ (1 ≤ x ∧ x ≤ 256 ∧ 1 ≤ y ∧ y ≤ 16)) (w : World) : Calls Try.prog 7 #[.int .i64 x, .int .i64 y] w fun e w' => e = .returned (.tuple #[.pointer none, .int .i64 2]) ∧ w' = w := by
  by_cases h1 : x < 1
  · clear h
    go_enter Try.func7, Try.ntmps7
    go_wp2
    go_ret2
    exact ⟨rfl, rfl⟩
  · by_cases h2 : 256 < x
    · clear h
      go_enter Try.func7, Try.ntmps7
      go_wp2
      go_ret2
      exact ⟨rfl, rfl⟩
    · by_cases h3 : y < 1
      · clear h
        go_enter Try.func7, Try.ntmps7
        go_wp2
        go_ret2
        exact ⟨rfl, rfl⟩
      · by_cases h4 : 16 < y
        · clear h
          go_enter Try.func7, Try.ntmps7
          go_wp2
          go_ret2
          exact ⟨rfl, rfl⟩
        · exact absurd ⟨by omega, by omega, by omega, by omega⟩ h
set_option maxHeartbeats 2000000 in
theorem rNewNo (x y : Int) (h : ¬ (1 ≤ x ∧ x ≤ 256 ∧ 1 ≤ y ∧ y ≤ 16)) (w : World) : Calls Try.prog 8 #[.int .i64 x, .int .i64 y] w fun e w' => e = .returned (.tuple #[.pointer none, .int .i64 2]) ∧ w' = w := by
  by_cases h1 : x < 1
  · clear h
    go_enter Try.func8, Try.ntmps8
    go_wp2
    go_ret2
    exact ⟨rfl, rfl⟩
  · by_cases h2 : 256 < x
    · clear h
      go_enter Try.func8, Try.ntmps8
      go_wp2
      go_ret2
      exact ⟨rfl, rfl⟩
    · by_cases h3 : y < 1
      · clear h
        go_enter Try.func8, Try.ntmps8
        go_wp2
        go_ret2
        exact ⟨rfl, rfl⟩
      · by_cases h4 : 16 < y
        · clear h
          go_enter Try.func8, Try.ntmps8
          go_wp2
          go_ret2
          exact ⟨rfl, rfl⟩
        · exact absurd ⟨by omega, by omega, by omega, by omega⟩ h
set_option maxHeartbeats 2000000 in
theorem cOf (h : OV w B b S O f) (hs : wf64 s) (hi : wf64 i) (hg : f s i = g) : Calls Try.prog 18 #[.pointer (some ⟨B, 0, none⟩), .int .i64 s, .int .i64 i] w fun e w' => e = .returned (.int .i64 g) ∧ w' = w := by
  have HA := Lib.hid h
  have c2 := h.c2
  have hl := h.map.look hs hi hg
  clear h hg
  go_enter Try.func18, Try.ntmps18
  go_wp2_with fail
  refine (cIsNone HA.out).mono ?_
  rintro e w1 ⟨rfl, rfl⟩
  go_wp2
  go_ret
  exact ⟨rfl, rfl⟩
set_option maxHeartbeats 1000000 in
theorem zOf (h : OZ w p) (s i : Int) : Calls Try.prog 18 #[.pointer p, .int .i64 s, .int .i64 i] w fun e w' => e = .returned (.int .i64 0) ∧ w' = w := by
  have HA := Lib.hid h
  clear h
  go_enter Try.func18, Try.ntmps18
  go_wp2_with fail
  refine (zIsNone HA.out).mono ?_
  rintro e w1 ⟨rfl, rfl⟩
  go_wp2
  go_ret
  exact ⟨rfl, rfl⟩
end
end Go.Proofs.Ytoffakamlpfgoaa
