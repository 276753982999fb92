/-
  The document's calls on owners.
-/
import Derived.Test.YtoffakamlpfgoaaRv
set_option linter.unusedVariables false
set_option linter.unusedSimpArgs false
namespace Go.Proofs.Ytoffakamlpfgoaa
open Go Go.RowKit

/-- of how many objects of all slabs ahead of slab s, and of its first i ones -/
def cntP (p : Tst) (O s i : Nat) : Nat := sumN (fun t => cntR p t O) s + sumN (fun j : Nat => b1 (p s j)) i
theorem cntP_zero (p : Tst) (O : Nat) : cntP p O 0 0 = 0 := rfl
theorem cntP_step (p : Tst) (O s i : Nat) : cntP p O s (i + 1) = cntP p O s i + b1 (p s i) := by
  unfold cntP
  rw [sumN_step]
  omega
theorem cntP_row (p : Tst) (O s : Nat) : cntP p O (s + 1) 0 = cntP p O s O := by
  unfold cntP
  rw [sumN_step]
  rfl
theorem cntP_end (p : Tst) (S O : Nat) : cntP p O S 0 = cnt p S O := rfl
theorem cntP_le (p : Tst) {O s i : Nat} (h1 : s ≤ 256) (h2 : O ≤ 16) (h3 : i ≤ 16) : cntP p O s i ≤ 5000 := by
  have h4 := sumN_le (fun t : Nat => cntR p t O) s O (fun k _ => cntR_le p k O)
  have h5 := sumN_le (fun j : Nat => b1 (p s j)) i 1 (fun k _ => b1_le _)
  have h6 : s * O ≤ 256 * 16 := Nat.mul_le_mul h1 h2
  unfold cntP
  omega
theorem b1_true {q : Bool} (h : q = true) : b1 q = 1 := by rw [h]; rfl
theorem b1_false {q : Bool} (h : q = false) : b1 q = 0 := by rw [h]; rfl
/-- what the document has moved so far -/
def movP (f : Ow) (a c : Int) (s i : Nat) : Ow := fun x y => if f x y = a ∧ (x < (s : Int) ∨ (x = (s : Int) ∧ y < (i : Int))) then c else f x y
theorem movP_here (f : Ow) (a c : Int) (s i : Nat) : movP f a c s i s i = f s i := by
  unfold movP
  rw [if_neg]
  omega
theorem movP_hit {f : Ow} {a c : Int} {s i : Nat} (h : f s i = a) : upd (movP f a c s i) s i c = movP f a c s (i + 1) := by
  funext x y
  unfold upd movP
  by_cases e : x = (s : Int) ∧ y = (i : Int)
  · obtain ⟨rfl, rfl⟩ := e
    rw [if_pos ⟨rfl, rfl⟩, if_pos ⟨h, by omega⟩]
  · rw [if_neg e]
    by_cases e2 : f x y = a ∧ (x < (s : Int) ∨ (x = (s : Int) ∧ y < (i : Int)))
    · rw [if_pos e2, if_pos ⟨e2.1, by omega⟩]
    · rw [if_neg e2, if_neg]
      intro e3
      exact e2 ⟨e3.1, by omega⟩
theorem movP_miss {f : Ow} {a c : Int} {s i : Nat} (h : f s i ≠ a) : movP f a c s (i + 1) = movP f a c s i := by
  funext x y
  unfold movP
  by_cases e : x = (s : Int) ∧ y = (i : Int)
  · obtain ⟨rfl, rfl⟩ := e
    rw [if_neg (fun e => h e.1), if_neg (fun e => h e.1)]
  · by_cases e2 : f x y = a ∧ (x < (s : Int) ∨ (x = (s : Int) ∧ y < (i : Int)))
    · rw [if_pos e2, if_pos ⟨e2.1, by omega⟩]
    · rw [if_neg e2, if_neg]
      intro e3
      exact e2 ⟨e3.1, by omega⟩
theorem movP_start {S O : Nat} {f : Ow} (hi : OI S O f) {a : Int} (c : Int) (ha : grp a) : movP f a c 0 0 = f := by
  funext x y
  unfold movP
  rw [if_neg]
  rintro ⟨e1, e2⟩
  obtain ⟨h1, _⟩ := hi x y (by rw [e1]; unfold grp at ha; omega)
  unfold inn at h1
  omega
theorem movP_row {S O : Nat} {f : Ow} (hi : OI S O f) {a : Int} (c : Int) (ha : grp a) (s : Nat) : movP f a c s O = movP f a c (s + 1) 0 := by
  funext x y
  unfold movP
  by_cases e : f x y = a
  · obtain ⟨h1, _⟩ := hi x y (by rw [e]; unfold grp at ha; omega)
    unfold inn at h1
    by_cases e2 : x < (s : Int) ∨ (x = (s : Int) ∧ y < (O : Int))
    · rw [if_pos ⟨e, e2⟩, if_pos ⟨e, by omega⟩]
    · rw [if_neg (fun e3 => e2 e3.2), if_neg (fun e3 => e2 (by omega))]
  · rw [if_neg (fun e3 => e e3.1), if_neg (fun e3 => e e3.1)]
theorem movP_end {S O : Nat} {f : Ow} (hi : OI S O f) {a : Int} (c : Int) (ha : grp a) : movP f a c S 0 = mov f a c := by
  funext x y
  unfold movP mov
  by_cases e : f x y = a
  · obtain ⟨h1, _⟩ := hi x y (by rw [e]; unfold grp at ha; omega)
    unfold inn at h1
    rw [if_pos ⟨e, by omega⟩, if_pos e]
  · rw [if_neg (fun e3 => e e3.1), if_neg e]
theorem OI.movP {S O : Nat} {f : Ow} (h : OI S O f) {a c : Int} (ha : grp a) (hc : grp c) (s i : Nat) : OI S O (movP f a c s i) := by
  intro x y hne
  unfold Go.Proofs.Ytoffakamlpfgoaa.movP at hne ⊢
  split at hne
  · next e =>
    rw [if_pos e]
    exact ⟨(h x y (by rw [e.1]; unfold grp at ha; omega)).1, hc⟩
  · next e =>
    rw [if_neg e]
    exact h x y hne
section
variable {Sx : Nat → Prop} {w w' W : World} {R q C S O k D : Nat} {rb : Nat → Nat} {f f' : Ow} {v : Value} {Ts : List TypeId} {s i g n e a c : Int}
set_option maxHeartbeats 2000000 in
set_option maxRecDepth 100000 in
theorem rHas (h : RV w R q C S O rb f) (s i : Int) (q0 : Bool) (hq : decide (inn S O s i) = q0) :
    Calls Try.prog 24 #[.pointer (some ⟨R, 0, none⟩), .int .i64 s, .int .i64 i] w fun e w' => e = .returned (.bool q0) ∧ w' = w := by
  have HQ := Lib.hid hq
  have c0 := h.c0
  have cr := h.cr (s := 0) (by have := h.sz.1; omega)
  have hs1 := h.sz.1
  have hs2 := h.sz.2.1
  have ho2 := h.sz.2.2.2
  have hcap := h.cap
  clear h hq
  by_cases h1 : 0 ≤ s
  · by_cases h2 : s < (S : Int)
    · by_cases h3 : 0 ≤ i
      · by_cases h4 : i < (O : Int)
        · have HY : Hid (q0 = true) := Lib.hid (HQ.out.symm.trans (decide_eq_true ⟨h1, h2, h3, h4⟩))
          clear HQ
          go_enter Try.func24, Try.ntmps24
          go_wp2
          go_ret
          exact ⟨ret_bool HY.out.symm, rfl⟩
        · have HY : Hid (q0 = false) := Lib.hid (HQ.out.symm.trans (decide_eq_false (fun e => h4 e.2.2.2)))
          clear HQ
          go_enter Try.func24, Try.ntmps24
          go_wp2
          go_ret
          exact ⟨ret_bool (by rw [HY.out]), rfl⟩
      · have HY : Hid (q0 = false) := Lib.hid (HQ.out.symm.trans (decide_eq_false (fun e => h3 e.2.2.1)))
        clear HQ
        go_enter Try.func24, Try.ntmps24
        go_wp2
        go_ret
        exact ⟨ret_bool HY.out.symm, rfl⟩
    · have HY : Hid (q0 = false) := Lib.hid (HQ.out.symm.trans (decide_eq_false (fun e => h2 e.2.1)))
      clear HQ
      go_enter Try.func24, Try.ntmps24
      go_wp2
      go_ret
      exact ⟨ret_bool HY.out.symm, rfl⟩
  · have HY : Hid (q0 = false) := Lib.hid (HQ.out.symm.trans (decide_eq_false (fun e => h1 e.1)))
    clear HQ
    go_enter Try.func24, Try.ntmps24
    go_wp2
    go_ret
    exact ⟨ret_bool HY.out.symm, rfl⟩
set_option maxHeartbeats 3000000 in
set_option maxRecDepth 100000 in
theorem rSet (h : RV w R q C S O rb f) (hr : SetIs S O f s i g e f') :
    Calls Try.prog 11 #[.pointer (some ⟨R, 0, none⟩), .int .i64 s, .int .i64 i, .int .i64 g] w fun e' w' => e' = .returned (.int .i64 e) ∧ RV w' R q C S O rb f' ∧ Kept (fun k => ∃ t, t < S ∧ k = rb t) w w' := by
  have HA := Lib.hid h
  cases hr with
  | no hn =>
    have HQ := Lib.hid (decide_eq_false hn)
    clear hn h
    go_enter Try.func11, Try.ntmps11
    go_wp2_with fail
    refine (rHas HA.out _ _ _ HQ.out).mono ?_
    rintro e w1 ⟨rfl, rfl⟩
    go_wp2
    go_ret
    exact ⟨rfl, HA.out, Kept.refl _ _⟩
  | gr hn hg =>
    have HQ := Lib.hid (decide_eq_true hn)
    have HG := Lib.hid (decide_eq_false hg)
    clear hn hg h
    go_enter Try.func11, Try.ntmps11
    go_wp2_with fail
    refine (rHas HA.out _ _ _ HQ.out).mono ?_
    rintro e w1 ⟨rfl, rfl⟩
    go_wp2_with fail
    refine (rGroup _ _ HG.out _).mono ?_
    rintro e w1 ⟨rfl, rfl⟩
    go_wp2
    go_ret
    exact ⟨rfl, HA.out, Kept.refl _ _⟩
  | own hn hg h0 =>
    have HQ := Lib.hid (decide_eq_true hn)
    have HG := Lib.hid (decide_eq_true hg)
    obtain ⟨x, rfl⟩ : ∃ x : Nat, s = (x : Int) := ⟨s.toNat, by have := hn.1; omega⟩
    obtain ⟨y, rfl⟩ : ∃ y : Nat, i = (y : Int) := ⟨i.toNat, by have := hn.2.2.1; omega⟩
    have hx : x < S := by have := hn.2.1; omega
    have hy : y < O := by have := hn.2.2.2; omega
    have c0 := h.c0
    have cr := h.cr hx
    have ci := h.ci hx hy
    have fi := h.fi hx y
    have hcap := h.cap
    have ho2 := h.sz.2.2.2
    generalize f (x : Int) (y : Int) = G at ci h0
    have hG0 : (G != 0) = true := by simpa using h0
    clear hn hg h h0
    go_enter Try.func11, Try.ntmps11
    go_wp2_with fail
    refine (rHas HA.out _ _ _ HQ.out).mono ?_
    rintro e w1 ⟨rfl, rfl⟩
    go_wp2_with fail
    refine (rGroup _ _ HG.out _).mono ?_
    rintro e w1 ⟨rfl, rfl⟩
    go_wp2
    go_ret
    exact ⟨rfl, HA.out, Kept.refl _ _⟩
  | ok hn hg h0 =>
    have HQ := Lib.hid (decide_eq_true hn)
    have HG := Lib.hid (decide_eq_true hg)
    have hoi := h.oi.upd hn (.inr hg)
    obtain ⟨x, rfl⟩ : ∃ x : Nat, s = (x : Int) := ⟨s.toNat, by have := hn.1; omega⟩
    obtain ⟨y, rfl⟩ : ∃ y : Nat, i = (y : Int) := ⟨i.toNat, by have := hn.2.2.1; omega⟩
    have hx : x < S := by have := hn.2.1; omega
    have hy : y < O := by have := hn.2.2.2; omega
    have c0 := h.c0
    have cr := h.cr hx
    have ci := h.ci hx hy
    have fi := h.fi hx y
    have hcap := h.cap
    have ho2 := h.sz.2.2.2
    have HP := Lib.hid (h.put hx hy g hoi)
    have HK : Hid (Kept (fun k => ∃ t, t < S ∧ k = rb t) w (w.setCell ⟨rb x, y, none⟩ (.int .i64 g))) := Lib.hid (Kept.setCell (p := ⟨rb x, y, none⟩) (Kept.refl _ _) ⟨x, hx, rfl⟩ _)
    rw [h0] at ci
    clear hn hg h h0 hoi
    go_enter Try.func11, Try.ntmps11
    go_wp2_with fail
    refine (rHas HA.out _ _ _ HQ.out).mono ?_
    rintro e w1 ⟨rfl, rfl⟩
    go_wp2_with fail
    refine (rGroup _ _ HG.out _).mono ?_
    rintro e w1 ⟨rfl, rfl⟩
    go_wp2
    go_ret
    exact ⟨rfl, HP.out, HK.out⟩
set_option maxHeartbeats 3000000 in
set_option maxRecDepth 100000 in
theorem rClear (h : RV w R q C S O rb f) (hr : ClearIs S O f s i a e f') :
    Calls Try.prog 13 #[.pointer (some ⟨R, 0, none⟩), .int .i64 s, .int .i64 i] w fun e' w' => e' = .returned (.tuple #[.int .i64 a, .int .i64 e]) ∧ RV w' R q C S O rb f' ∧ Kept (fun k => ∃ t, t < S ∧ k = rb t) w w' := by
  have HA := Lib.hid h
  cases hr with
  | no hn =>
    have HQ := Lib.hid (decide_eq_false hn)
    clear hn h
    go_enter Try.func13, Try.ntmps13
    go_wp2_with fail
    refine (rHas HA.out _ _ _ HQ.out).mono ?_
    rintro e w1 ⟨rfl, rfl⟩
    go_wp2
    go_ret2
    exact ⟨rfl, HA.out, Kept.refl _ _⟩
  | none hn h0 =>
    have HQ := Lib.hid (decide_eq_true hn)
    obtain ⟨x, rfl⟩ : ∃ x : Nat, s = (x : Int) := ⟨s.toNat, by have := hn.1; omega⟩
    obtain ⟨y, rfl⟩ : ∃ y : Nat, i = (y : Int) := ⟨i.toNat, by have := hn.2.2.1; omega⟩
    have hx : x < S := by have := hn.2.1; omega
    have hy : y < O := by have := hn.2.2.2; omega
    have c0 := h.c0
    have cr := h.cr hx
    have ci := h.ci hx hy
    have fi := h.fi hx y
    have hcap := h.cap
    have ho2 := h.sz.2.2.2
    rw [h0] at ci
    clear hn h h0
    go_enter Try.func13, Try.ntmps13
    go_wp2_with fail
    refine (rHas HA.out _ _ _ HQ.out).mono ?_
    rintro e w1 ⟨rfl, rfl⟩
    go_wp2
    go_ret2
    exact ⟨rfl, HA.out, Kept.refl _ _⟩
  | ok hn h0 =>
    have HQ := Lib.hid (decide_eq_true hn)
    have hoi := h.oi.upd (g := 0) hn (.inl rfl)
    obtain ⟨x, rfl⟩ : ∃ x : Nat, s = (x : Int) := ⟨s.toNat, by have := hn.1; omega⟩
    obtain ⟨y, rfl⟩ : ∃ y : Nat, i = (y : Int) := ⟨i.toNat, by have := hn.2.2.1; omega⟩
    have hx : x < S := by have := hn.2.1; omega
    have hy : y < O := by have := hn.2.2.2; omega
    have c0 := h.c0
    have cr := h.cr hx
    have ci := h.ci hx hy
    have fi := h.fi hx y
    have hcap := h.cap
    have ho2 := h.sz.2.2.2
    have HP := Lib.hid (h.put hx hy 0 hoi)
    have HK : Hid (Kept (fun k => ∃ t, t < S ∧ k = rb t) w (w.setCell ⟨rb x, y, none⟩ (.int .i64 0))) := Lib.hid (Kept.setCell (p := ⟨rb x, y, none⟩) (Kept.refl _ _) ⟨x, hx, rfl⟩ _)
    obtain ⟨G, hG⟩ : ∃ G, f (x : Int) (y : Int) = G := ⟨_, rfl⟩
    rw [hG] at ci h0 ⊢
    have hG0 : (G == 0) = false := by simpa using h0
    clear hn h h0 hoi hG
    go_enter Try.func13, Try.ntmps13
    go_wp2_with fail
    refine (rHas HA.out _ _ _ HQ.out).mono ?_
    rintro e w1 ⟨rfl, rfl⟩
    go_wp2
    go_ret2
    exact ⟨rfl, HP.out, HK.out⟩
set_option maxHeartbeats 2000000 in
set_option maxRecDepth 100000 in
theorem rOf (h : RV w R q C S O rb f) (hg : f s i = g) : Calls Try.prog 27 #[.pointer (some ⟨R, 0, none⟩), .int .i64 s, .int .i64 i] w fun e w' => e = .returned (.int .i64 g) ∧ w' = w := by
  have HA := Lib.hid h
  by_cases hn : inn S O s i
  · have HQ := Lib.hid (decide_eq_true hn)
    obtain ⟨x, rfl⟩ : ∃ x : Nat, s = (x : Int) := ⟨s.toNat, by have := hn.1; omega⟩
    obtain ⟨y, rfl⟩ : ∃ y : Nat, i = (y : Int) := ⟨i.toNat, by have := hn.2.2.1; omega⟩
    have hx : x < S := by have := hn.2.1; omega
    have hy : y < O := by have := hn.2.2.2; omega
    have c0 := h.c0
    have cr := h.cr hx
    have ci := h.ci hx hy
    have fi := h.fi hx y
    have hcap := h.cap
    have ho2 := h.sz.2.2.2
    rw [hg] at ci
    clear hn h hg
    go_enter Try.func27, Try.ntmps27
    go_wp2_with fail
    refine (rHas HA.out _ _ _ HQ.out).mono ?_
    rintro e w1 ⟨rfl, rfl⟩
    go_wp2
    go_ret
    exact ⟨rfl, rfl⟩
  · have HQ := Lib.hid (decide_eq_false hn)
    have HY : Hid (g = 0) := Lib.hid (hg.symm.trans (h.oi.out hn))
    clear hn h hg
    go_enter Try.func27, Try.ntmps27
    go_wp2_with fail
    refine (rHas HA.out _ _ _ HQ.out).mono ?_
    rintro e w1 ⟨rfl, rfl⟩
    go_wp2
    go_ret
    exact ⟨ret_int HY.out.symm, rfl⟩
set_option maxHeartbeats 3000000 in
set_option maxRecDepth 100000 in
theorem rCount (h : RV w R q C S O rb f) (g : Int) : Calls Try.prog 28 #[.pointer (some ⟨R, 0, none⟩), .int .i64 g] w fun e w' => e = .returned (.int .i64 (countF S O f g)) ∧ w' = w := by
  have HA := Lib.hid h
  have c0 := h.c0
  have hs1 := h.sz.1
  have hs2 := h.sz.2.1
  have ho1 := h.sz.2.2.1
  have ho2 := h.sz.2.2.2
  have hcap := h.cap
  by_cases hg : grp g
  · have HG := Lib.hid (decide_eq_true hg)
    have HE : Hid (countF S O f g = cnt (ofG f g) S O) := Lib.hid (if_pos hg)
    clear h hg
    go_enter Try.func28, Try.ntmps28
    go_wp2
    go_loopw [5, 6, 7] (fun n s _ wr => ∃ x : Nat, x ≤ S ∧ s = .int .i64 x ∧ n = .int .i64 ((cntP (ofG f g) O x 0 : Nat) : Int) ∧ wr = w) (fun _ s _ _ => S - (intOf s).toNat)
    case atStart => exact ⟨0, by omega, rfl, rfl, rfl⟩
    case round =>
      obtain ⟨x, hx, rfl, rfl, rfl⟩ := hrel
      obtain ⟨N, hN⟩ : ∃ N, cntP (ofG f g) O x 0 = N := ⟨_, rfl⟩
      have hN5 : N ≤ 5000 := by rw [← hN]; exact cntP_le _ (by omega) ho2 (by omega)
      rw [hN]
      have HN := Lib.hid hN
      clear hN
      by_cases hlt : x < S
      · have cr := HA.out.cr hlt
        go_wp2_with fail
        refine (rGroup _ _ HG.out _).mono ?_
        rintro e w1 ⟨rfl, rfl⟩
        go_wp2
        go_loopw [5, 7] (fun n i wr => ∃ y : Nat, y ≤ O ∧ i = .int .i64 y ∧ n = .int .i64 ((cntP (ofG f g) O x y : Nat) : Int) ∧ wr = w1) (fun _ i _ => O - (intOf i).toNat)
        case atStart => exact ⟨0, by omega, rfl, by rw [HN.out], rfl⟩
        case round =>
          clear HN hN5
          obtain ⟨y, hy, rfl, rfl, rfl⟩ := hrel
          obtain ⟨M, hM⟩ : ∃ M, cntP (ofG f g) O x y = M := ⟨_, rfl⟩
          have hM5 : M ≤ 5000 := by rw [← hM]; exact cntP_le _ (by omega) ho2 (by omega)
          rw [hM]
          have HM := Lib.hid hM
          clear hM
          by_cases hly : y < O
          · have ci := HA.out.ci hlt hly
            have HH : Hid (f x y = g → cntP (ofG f g) O x (y + 1) = M + 1) := Lib.hid fun e => by rw [cntP_step, HM.out, b1_true (show ofG f g x y = true from decide_eq_true e)]
            have HF : Hid (f x y ≠ g → cntP (ofG f g) O x (y + 1) = M) := Lib.hid fun e => by rw [cntP_step, HM.out, b1_false (show ofG f g x y = false from decide_eq_false e)]; rfl
            generalize f (x : Int) (y : Int) = G at ci HH HF
            by_cases hG : G = g
            · have hgg : (G == g) = true := by simp [hG]
              have HH1 := Lib.hid (HH.out hG)
              clear HH HF hG
              go_wp2
              go_roundw
              case rel => exact ⟨y + 1, by omega, by go_num, by rw [HH1.out]; go_num, by trivial⟩
              case measure => simp [intOf]; omega
            · have hgg : (G == g) = false := by simp [hG]
              have HF1 := Lib.hid (HF.out hG)
              clear HH HF hG
              go_wp2
              go_roundw
              case rel => exact ⟨y + 1, by omega, by go_num, by rw [HF1.out], by trivial⟩
              case measure => simp [intOf]; omega
          · have HR : Hid (cntP (ofG f g) O (x + 1) 0 = M) := Lib.hid (by
              rw [cntP_row, ← HM.out]
              congr 1
              omega)
            obtain rfl : y = O := by omega
            go_wp2
            go_roundw
            case rel => exact ⟨x + 1, by omega, by go_num, by rw [HR.out], by trivial⟩
            case measure => simp [intOf]; omega
      · have HR : Hid (countF S O f g = N) := Lib.hid (by
          rw [HE.out, ← cntP_end, ← HN.out]
          congr 1
          omega)
        obtain rfl : x = S := by omega
        go_wp2
        go_ret
        exact ⟨ret_int (by rw [HR.out]), rfl⟩
  · have HG := Lib.hid (decide_eq_false hg)
    have HE : Hid (countF S O f g = 0) := Lib.hid (if_neg hg)
    have hS0 : (0 : Int) < (S : Int) := by omega
    clear h hg
    go_enter Try.func28, Try.ntmps28
    go_wp2
    go_loopw [5, 6, 7] (fun n s _ wr => s = .int .i64 0 ∧ n = .int .i64 0 ∧ wr = w) (fun _ _ _ _ => 0)
    case atStart => exact ⟨rfl, rfl, rfl⟩
    case round =>
      obtain ⟨rfl, rfl, rfl⟩ := hrel
      go_wp2_with fail
      refine (rGroup _ _ HG.out _).mono ?_
      rintro e w1 ⟨rfl, rfl⟩
      go_wp2
      go_ret
      exact ⟨ret_int (by rw [HE.out]; rfl), rfl⟩
set_option maxHeartbeats 2000000 in
set_option maxRecDepth 100000 in
theorem rEmpty (h : RV w R q C S O rb f) (s : Int) (q0 : Bool) (hq : q0 = true ↔ Emp S O f s) : Calls Try.prog 26 #[.pointer (some ⟨R, 0, none⟩), .int .i64 s] w fun e w' => e = .returned (.bool q0) ∧ w' = w := by
  have HA := Lib.hid h
  by_cases hn : inn S O s 0
  · have HQ := Lib.hid (decide_eq_true hn)
    have HE := Lib.hid hq
    have HN := Lib.hid hn
    obtain ⟨x, rfl⟩ : ∃ x : Nat, s = (x : Int) := ⟨s.toNat, by have := hn.1; omega⟩
    have hx : x < S := by have := hn.2.1; omega
    have c0 := h.c0
    have cr := h.cr hx
    have hcap := h.cap
    have ho2 := h.sz.2.2.2
    have hs2 := h.sz.2.1
    clear hn h hq
    go_enter Try.func26, Try.ntmps26
    go_wp2_with fail
    refine (rHas HA.out _ _ _ HQ.out).mono ?_
    rintro e w1 ⟨rfl, rfl⟩
    go_wp2
    go_loopw [5] (fun u wr => ∃ k : Nat, k ≤ O ∧ u = .int .i64 k ∧ wr = w1 ∧ Hid (∀ i : Nat, i < k → f x i = 0)) (fun u _ => O - (intOf u).toNat)
    case atStart => exact ⟨0, by omega, rfl, rfl, Lib.hid fun i h => by omega⟩
    case round =>
      obtain ⟨k, hk, rfl, rfl, HZ⟩ := hrel
      by_cases hlt : k < O
      · have ci := HA.out.ci hx hlt
        obtain ⟨G, hG⟩ : ∃ G, f (x : Int) (k : Int) = G := ⟨_, rfl⟩
        rw [hG] at ci
        have HG := Lib.hid hG
        clear hG
        by_cases hg : G = 0
        · have hgg : (G != 0) = false := by simp [hg]
          have HZ2 : Hid (∀ i : Nat, i < k + 1 → f x i = 0) := Lib.hid fun i h => by
            rcases (by omega : i < k ∨ i = k) with h | rfl
            · exact HZ.out i h
            · rw [HG.out, hg]
          clear hg HZ
          go_wp2
          go_roundw
          case rel => exact ⟨k + 1, by omega, by go_num, by trivial, HZ2⟩
          case measure => simp [intOf]; omega
        · have hgg : (G != 0) = true := by simp [hg]
          have HY : Hid (q0 = false) := Lib.hid (by
            rw [Bool.eq_false_iff]
            intro e
            have := (HE.out.1 e).2.2 k hlt
            rw [HG.out] at this
            exact hg this)
          clear hg HZ
          go_wp2
          go_ret
          exact ⟨ret_bool HY.out.symm, rfl⟩
      · obtain rfl : k = O := by omega
        have HY : Hid (q0 = true) := Lib.hid (HE.out.2 ⟨HN.out.1, HN.out.2.1, HZ.out⟩)
        clear HZ
        go_wp2
        go_ret
        exact ⟨ret_bool HY.out.symm, rfl⟩
  · have HQ := Lib.hid (decide_eq_false hn)
    have HY : Hid (q0 = false) := Lib.hid (by
      rw [Bool.eq_false_iff]
      intro e
      obtain ⟨e1, e2, _⟩ := hq.1 e
      have := h.sz.2.2.1
      exact hn ⟨e1, e2, by omega, by omega⟩)
    clear h hn hq
    go_enter Try.func26, Try.ntmps26
    go_wp2_with fail
    refine (rHas HA.out _ _ _ HQ.out).mono ?_
    rintro e w1 ⟨rfl, rfl⟩
    go_wp2
    go_ret
    exact ⟨ret_bool HY.out.symm, rfl⟩
end
end Go.Proofs.Ytoffakamlpfgoaa
