/-
  Both in one world; with a call's box; whether both stand alike.
-/
import Derived.Test.YtoffakamlpfgoaaOne
import Derived.Test.YtoffakamlpfgoaaRm
import Derived.Test.YtoffakamlpfgoaaDo
set_option linter.unusedVariables false
set_option linter.unusedSimpArgs false
namespace Go.Proofs.Ytoffakamlpfgoaa
open Go Go.RowKit

structure Z2 (W w : World) (B b R q C S O : Nat) (rb : Nat → Nat) (f h : Ow) : Prop where
  o : O1 W w B b S O f
  v : RV w R q C S O rb h
  ge : W.heap.size ≤ R ∧ W.heap.size ≤ q ∧ ∀ s, s < S → W.heap.size ≤ rb s
section
variable {W w w' : World} {B b R q C S O D : Nat} {rb : Nat → Nat} {f f' h h' : Ow} {s i g n a c e : Int} {dv : Array Value} {z : Bool}
theorem Z2.below (H : Z2 W w B b R q C S O rb f h) (hb : Below w.heap.size w w') : Z2 W w' B b R q C S O rb f h := ⟨H.o.below hb, H.v.below hb, H.ge⟩
theorem Z2.drew (H : Z2 W w B b R q C S O rb f h) : Z2 W w.drew B b R q C S O rb f h := H.below (Below.refl _ w).drew
theorem Z2.left (H : Z2 W w B b R q C S O rb f h) (ho : O1 W w' B b S O f') (hk : KM w w') : Z2 W w' B b R q C S O rb f' h := by
  obtain ⟨Sx, hk, hS⟩ := hk
  refine ⟨ho, H.v.kept hk fun k c T fr hc _ e => ?_, H.ge⟩
  obtain ⟨es, cl, h1⟩ := hS k e
  rw [hc] at h1
  cases h1
theorem RV.typ (hv : RV w R q C S O rb h) : ∀ k, (∃ t, t < S ∧ k = rb t) → Typ w [3] k := by
  rintro k ⟨t, ht, rfl⟩
  exact (hv.rows t ht).typ (by simp)
theorem Z2.right (H : Z2 W w B b R q C S O rb f h) (hv : RV w' R q C S O rb h') (hk : Kept (fun k => ∃ t, t < S ∧ k = rb t) w w') : Z2 W w' B b R q C S O rb f h' :=
  ⟨H.o.kept hk H.v.typ (by decide) (by rintro k ⟨t, ht, rfl⟩; exact H.ge.2.2 t ht), hv, H.ge⟩
/-- with a call's box -/
structure QS (W w : World) (B b R q C S O : Nat) (rb : Nat → Nat) (f h : Ow) (D : Nat) (dv : Array Value) : Prop where
  z : Z2 W w B b R q C S O rb f h
  d : w.heap[D]? = some (.cells dv 31 (0, 0))
theorem QS.below (H : QS W w B b R q C S O rb f h D dv) (hb : Below w.heap.size w w') : QS W w' B b R q C S O rb f h D dv := ⟨H.z.below hb, keep_block H.d hb⟩
theorem QS.drew (H : QS W w B b R q C S O rb f h D dv) : QS W w.drew B b R q C S O rb f h D dv := H.below (Below.refl _ w).drew
theorem QS.left (H : QS W w B b R q C S O rb f h D dv) (ho : O1 W w' B b S O f') (hk : KM w w') : QS W w' B b R q C S O rb f' h D dv := ⟨H.z.left ho hk, hk.box H.d⟩
theorem QS.right (H : QS W w B b R q C S O rb f h D dv) (hv : RV w' R q C S O rb h') (hk : Kept (fun k => ∃ t, t < S ∧ k = rb t) w w') : QS W w' B b R q C S O rb f h' D dv :=
  ⟨H.z.right hv hk, box_kept H.d hk H.z.v.typ (by decide)⟩
theorem QS.cell (H : QS W w B b R q C S O rb f h D dv) {i : Nat} {y : Value} (hi : dv[i]? = some y) : w.cell? ⟨D, i, none⟩ = some y := self_cell H.d i _ hi
theorem qSet (H : QS W w B b R q C S O rb f h D dv) (hr : SetIs S O f s i g e f') :
    Calls Try.prog 10 #[.pointer (some ⟨B, 0, none⟩), .int .i64 s, .int .i64 i, .int .i64 g] w fun e' w' => e' = .returned (.int .i64 e) ∧ QS W w' B b R q C S O rb f' h D dv := by
  refine (oSet H.z.o hr).mono ?_
  rintro e' w' ⟨rfl, h1, h2⟩
  exact ⟨rfl, H.left h1 h2⟩
theorem qrSet (H : QS W w B b R q C S O rb f h D dv) (hr : SetIs S O h s i g e h') :
    Calls Try.prog 11 #[.pointer (some ⟨R, 0, none⟩), .int .i64 s, .int .i64 i, .int .i64 g] w fun e' w' => e' = .returned (.int .i64 e) ∧ QS W w' B b R q C S O rb f h' D dv := by
  refine (rSet H.z.v hr).mono ?_
  rintro e' w' ⟨rfl, h1, h2⟩
  exact ⟨rfl, H.right h1 h2⟩
theorem qClear (H : QS W w B b R q C S O rb f h D dv) (hr : ClearIs S O f s i a e f') :
    Calls Try.prog 12 #[.pointer (some ⟨B, 0, none⟩), .int .i64 s, .int .i64 i] w fun e' w' => e' = .returned (.tuple #[.int .i64 a, .int .i64 e]) ∧ QS W w' B b R q C S O rb f' h D dv := by
  refine (oClear H.z.o hr).mono ?_
  rintro e' w' ⟨rfl, h1, h2⟩
  exact ⟨rfl, H.left h1 h2⟩
theorem qrClear (H : QS W w B b R q C S O rb f h D dv) (hr : ClearIs S O h s i a e h') :
    Calls Try.prog 13 #[.pointer (some ⟨R, 0, none⟩), .int .i64 s, .int .i64 i] w fun e' w' => e' = .returned (.tuple #[.int .i64 a, .int .i64 e]) ∧ QS W w' B b R q C S O rb f h' D dv := by
  refine (rClear H.z.v hr).mono ?_
  rintro e' w' ⟨rfl, h1, h2⟩
  exact ⟨rfl, H.right h1 h2⟩
theorem qMove (H : QS W w B b R q C S O rb f h D dv) (hr : MoveIs S O f a c n e f') :
    Calls Try.prog 14 #[.pointer (some ⟨B, 0, none⟩), .int .i64 a, .int .i64 c] w fun e' w' => e' = .returned (.tuple #[.int .i64 n, .int .i64 e]) ∧ QS W w' B b R q C S O rb f' h D dv := by
  refine (oMove H.z.o hr).mono ?_
  rintro e' w' ⟨rfl, h1, h2⟩
  exact ⟨rfl, H.left h1 h2⟩
theorem qrMove (H : QS W w B b R q C S O rb f h D dv) (hr : MoveIs S O h a c n e h') :
    Calls Try.prog 15 #[.pointer (some ⟨R, 0, none⟩), .int .i64 a, .int .i64 c] w fun e' w' => e' = .returned (.tuple #[.int .i64 n, .int .i64 e]) ∧ QS W w' B b R q C S O rb f h' D dv := by
  refine (rMove H.z.v hr).mono ?_
  rintro e' w' ⟨rfl, h1, h2⟩
  exact ⟨rfl, H.right h1 h2⟩
end
set_option maxHeartbeats 4000000 in
set_option maxRecDepth 100000 in
theorem cSame {W w : World} {B b R q C S O : Nat} {rb : Nat → Nat} {f : Ow} (H : Z2 W w B b R q C S O rb f f) :
    Calls Try.prog 16 #[.pointer (some ⟨B, 0, none⟩), .pointer (some ⟨R, 0, none⟩)] w fun e w' => e = .returned (.bool true) ∧ Z2 W w' B b R q C S O rb f f := by
  have H0 := Lib.hid H
  have hs2 := H.v.sz.2.1
  have hcap := H.v.cap
  clear H
  go_enter Try.func16, Try.ntmps16
  go_wp2
  go_loopw [5, 6] (fun u _ wr => ∃ x : Nat, x ≤ S + 2 ∧ x ≤ 41 ∧ u = .int .i64 ((x : Int) - 1) ∧ Hid (Z2 W wr B b R q C S O rb f f)) (fun u _ _ => 42 - (intOf u + 1).toNat)
  case atStart => exact ⟨0, by omega, by omega, by first | rfl | go_num, H0⟩
  case round =>
    clear H0
    obtain ⟨x, hx, hx41, rfl, HZ⟩ := hrel
    obtain ⟨y, hy⟩ : ∃ y, (x : Int) - 1 = y := ⟨_, rfl⟩
    rw [hy]
    have c0 := HZ.out.v.c0
    by_cases hyS : y ≤ (S : Int)
    · by_cases hy40 : y < 40
      · have HWS := Lib.hid (wf_small (x := y) ⟨by omega, by omega⟩)
        obtain ⟨z, hz⟩ := emp_ex S O f y
        have HE := Lib.hid hz
        have hzz : (z != z) = false := by simp
        clear hz
        go_wp2_with fail
        refine (oEmpty HZ.out.o HWS.out z HE.out).mono ?_
        rintro e w1 ⟨rfl, _, hb1⟩
        have HZ1 := Lib.hid (HZ.out.below hb1)
        clear hb1 HZ c0
        go_wp2_with fail
        refine (rEmpty HZ1.out.v _ z HE.out).mono ?_
        rintro e w2 ⟨rfl, rfl⟩
        go_wp2
        try simp only [show decide (y ≤ (S : Int)) = true from decide_eq_true hyS, show decide (y < 40) = true from decide_eq_true hy40]
        go_loopw [6] (fun u wr => ∃ j : Nat, j ≤ 18 ∧ u = .int .i64 ((j : Int) - 1) ∧ Hid (Z2 W wr B b R q C S O rb f f)) (fun u _ => 19 - (intOf u + 1).toNat)
        case atStart => exact ⟨0, by omega, by first | rfl | go_num, HZ1⟩
        case round =>
          clear HZ1
          obtain ⟨j, hj, rfl, HZ⟩ := hrel
          obtain ⟨t, ht⟩ : ∃ t, (j : Int) - 1 = t := ⟨_, rfl⟩
          rw [ht]
          by_cases hj18 : j < 18
          · have ht17 : t < 17 := by omega
            have HWT := Lib.hid (wf_small (x := t) ⟨by omega, by omega⟩)
            obtain ⟨G, hG⟩ : ∃ G, f y t = G := ⟨_, rfl⟩
            have HG := Lib.hid hG
            have hGG : (G != G) = false := by simp
            clear hG
            go_wp2_with fail
            refine (oOf HZ.out.o HWS.out HWT.out HG.out).mono ?_
            rintro e w3 ⟨rfl, rfl⟩
            go_wp2_with fail
            refine (rOf HZ.out.v HG.out).mono ?_
            rintro e w4 ⟨rfl, rfl⟩
            go_wp2
            go_roundw
            case rel => exact ⟨j + 1, by omega, by rw [← ht]; go_num, HZ⟩
            case measure => simp [intOf]; omega
          · have ht17 : t = 17 := by omega
            subst ht17
            go_wp2
            go_roundw
            case rel => exact ⟨x + 1, by omega, by omega, by rw [← hy]; go_num, HZ⟩
            case measure => simp [intOf]; omega
      · go_wp2
        go_loopw [7] (fun u wr => ∃ j : Nat, j ≤ 19 ∧ u = .int .i64 ((j : Int) - 1) ∧ Hid (Z2 W wr B b R q C S O rb f f)) (fun u _ => 20 - (intOf u + 1).toNat)
        case atStart => exact ⟨0, by omega, by first | rfl | go_num, HZ⟩
        case round =>
          clear HZ c0
          obtain ⟨j, hj, rfl, HZ⟩ := hrel
          obtain ⟨t, ht⟩ : ∃ t, (j : Int) - 1 = t := ⟨_, rfl⟩
          rw [ht]
          by_cases hj19 : j < 19
          · have ht18 : t < 18 := by omega
            obtain ⟨m, hm⟩ : ∃ m, countF S O f t = m := ⟨_, rfl⟩
            have HM := Lib.hid hm
            have hmm : ((m : Int) != (m : Int)) = false := by simp
            clear hm
            go_wp2_with fail
            refine (oCount HZ.out.o t m HM.out).mono ?_
            rintro e w3 ⟨rfl, _, hb3⟩
            have HZ3 := Lib.hid (HZ.out.below hb3)
            clear hb3 HZ
            go_wp2_with fail
            refine (rCount HZ3.out.v t).mono ?_
            rintro e w4 ⟨rfl, rfl⟩
            rw [HM.out]
            go_wp2
            go_roundw
            case rel => exact ⟨j + 1, by omega, by rw [← ht]; go_num, HZ3⟩
            case measure => simp [intOf]; omega
          · have ht18 : t = 18 := by omega
            subst ht18
            go_wp2
            go_ret
            exact ⟨rfl, HZ.out⟩
    · go_wp2
      go_loopw [7] (fun u wr => ∃ j : Nat, j ≤ 19 ∧ u = .int .i64 ((j : Int) - 1) ∧ Hid (Z2 W wr B b R q C S O rb f f)) (fun u _ => 20 - (intOf u + 1).toNat)
      case atStart => exact ⟨0, by omega, by first | rfl | go_num, HZ⟩
      case round =>
        clear HZ c0
        obtain ⟨j, hj, rfl, HZ⟩ := hrel
        obtain ⟨t, ht⟩ : ∃ t, (j : Int) - 1 = t := ⟨_, rfl⟩
        rw [ht]
        by_cases hj19 : j < 19
        · have ht18 : t < 18 := by omega
          obtain ⟨m, hm⟩ : ∃ m, countF S O f t = m := ⟨_, rfl⟩
          have HM := Lib.hid hm
          have hmm : ((m : Int) != (m : Int)) = false := by simp
          clear hm
          go_wp2_with fail
          refine (oCount HZ.out.o t m HM.out).mono ?_
          rintro e w3 ⟨rfl, _, hb3⟩
          have HZ3 := Lib.hid (HZ.out.below hb3)
          clear hb3 HZ
          go_wp2_with fail
          refine (rCount HZ3.out.v t).mono ?_
          rintro e w4 ⟨rfl, rfl⟩
          rw [HM.out]
          go_wp2
          go_roundw
          case rel => exact ⟨j + 1, by omega, by rw [← ht]; go_num, HZ3⟩
          case measure => simp [intOf]; omega
        · have ht18 : t = 18 := by omega
          subst ht18
          go_wp2
          go_ret
          exact ⟨rfl, HZ.out⟩
end Go.Proofs.Ytoffakamlpfgoaa
