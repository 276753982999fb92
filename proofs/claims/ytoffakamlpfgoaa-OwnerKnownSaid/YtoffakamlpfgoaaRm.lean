/-
  The document's Move.
-/
import Derived.Test.YtoffakamlpfgoaaRc
set_option linter.unusedVariables false
set_option linter.unusedSimpArgs false
namespace Go.Proofs.Ytoffakamlpfgoaa
open Go Go.RowKit
section
variable {Sx : Nat → Prop} {w w' W : World} {R q C S O k D : Nat} {rb : Nat → Nat} {f f' : Ow} {v : Value} {Ts : List TypeId} {s i g n e a c : Int}
theorem RV.own (h : RV w R q C S O rb f) (h' : Kept (fun k => ∃ t, t < S ∧ k = rb t) W w) {x : Nat} (hx : x < S) (y : Nat) (u : Value) : Kept (fun k => ∃ t, t < S ∧ k = rb t) W (w.setCell ⟨rb x, y, none⟩ u) :=
  h'.setCell (p := ⟨rb x, y, none⟩) ⟨x, hx, rfl⟩ u
set_option maxHeartbeats 4000000 in
set_option maxRecDepth 100000 in
theorem rMove (h : RV w R q C S O rb f) (hr : MoveIs S O f a c n e f') :
    Calls Try.prog 15 #[.pointer (some ⟨R, 0, none⟩), .int .i64 a, .int .i64 c] w fun e' w' => e' = .returned (.tuple #[.int .i64 n, .int .i64 e]) ∧ RV w' R q C S O rb f' ∧ Kept (fun k => ∃ t, t < S ∧ k = rb t) w w' := by
  have HA := Lib.hid h
  cases hr with
  | gr hg =>
    clear h
    by_cases hga : grp a
    · have HGA := Lib.hid (decide_eq_true hga)
      have HGC := Lib.hid (decide_eq_false (fun e => hg ⟨hga, e⟩))
      clear hg hga
      go_enter Try.func15, Try.ntmps15
      go_wp2_with fail
      refine (rGroup _ _ HGA.out _).mono ?_
      rintro e w2 ⟨rfl, rfl⟩
      go_wp2_with fail
      refine (rGroup _ _ HGC.out _).mono ?_
      rintro e w3 ⟨rfl, rfl⟩
      go_wp2
      go_ret2
      exact ⟨rfl, HA.out, Kept.refl _ _⟩
    · have HGA := Lib.hid (decide_eq_false hga)
      clear hg hga
      go_enter Try.func15, Try.ntmps15
      go_wp2_with fail
      refine (rGroup _ _ HGA.out _).mono ?_
      rintro e w2 ⟨rfl, rfl⟩
      go_wp2
      go_ret2
      exact ⟨rfl, HA.out, Kept.refl _ _⟩
  | same hga hgc hac =>
    subst hac
    have HGA := Lib.hid (decide_eq_true hga)
    have haa : (a == a) = true := by simp
    clear h hga hgc
    go_enter Try.func15, Try.ntmps15
    go_wp2_with fail
    refine (rGroup _ _ HGA.out _).mono ?_
    rintro e w2 ⟨rfl, rfl⟩
    go_wp2_with fail
    refine (rGroup _ _ HGA.out _).mono ?_
    rintro e w3 ⟨rfl, rfl⟩
    go_wp2
    go_ret2
    exact ⟨rfl, HA.out, Kept.refl _ _⟩
  | ok hga hgc hac =>
    have HGA := Lib.hid (decide_eq_true hga)
    have HGC := Lib.hid (decide_eq_true hgc)
    have HP := Lib.hid (And.intro hga hgc)
    have hac2 : (a == c) = false := by simp [hac]
    have hs2 := h.sz.2.1
    have ho2 := h.sz.2.2.2
    have hcap := h.cap
    have hoi := Lib.hid h.oi
    have H0 : Hid (RV w R q C S O rb (movP f a c 0 0)) := Lib.hid (by rw [movP_start h.oi c hga]; exact h)
    clear h hga hgc hac HA
    go_enter Try.func15, Try.ntmps15
    go_wp2_with fail
    refine (rGroup _ _ HGA.out _).mono ?_
    rintro e w2 ⟨rfl, rfl⟩
    go_wp2_with fail
    refine (rGroup _ _ HGC.out _).mono ?_
    rintro e w1 ⟨rfl, rfl⟩
    go_wp2
    go_loopw [8, 9, 10] (fun n s _ wr => ∃ x : Nat, x ≤ S ∧ s = .int .i64 x ∧ n = .int .i64 ((cntP (ofG f a) O x 0 : Nat) : Int) ∧ Hid (RV wr R q C S O rb (movP f a c x 0)) ∧ Hid (Kept (fun k => ∃ t, t < S ∧ k = rb t) w1 wr)) (fun _ s _ _ => S - (intOf s).toNat)
    case atStart => exact ⟨0, by omega, rfl, rfl, H0, Lib.hid (Kept.refl _ _)⟩
    case round =>
      clear H0
      obtain ⟨x, hx, rfl, rfl, HX, HK⟩ := hrel
      have c0 := HX.out.c0
      obtain ⟨N, hN⟩ : ∃ N, cntP (ofG f a) O x 0 = N := ⟨_, rfl⟩
      have hN5 : N ≤ 5000 := by rw [← hN]; exact cntP_le _ (by omega) ho2 (by omega)
      rw [hN]
      have HN := Lib.hid hN
      clear hN
      by_cases hlt : x < S
      · go_wp2
        go_loopw [8, 10] (fun n i wr => ∃ y : Nat, y ≤ O ∧ i = .int .i64 y ∧ n = .int .i64 ((cntP (ofG f a) O x y : Nat) : Int) ∧ Hid (RV wr R q C S O rb (movP f a c x y)) ∧ Hid (Kept (fun k => ∃ t, t < S ∧ k = rb t) w1 wr)) (fun _ i _ => O - (intOf i).toNat)
        case atStart => exact ⟨0, by omega, rfl, by rw [HN.out], HX, HK⟩
        case round =>
          clear HN hN5 HX HK c0
          obtain ⟨y, hy, rfl, rfl, HX, HK⟩ := hrel
          have c0 := HX.out.c0
          have cr := HX.out.cr hlt
          obtain ⟨M, hM⟩ : ∃ M, cntP (ofG f a) O x y = M := ⟨_, rfl⟩
          have hM5 : M ≤ 5000 := by rw [← hM]; exact cntP_le _ (by omega) ho2 (by omega)
          rw [hM]
          have HM := Lib.hid hM
          clear hM
          by_cases hly : y < O
          · have ci := HX.out.ci hlt hly
            rw [movP_here] at ci
            have fi := HX.out.fi hlt y
            by_cases hG : f x y = a
            · have hgg : (f x y == a) = true := by simp [hG]
              have HH1 : Hid (cntP (ofG f a) O x (y + 1) = M + 1) := Lib.hid (by rw [cntP_step, HM.out, b1_true (show ofG f a x y = true from decide_eq_true hG)])
              have HX2 : Hid (RV (wr.setCell ⟨rb x, y, none⟩ (.int .i64 c)) R q C S O rb (movP f a c x (y + 1))) := Lib.hid (by
                rw [← movP_hit hG]
                exact HX.out.put hlt hly c (by rw [movP_hit hG]; exact hoi.out.movP HP.out.1 HP.out.2 _ _))
              have HK2 := Lib.hid (HX.out.own HK.out hlt y (.int .i64 c))
              clear hG HX HK HM
              generalize f (x : Int) (y : Int) = G at ci hgg
              go_wp2
              go_roundw
              case rel => exact ⟨y + 1, by omega, by go_num, by rw [HH1.out]; go_num, HX2, HK2⟩
              case measure => simp [intOf]; omega
            · have hgg : (f x y == a) = false := by simp [hG]
              have HF1 : Hid (cntP (ofG f a) O x (y + 1) = M) := Lib.hid (by rw [cntP_step, HM.out, b1_false (show ofG f a x y = false from decide_eq_false hG)]; rfl)
              have HX2 : Hid (RV wr R q C S O rb (movP f a c x (y + 1))) := Lib.hid (by rw [movP_miss hG]; exact HX.out)
              clear hG HX HM
              generalize f (x : Int) (y : Int) = G at ci hgg
              go_wp2
              go_roundw
              case rel => exact ⟨y + 1, by omega, by go_num, by rw [HF1.out], HX2, HK⟩
              case measure => simp [intOf]; omega
          · have hyO : O = y := by omega
            subst hyO
            have HR : Hid (cntP (ofG f a) O (x + 1) 0 = M) := Lib.hid (by rw [cntP_row, ← HM.out])
            have HX2 : Hid (RV wr R q C S O rb (movP f a c (x + 1) 0)) := Lib.hid (by rw [← movP_row hoi.out c HP.out.1]; exact HX.out)
            clear HX HM
            go_wp2
            go_roundw
            case rel => exact ⟨x + 1, by omega, by go_num, by rw [HR.out], HX2, HK⟩
            case measure => simp [intOf]; omega
      · have hxS : S = x := by omega
        subst hxS
        have HR : Hid (cnt (ofG f a) S O = N) := Lib.hid (by rw [← cntP_end, ← HN.out])
        have HX2 : Hid (RV wr R q C S O rb (mov f a c)) := Lib.hid (by rw [← movP_end hoi.out c HP.out.1]; exact HX.out)
        clear HX HN
        go_wp2
        go_ret2
        exact ⟨by rw [HR.out]; rfl, HX2.out, HK.out⟩
end
end Go.Proofs.Ytoffakamlpfgoaa
