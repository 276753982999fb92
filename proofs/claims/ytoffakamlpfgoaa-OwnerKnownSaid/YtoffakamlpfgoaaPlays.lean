/-
  The law OwnerPlays, walked.
-/
import Derived.Test.YtoffakamlpfgoaaTwo
set_option linter.unusedVariables false
set_option linter.unusedSimpArgs false
namespace Go.Proofs.Ytoffakamlpfgoaa
open Go Go.RowKit

theorem zNew {W w : World} {B b S O : Nat} (h : O1 W w B b S O noO) : Calls Try.prog 8 #[.int .i64 S, .int .i64 O] w fun e w' => ∃ R, e = .returned (.tuple #[.pointer (some ⟨R, 0, none⟩), .int .i64 0]) ∧ ∃ q C rb, Z2 W w' B b R q C S O rb noO noO := by
  refine (rNew S O h.v.sz w).mono ?_
  rintro e w' ⟨R, rfl, v, rb, h3⟩
  obtain ⟨q, C, h4, h5⟩ := h3.done h.v.sz
  have h6 := h.low.size
  exact ⟨R, rfl, q, C, rb, h.below h3.low, h4, Nat.le_trans h6 h3.ge.1, Nat.le_trans h6 h5, fun s hs => Nat.le_trans h6 (h3.ge.2 s hs)⟩
theorem QS.start {W w : World} {B b R q C S O : Nat} {rb : Nat → Nat} {f h : Ow} (H : Z2 W w B b R q C S O rb f h) (dv : Array Value) : QS W (w.alloc (.cells dv 31)) B b R q C S O rb f h w.heap.size dv := ⟨H.below (below_one (Below.refl _ _) _), heap_new _ _⟩
set_option maxHeartbeats 8000000 in
set_option maxRecDepth 100000 in
theorem walkPlays (x x' : Int) (u : Value) (l : List Qd) (W : World) (hs : ShowD W u l) : Calls Try.prog 3 #[.int .i64 x, .int .i64 x', u] W fun e W' => e = .returned (.bool true) ∧ Below W.heap.size W W' := by
  obtain ⟨ao, cap, rfl, hcap, hat⟩ := hs.form
  clear hs
  by_cases hx : 1 ≤ x ∧ x ≤ 256 ∧ 1 ≤ x' ∧ x' ≤ 16
  · obtain ⟨S, rfl⟩ : ∃ S : Nat, x = (S : Int) := ⟨x.toNat, by omega⟩
    obtain ⟨O, rfl⟩ : ∃ O : Nat, x' = (O : Int) := ⟨x'.toNat, by omega⟩
    have HSZ : Hid (1 ≤ S ∧ S ≤ 256 ∧ 1 ≤ O ∧ O ≤ 16) := Lib.hid (by omega)
    clear hx
    go_enter Try.func3, Try.ntmps3
    go_wp2_with fail
    refine (oNew S O HSZ.out _).mono ?_
    rintro e w1 ⟨B, b, rfl, h1⟩
    have H1 := Lib.hid h1
    clear h1
    go_wp2_with fail
    refine (zNew H1.out).mono ?_
    rintro e w2 ⟨R, rfl, q, C, rb, h2⟩
    have H2 := Lib.hid h2
    clear h2 H1
    go_wp2
    go_loopw [11] (fun i wr => ∃ k : Nat, k ≤ l.length ∧ k ≤ 100 ∧ i = .int .i64 k ∧ Hid (∃ f, Z2 W wr B b R q C S O rb f f)) (fun i _ => l.length - (intOf i).toNat)
    case atStart => exact ⟨0, by omega, by omega, rfl, Lib.hid ⟨_, H2.out⟩⟩
    case round =>
      clear H2
      obtain ⟨k, hk, hk100, rfl, HS⟩ := hrel
      obtain ⟨f, hf⟩ := HS.out
      have HT := Lib.hid hf
      clear hf HS
      by_cases hlt : k < l.length
      · by_cases hlt2 : k < 100
        · obtain ⟨b1, o1, rfl, d0, d1, d2, d3, d4⟩ := hat k hlt
          replace d0 := cell_keep HT.out.o.low d0
          replace d1 := cell_keep HT.out.o.low d1
          replace d2 := cell_keep HT.out.o.low d2
          replace d3 := cell_keep HT.out.o.low d3
          replace d4 := cell_keep HT.out.o.low d4
          generalize (qd l k).kind = kd at d0
          generalize (qd l k).slab = s at d1
          generalize (qd l k).i = i at d2
          generalize (qd l k).g = g at d3
          generalize (qd l k).to = t at d4
          obtain ⟨y, hy⟩ : ∃ y, bring kd 3 = y := ⟨_, rfl⟩
          have HK := Lib.hid hy
          have hy3 : y < 3 := by rw [← hy]; exact bring_lt kd 3 (by decide)
          have H1 : Hid (QS W (wr.alloc (.cells #[.int .i64 kd, .int .i64 s, .int .i64 i, .int .i64 g, .int .i64 t] 31)) B b R q C S O rb f f wr.heap.size #[.int .i64 kd, .int .i64 s, .int .i64 i, .int .i64 g, .int .i64 t]) := Lib.hid (QS.start HT.out _)
          clear hy
          go_wp2_with fail
          obtain ⟨D, hD⟩ : ∃ D, wr.heap.size = D := ⟨_, rfl⟩
          obtain ⟨w3, hw3⟩ : ∃ w3, wr.alloc (.cells #[.int .i64 kd, .int .i64 s, .int .i64 i, .int .i64 g, .int .i64 t] 31) = w3 := ⟨_, rfl⟩
          rw [hw3, hD] at H1
          simp only [hw3, hD]
          clear hw3 hD HT d0 d1 d2 d3 d4
          refine (cBringN kd 3 3 rfl (by decide) _).mono ?_
          rintro e w4 ⟨rfl, rfl⟩
          rw [HK.out]
          clear HK
          rcases (by omega : y = 0 ∨ y = 1 ∨ y = 2) with rfl | rfl | rfl
          · obtain ⟨er, f', hr⟩ := SetIs.ex S O f s i g
            have HR := Lib.hid hr
            have hee : (er == er) = true := by simp
            have hd := H1.out.drew
            clear hr
            go_wp2
            go_region_held3 (fun w' => w'.cell? ⟨D, 1, none⟩ = some (.int .i64 s) ∧ w'.cell? ⟨D, 2, none⟩ = some (.int .i64 i) ∧ w'.cell? ⟨D, 3, none⟩ = some (.int .i64 g))
              (first | exact ⟨QS.cell (show QS W _ B b R q C S O rb _ _ D _ from by assumption) rfl, QS.cell (show QS W _ B b R q C S O rb _ _ D _ from by assumption) rfl, QS.cell (show QS W _ B b R q C S O rb _ _ D _ from by assumption) rfl⟩)
              (first
                | (go_at_call 10; refine (qSet (by assumption) HR.out).mono ?_; rintro e wN ⟨rfl, bN⟩)
                | (go_at_call 11; refine (qrSet (by assumption) HR.out).mono ?_; rintro e wM ⟨rfl, hM⟩))
            all_goals
              have HM := Lib.hid hM.z
              clear hM hd
              go_wp2
              go_roundw
              case rel => exact ⟨k + 1, by omega, by omega, by go_num, Lib.hid ⟨_, HM.out⟩⟩
              case measure => simp [intOf]; omega
          · obtain ⟨a, er, f', hr⟩ := ClearIs.ex S O f s i
            have HR := Lib.hid hr
            have hee : (er == er) = true := by simp
            have haa : (a == a) = true := by simp
            have d1 := H1.out.cell (i := 1) rfl
            have d2 := H1.out.cell (i := 2) rfl
            clear hr
            go_wp2_with fail
            refine (qClear H1.out HR.out).mono ?_
            rintro e w5 ⟨rfl, h5⟩
            have H5 := Lib.hid h5
            clear h5 H1 d1 d2
            have d1 := H5.out.cell (i := 1) rfl
            have d2 := H5.out.cell (i := 2) rfl
            go_wp2_with fail
            refine (qrClear H5.out HR.out).mono ?_
            rintro e w6 ⟨rfl, h6⟩
            have H6 := Lib.hid h6.z
            clear h6 H5 d1 d2
            go_wp2
            go_roundw
            case rel => exact ⟨k + 1, by omega, by omega, by go_num, Lib.hid ⟨_, H6.out⟩⟩
            case measure => simp [intOf]; omega
          · obtain ⟨n, er, f', hr⟩ := MoveIs.ex S O f g t
            have HR := Lib.hid hr
            have hee : (er == er) = true := by simp
            have hnn : (n == n) = true := by simp
            have d3 := H1.out.cell (i := 3) rfl
            have d4 := H1.out.cell (i := 4) rfl
            clear hr
            go_wp2_with fail
            refine (qMove H1.out HR.out).mono ?_
            rintro e w5 ⟨rfl, h5⟩
            have H5 := Lib.hid h5
            clear h5 H1 d3 d4
            have d3 := H5.out.cell (i := 3) rfl
            have d4 := H5.out.cell (i := 4) rfl
            go_wp2_with fail
            refine (qrMove H5.out HR.out).mono ?_
            rintro e w6 ⟨rfl, h6⟩
            have H6 := Lib.hid h6.z
            clear h6 H5 d3 d4
            go_wp2
            go_roundw
            case rel => exact ⟨k + 1, by omega, by omega, by go_num, Lib.hid ⟨_, H6.out⟩⟩
            case measure => simp [intOf]; omega
        · obtain rfl : k = 100 := by omega
          rw [show ((100 : Nat) : Int) = 100 from rfl]
          clear hat
          go_wp2_with fail
          refine (cSame HT.out).mono ?_
          rintro e w3 ⟨rfl, h3⟩
          have H3 := Lib.hid h3
          clear h3 HT
          go_wp2_with fail
          refine (works _).mono ?_
          rintro e w4 ⟨rfl, hb⟩
          have HB4 := Lib.hid (below_then H3.out.o.low hb)
          clear hb
          go_wp2
          go_ret
          exact ⟨rfl, HB4.out⟩
      · have hk1 : l.length = k := by omega
        clear hat
        rw [hk1]
        clear hk1 hlt hk
        go_wp2_with fail
        refine (cSame HT.out).mono ?_
        rintro e w3 ⟨rfl, h3⟩
        have H3 := Lib.hid h3
        clear h3 HT
        go_wp2_with fail
        refine (works _).mono ?_
        rintro e w4 ⟨rfl, hb⟩
        have HB4 := Lib.hid (below_then H3.out.o.low hb)
        clear hb
        go_wp2
        go_ret
        exact ⟨rfl, HB4.out⟩
  · have HX := Lib.hid hx
    clear hx
    go_enter Try.func3, Try.ntmps3
    go_wp2_with fail
    refine (cNewNo x x' HX.out _).mono ?_
    rintro e w1 ⟨rfl, rfl⟩
    go_wp2_with fail
    refine (rNewNo x x' HX.out _).mono ?_
    rintro e w2 ⟨rfl, rfl⟩
    by_cases hl : l.length = 0
    · have hl0 : ((0 : Int) < (l.length : Int)) = False := by simp [hl]
      obtain ⟨L, hL⟩ : ∃ L, l.length = L := ⟨_, rfl⟩
      rw [hL] at hl hl0 hcap ⊢
      subst hl
      clear hat hL
      go_wp2
      go_loopw [11] (fun i wr => i = .int .i64 0 ∧ wr = w2) (fun i _ => 0)
      case atStart => exact ⟨rfl, rfl⟩
      case round =>
        obtain ⟨rfl, rfl⟩ := hrel
        go_wp2_with fail
        refine (works _).mono ?_
        rintro e w4 ⟨rfl, hb⟩
        have HB4 := Lib.hid hb
        clear hb
        go_wp2
        go_ret
        exact ⟨rfl, HB4.out⟩
    · have hl0 : (0 : Int) < (l.length : Int) := by omega
      clear hat
      go_wp2
      go_loopw [11] (fun i wr => i = .int .i64 0 ∧ wr = w2) (fun i _ => 0)
      case atStart => exact ⟨rfl, rfl⟩
      case round =>
        obtain ⟨rfl, rfl⟩ := hrel
        go_wp2_with fail
        refine (works _).mono ?_
        rintro e w4 ⟨rfl, hb⟩
        have HB4 := Lib.hid hb
        clear hb
        go_wp2
        go_ret
        exact ⟨rfl, HB4.out⟩
end Go.Proofs.Ytoffakamlpfgoaa
