/-
  The program's stocks and the document's in one world; a call of both.
-/
import Derived.Test.YthjonjkeaiobdaaOne
import Derived.Test.YthjonjkeaiobdaaRef
import Derived.Test.YthjonjkeaiobdaaDo
set_option linter.unusedVariables false
set_option linter.unusedSimpArgs false
namespace Go.Proofs.Ythjonjkeaiobdaa
open Go Go.RowKit

def tysR : List TypeId := [57]
/-- both in one world -/
structure Z2 (W w : World) (B r R q c : Nat) (t s : Sk) : Prop where
  o : S1 W w B r c t
  v : SV w 52 57 R q c s
  si : SI c s
  ge : W.heap.size ≤ R ∧ W.heap.size ≤ q
section
variable {W w w' : World} {B r R q c D : Nat} {t s t' s' : Sk} {x g n a b e kd : Int} {z : Bool} {dv : Array Value}
theorem Z2.below (h : Z2 W w B r R q c t s) (hb : Below w.heap.size w w') : Z2 W w' B r R q c t s := ⟨h.o.below hb, h.v.below hb, h.si, h.ge⟩
theorem Z2.drew (h : Z2 W w B r R q c t s) : Z2 W w.drew B r R q c t s := h.below (Below.refl _ w).drew
theorem Z2.left (h : Z2 W w B r R q c t s) (ho : S1 W w' B r c t') (hk : KT tysA w w') : Z2 W w' B r R q c t' s := by
  obtain ⟨S, hk, hS⟩ := hk
  exact ⟨ho, h.v.kept hk hS (by decide), h.si, h.ge⟩
theorem Z2.right (h : Z2 W w B r R q c t s) (hv : SV w' 52 57 R q c s') (hk : Kept (· = q) w w') (hc : SI c s') : Z2 W w' B r R q c t s' ∧ KT tysR w w' :=
  ⟨⟨h.o.kt ⟨_, hk, h.v.typ⟩ (below_kept h.o.low hk (by rintro k rfl; exact h.ge.2)) (by decide), hv, hc, h.ge⟩, _, hk, h.v.typ⟩
/-- with a call's box -/
structure QS (W w : World) (B r R q c : Nat) (t s : Sk) (D : Nat) (dv : Array Value) : Prop where
  z : Z2 W w B r R q c t s
  d : w.heap[D]? = some (.cells dv 32 (0, 0))
theorem QS.below (h : QS W w B r R q c t s D dv) (hb : Below w.heap.size w w') : QS W w' B r R q c t s D dv := ⟨h.z.below hb, keep_block h.d hb⟩
theorem QS.drew (h : QS W w B r R q c t s D dv) : QS W w.drew B r R q c t s D dv := h.below (Below.refl _ w).drew
theorem QS.left (h : QS W w B r R q c t s D dv) (ho : S1 W w' B r c t') (hk : KT tysA w w') : QS W w' B r R q c t' s D dv :=
  ⟨h.z.left ho hk, by
    obtain ⟨S, hk, hS⟩ := hk
    exact box_kept h.d hk hS (by decide)⟩
theorem QS.right (h : QS W w B r R q c t s D dv) (hv : SV w' 52 57 R q c s') (hk : Kept (· = q) w w') (hc : SI c s') : QS W w' B r R q c t s' D dv := by
  obtain ⟨h1, S, hk2, hS⟩ := h.z.right hv hk hc
  exact ⟨h1, box_kept h.d hk2 hS (by decide)⟩
theorem QS.cell (h : QS W w B r R q c t s D dv) {i : Nat} {y : Value} (hi : dv[i]? = some y) : w.cell? ⟨D, i, none⟩ = some y := self_cell h.d i _ hi
theorem qTake (h : QS W w B r R q c t s D dv) (hr : TakeIs c t x g n z t') :
    Calls Try.prog 16 #[.pointer (some ⟨B, 0, none⟩), .int .i64 x, .int .i64 g, .int .i64 n] w fun e' w' => e' = .returned (.bool z) ∧ QS W w' B r R q c t' s D dv := by
  refine (oTake h.z.o hr).mono ?_
  rintro e' w' ⟨rfl, h1, h2⟩
  exact ⟨rfl, h.left h1 h2⟩
theorem qrTake (h : QS W w B r R q c t s D dv) (hr : TakeIs c s x g n z s') :
    Calls Try.prog 19 #[.pointer (some ⟨R, 0, none⟩), .int .i64 x, .int .i64 g, .int .i64 n] w fun e' w' => e' = .returned (.bool z) ∧ QS W w' B r R q c t s' D dv := by
  refine (rTake h.z.v h.z.si hr).mono ?_
  rintro e' w' ⟨rfl, h1, h2⟩
  exact ⟨rfl, h.right h1 h2 (hr.si h.z.si)⟩
theorem qPut (h : QS W w B r R q c t s D dv) (hr : PutIs c t x g n a b e t') :
    Calls Try.prog 17 #[.pointer (some ⟨B, 0, none⟩), .int .i64 x, .int .i64 g, .int .i64 n] w fun e' w' => e' = .returned (.tuple #[.int .i64 a, .int .i64 b, .int .i64 e]) ∧ QS W w' B r R q c t' s D dv := by
  refine (oPut h.z.o hr).mono ?_
  rintro e' w' ⟨rfl, h1, h2⟩
  exact ⟨rfl, h.left h1 h2⟩
theorem qrPut (h : QS W w B r R q c t s D dv) (hr : PutIs c s x g n a b e s') :
    Calls Try.prog 20 #[.pointer (some ⟨R, 0, none⟩), .int .i64 x, .int .i64 g, .int .i64 n] w fun e' w' => e' = .returned (.tuple #[.int .i64 a, .int .i64 b, .int .i64 e]) ∧ QS W w' B r R q c t s' D dv := by
  refine (rPut h.z.v h.z.si hr).mono ?_
  rintro e' w' ⟨rfl, h1, h2⟩
  exact ⟨rfl, h.right h1 h2 (hr.si h.z.si)⟩
theorem qDrain (h : QS W w B r R q c t s D dv) (hr : DrainIs c t x a b t') :
    Calls Try.prog 18 #[.pointer (some ⟨B, 0, none⟩), .int .i64 x] w fun e' w' => e' = .returned (.tuple #[.int .i64 a, .int .i64 b]) ∧ QS W w' B r R q c t' s D dv := by
  refine (oDrain h.z.o hr).mono ?_
  rintro e' w' ⟨rfl, h1, h2⟩
  exact ⟨rfl, h.left h1 h2⟩
theorem qrDrain (h : QS W w B r R q c t s D dv) (hr : DrainIs c s x a b s') :
    Calls Try.prog 21 #[.pointer (some ⟨R, 0, none⟩), .int .i64 x] w fun e' w' => e' = .returned (.tuple #[.int .i64 a, .int .i64 b]) ∧ QS W w' B r R q c t s' D dv := by
  refine (rDrain h.z.v hr).mono ?_
  rintro e' w' ⟨rfl, h1, h2⟩
  exact ⟨rfl, h.right h1 h2 (hr.si h.z.si)⟩
end
set_option maxHeartbeats 3000000 in
set_option maxRecDepth 100000 in
theorem cStep {W w : World} {B r R q c : Nat} {t : Sk} {kd x g n : Int} (h : Z2 W w B r R q c t t) :
    Calls Try.prog 9 #[.pointer (some ⟨B, 0, none⟩), .pointer (some ⟨R, 0, none⟩), .agg #[.int .i64 kd, .int .i64 x, .int .i64 g, .int .i64 n]] w fun e w' => e = .returned (.bool true) ∧ ∃ t', Z2 W w' B r R q c t' t' := by
  obtain ⟨y, hy⟩ : ∃ y, bring kd 3 = y := ⟨_, rfl⟩
  have HK := Lib.hid hy
  have hy3 : y < 3 := by rw [← hy]; exact bring_lt kd 3 (by decide)
  have H1 : Hid (QS W (w.alloc (.cells #[.int .i64 kd, .int .i64 x, .int .i64 g, .int .i64 n] 32)) B r R q c t t w.heap.size #[.int .i64 kd, .int .i64 x, .int .i64 g, .int .i64 n]) := Lib.hid ⟨h.below (below_one (Below.refl _ _) _), heap_new _ _⟩
  clear h hy
  go_enter Try.func9, Try.ntmps9
  go_wp2_with fail
  obtain ⟨D, hD⟩ : ∃ D, w.heap.size = D := ⟨_, rfl⟩
  obtain ⟨w1, hw1⟩ : ∃ w1, w.alloc (.cells #[.int .i64 kd, .int .i64 x, .int .i64 g, .int .i64 n] 32) = w1 := ⟨_, rfl⟩
  rw [hw1, hD] at H1
  simp only [hw1, hD]
  clear hw1 hD
  have d0 := H1.out.cell (i := 0) rfl
  have d1 := H1.out.cell (i := 1) rfl
  have d2 := H1.out.cell (i := 2) rfl
  have d3 := H1.out.cell (i := 3) rfl
  refine (cBringN kd 3 3 rfl (by decide) _).mono ?_
  rintro e w2 ⟨rfl, rfl⟩
  rw [HK.out]
  clear HK
  have hd := H1.out.drew
  rcases (by omega : y = 0 ∨ y = 1 ∨ y = 2) with rfl | rfl | rfl
  · obtain ⟨z, t', hr⟩ := TakeIs.ex c t x g n
    have HR := Lib.hid hr
    have hee : (z == z) = true := by simp
    clear hr d0 d1 d2 d3
    go_wp2
    go_region_held3 (fun w' => w'.cell? ⟨D, 1, none⟩ = some (.int .i64 x) ∧ w'.cell? ⟨D, 2, none⟩ = some (.int .i64 g) ∧ w'.cell? ⟨D, 3, none⟩ = some (.int .i64 n))
      (first | exact ⟨QS.cell (show QS W _ B r R q c _ _ D _ from by assumption) rfl, QS.cell (show QS W _ B r R q c _ _ D _ from by assumption) rfl, QS.cell (show QS W _ B r R q c _ _ D _ from by assumption) rfl⟩)
      (first
        | (go_at_call 16; refine (qTake (by assumption) HR.out).mono ?_; rintro e wN ⟨rfl, bN⟩)
        | (go_at_call 19; refine (qrTake (by assumption) HR.out).mono ?_; rintro e wM ⟨rfl, hM⟩))
    all_goals
      have HM := Lib.hid hM.z
      clear hM hd
      go_wp2
      go_ret
      exact ⟨rfl, _, HM.out⟩
  · clear hd
    obtain ⟨a, b, er, t', hr⟩ := PutIs.ex H1.out.z.si x g n
    have HR := Lib.hid hr
    have h1 : (a == a) = true := by simp
    have h2 : (b == b) = true := by simp
    have h3 : (er == er) = true := by simp
    clear hr
    go_wp2_with fail
    refine (qPut H1.out HR.out).mono ?_
    rintro e w3 ⟨rfl, b3⟩
    have H3 := Lib.hid b3
    clear b3 H1 d0 d1 d2 d3
    have d1 := H3.out.cell (i := 1) rfl
    have d2 := H3.out.cell (i := 2) rfl
    have d3 := H3.out.cell (i := 3) rfl
    go_wp2_with fail
    refine (qrPut H3.out HR.out).mono ?_
    rintro e w4 ⟨rfl, b4⟩
    have H4 := Lib.hid b4.z
    clear b4 H3 d1 d2 d3
    go_wp2
    go_ret
    exact ⟨rfl, _, H4.out⟩
  · clear hd
    obtain ⟨a, b, t', hr⟩ := DrainIs.ex c t x
    have HR := Lib.hid hr
    have h1 : (a == a) = true := by simp
    have h2 : (b == b) = true := by simp
    clear hr
    go_wp2_with fail
    refine (qDrain H1.out HR.out).mono ?_
    rintro e w3 ⟨rfl, b3⟩
    have H3 := Lib.hid b3
    clear b3 H1 d0 d1 d2 d3
    have d1 := H3.out.cell (i := 1) rfl
    go_wp2_with fail
    refine (qrDrain H3.out HR.out).mono ?_
    rintro e w4 ⟨rfl, b4⟩
    have H4 := Lib.hid b4.z
    clear b4 H3 d1
    go_wp2
    go_ret
    exact ⟨rfl, _, H4.out⟩
end Go.Proofs.Ythjonjkeaiobdaa
