/-
  Stocks that are the call's own; the laws' helper works.
-/
import Derived.Test.YthjonjkeaiobdaaPut
set_option linter.unusedVariables false
set_option linter.unusedSimpArgs false
namespace Go.Proofs.Ythjonjkeaiobdaa
open Go Go.RowKit

/-- the types of what a call on stocks changes -/
def tysA : List TypeId := [55]
structure S1 (W w : World) (B r c : Nat) (t : Sk) : Prop where
  sv : SV w 48 55 B r c t
  si : SI c t
  low : Below W.heap.size W w
  ge : W.heap.size ≤ B ∧ W.heap.size ≤ r
section
variable {W w w' : World} {B r c : Nat} {t t' : Sk} {x g n a b e : Int} {q : Bool}
theorem S1.kt (h : S1 W w B r c t) {Ts : List TypeId} (hk : KT Ts w w') (hb : Below W.heap.size W w') (hT : 48 ∉ Ts ∧ 55 ∉ Ts) : S1 W w' B r c t := by
  obtain ⟨S, hk, hS⟩ := hk
  exact ⟨h.sv.kept hk hS hT, h.si, hb, h.ge⟩
theorem S1.below (h : S1 W w B r c t) (hb : Below w.heap.size w w') : S1 W w' B r c t := ⟨h.sv.below hb, h.si, below_then h.low hb, h.ge⟩
theorem S1.alloc (h : S1 W w B r c t) (o : Obj) : S1 W (w.alloc o) B r c t := h.below (below_one (Below.refl _ _) _)
theorem S1.drew (h : S1 W w B r c t) : S1 W w.drew B r c t := h.below (Below.refl _ w).drew
theorem S1.drewN (h : S1 W w B r c t) (m : Nat) : S1 W (w.drewN m) B r c t := h.below (below_drewN (Below.refl _ w) m)
theorem S1.next (h : S1 W w B r c t) (hv : SV w' 48 55 B r c t') (hk : Kept (· = r) w w') (hc : SI c t') : S1 W w' B r c t' ∧ KT tysA w w' :=
  ⟨⟨hv, hc, below_kept h.low hk (by rintro k rfl; exact h.ge.2), h.ge⟩, _, hk, h.sv.typ⟩
theorem S1.lower {V : World} (h : S1 V w B r c t) (hb : Below W.heap.size W V) : S1 W w B r c t :=
  ⟨h.sv, h.si, below_then hb h.low, Nat.le_trans hb.size h.ge.1, Nat.le_trans hb.size h.ge.2⟩
theorem oNew (c : Nat) (h1 : 1 ≤ c) (h2 : c ≤ 8) (W : World) : Calls Try.prog 7 #[.int .i64 c] W fun e w' => ∃ B r, e = .returned (.tuple #[.pointer (some ⟨B, 0, none⟩), .int .i64 0]) ∧ S1 W w' B r c noS := by
  refine (cNew c h1 h2 W).mono ?_
  rintro e w' ⟨B, r, rfl, h3, h4, h5, h6⟩
  exact ⟨B, r, rfl, h3, SI.new c, h4, h5, h6⟩
theorem oTake (h : S1 W w B r c t) (hr : TakeIs c t x g n q t') :
    Calls Try.prog 16 #[.pointer (some ⟨B, 0, none⟩), .int .i64 x, .int .i64 g, .int .i64 n] w fun e' w' => e' = .returned (.bool q) ∧ S1 W w' B r c t' ∧ KT tysA w w' := by
  refine (cTake h.sv h.si hr).mono ?_
  rintro e' w' ⟨rfl, h1, h2⟩
  exact ⟨rfl, h.next h1 h2 (hr.si h.si)⟩
theorem oPut (h : S1 W w B r c t) (hr : PutIs c t x g n a b e t') :
    Calls Try.prog 17 #[.pointer (some ⟨B, 0, none⟩), .int .i64 x, .int .i64 g, .int .i64 n] w fun e' w' => e' = .returned (.tuple #[.int .i64 a, .int .i64 b, .int .i64 e]) ∧ S1 W w' B r c t' ∧ KT tysA w w' := by
  refine (cPut h.sv h.si hr).mono ?_
  rintro e' w' ⟨rfl, h1, h2⟩
  exact ⟨rfl, h.next h1 h2 (hr.si h.si)⟩
theorem oDrain (h : S1 W w B r c t) (hr : DrainIs c t x a b t') :
    Calls Try.prog 18 #[.pointer (some ⟨B, 0, none⟩), .int .i64 x] w fun e' w' => e' = .returned (.tuple #[.int .i64 a, .int .i64 b]) ∧ S1 W w' B r c t' ∧ KT tysA w w' := by
  refine (cDrain h.sv hr).mono ?_
  rintro e' w' ⟨rfl, h1, h2⟩
  exact ⟨rfl, h.next h1 h2 (hr.si h.si)⟩
theorem oHas (h : S1 W w B r c t) (x a b : Int) (ha : hasG c t x = a) (hb : hasN c t x = b) :
    Calls Try.prog 10 #[.pointer (some ⟨B, 0, none⟩), .int .i64 x] w fun e' w' => e' = .returned (.tuple #[.int .i64 a, .int .i64 b]) ∧ S1 W w' B r c t ∧ Below w.heap.size w w' := by
  refine (cHas h.sv x a b ha hb).mono ?_
  rintro e' w' ⟨rfl, h1⟩
  exact ⟨rfl, h.below h1, h1⟩
theorem oHeld (h : S1 W w B r c t) (x y : Int) (hy : held t x c = y) :
    Calls Try.prog 12 #[.pointer (some ⟨B, 0, none⟩), .int .i64 x] w fun e' w' => e' = .returned (.int .i64 y) ∧ S1 W w' B r c t ∧ Below w.heap.size w w' := by
  refine (cHeld h.sv h.si x y hy).mono ?_
  rintro e' w' ⟨rfl, h1⟩
  exact ⟨rfl, h.below h1, h1⟩
end
def s1 : Sk := noS.put 0 2 100
def s2 : Sk := s1.put 0 2 60
def s4 : Sk := s2.put 0 3 5
def s5 : Sk := s4.put 0 3 512
def s6 : Sk := s5.put 0 0 0
def s7 : Sk := s6.put 0 0 0
theorem is1 : PutIs 1 noS 0 2 100 0 0 0 s1 := .fits 0 rfl (by decide) (by decide) (by decide) (.inl rfl) (by decide)
theorem is2 : TakeIs 1 s1 0 2 40 true s2 := .ok 0 rfl (by decide) (by decide) (by decide) (by decide)
theorem is3 : TakeIs 1 s2 0 3 1 false s2 := .other 0 rfl (by decide) (by decide) (by decide)
theorem is4 : PutIs 1 s2 0 3 5 2 60 0 s4 := .swap 0 rfl (by decide) (by decide) (by decide) (by decide) (by decide) (by decide)
theorem is5 : PutIs 1 s4 0 3 1020 3 513 0 s5 := .over 0 rfl (by decide) (by decide) (by decide) (.inr (by decide)) (by decide)
theorem is6 : DrainIs 1 s5 0 3 512 s6 := .ok 0 rfl (by decide)
theorem is7 : DrainIs 1 s6 0 0 0 s7 := .ok 0 rfl (by decide)
theorem is8 : PutIs 1 s7 0 17 1 0 0 110 s7 := .bad (by decide)
set_option maxHeartbeats 8000000 in
set_option maxRecDepth 100000 in
theorem works (W : World) : Calls Try.prog 14 #[] W fun e w' => e = .returned (.bool true) ∧ Below W.heap.size W w' := by
  go_enter Try.func14, Try.ntmps14
  go_wp2_with fail
  refine (oNew 1 (by decide) (by decide) W).mono ?_
  rintro e w1 ⟨B, r, rfl, h1⟩
  have H1 := Lib.hid h1
  clear h1
  go_wp2_with fail
  refine (oPut H1.out is1).mono ?_
  rintro e w2 ⟨rfl, h2, _⟩
  have H2 := Lib.hid h2
  clear h2
  go_wp2_with fail
  refine (oTake H2.out is2).mono ?_
  rintro e w3 ⟨rfl, h3, _⟩
  have H3 := Lib.hid h3
  clear h3
  go_wp2_with fail
  refine (oTake H3.out is3).mono ?_
  rintro e w4 ⟨rfl, h4, _⟩
  have H4 := Lib.hid h4
  clear h4
  go_wp2_with fail
  refine (oHas H4.out 0 2 60 (by decide) (by decide)).mono ?_
  rintro e w5 ⟨rfl, h5, _⟩
  have H5 := Lib.hid h5
  clear h5
  go_wp2_with fail
  refine (oPut H5.out is4).mono ?_
  rintro e w6 ⟨rfl, h6, _⟩
  have H6 := Lib.hid h6
  clear h6
  go_wp2_with fail
  refine (oPut H6.out is5).mono ?_
  rintro e w7 ⟨rfl, h7, _⟩
  have H7 := Lib.hid h7
  clear h7
  go_wp2_with fail
  refine (oHas H7.out 0 3 512 (by decide) (by decide)).mono ?_
  rintro e w8 ⟨rfl, h8, _⟩
  have H8 := Lib.hid h8
  clear h8
  go_wp2_with fail
  refine (oHeld H8.out 2 0 (by decide)).mono ?_
  rintro e w9 ⟨rfl, h9, _⟩
  have H9 := Lib.hid h9
  clear h9
  go_wp2_with fail
  refine (oDrain H9.out is6).mono ?_
  rintro e w10 ⟨rfl, h10, _⟩
  have H10 := Lib.hid h10
  clear h10
  go_wp2_with fail
  refine (oDrain H10.out is7).mono ?_
  rintro e w11 ⟨rfl, h11, _⟩
  have H11 := Lib.hid h11
  clear h11
  go_wp2_with fail
  refine (oPut H11.out is8).mono ?_
  rintro e w12 ⟨rfl, h12, _⟩
  have H12 := Lib.hid h12
  clear h12
  go_wp2
  go_ret
  exact ⟨rfl, H12.out.low⟩
end Go.Proofs.Ythjonjkeaiobdaa
