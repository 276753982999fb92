/-
  Owners that are the call's own; the laws' helper works.
-/
import Derived.Test.YtoffakamlpfgoaaMov
set_option linter.unusedVariables false
set_option linter.unusedSimpArgs false
namespace Go.Proofs.Ytoffakamlpfgoaa
open Go Go.RowKit

/-- only maps change -/
def KM (w w' : World) : Prop := ∃ Sx : Nat → Prop, Kept Sx w w' ∧ ∀ k, Sx k → ∃ es c, w.heap[k]? = some (.map es c)
theorem KM.box {w w' : World} (h : KM w w') {k : Nat} {c : Array Value} {T : TypeId} {fr : Nat × Nat} (hb : w.heap[k]? = some (.cells c T fr)) : w'.heap[k]? = some (.cells c T fr) := by
  obtain ⟨Sx, hk, hS⟩ := h
  refine (hk.block k (lt_of_block hb) fun e => ?_).trans hb
  obtain ⟨es, c', h1⟩ := hS k e
  rw [hb] at h1
  cases h1
theorem KM.ofBelow {w w' : World} (h : Below w.heap.size w w') : KM w w' := ⟨fun _ => False, Kept.ofBelow h, fun _ e => e.elim⟩
theorem KM.ofMap {w w' : World} {b : Nat} {f : Ow} (h : MapAt w b f) (hk : Kept (· = b) w w') : KM w w' :=
  ⟨_, hk, by rintro k rfl; obtain ⟨es, c, h1, _⟩ := h; exact ⟨_, _, h1⟩⟩
structure O1 (W w : World) (B b S O : Nat) (f : Ow) : Prop where
  v : OV w B b S O f
  low : Below W.heap.size W w
  ge : W.heap.size ≤ B ∧ W.heap.size ≤ b
section
variable {W w w' : World} {B b S O : Nat} {f f' : Ow} {s i g n a c e : Int} {q : Bool}
theorem O1.below (h : O1 W w B b S O f) (hb : Below w.heap.size w w') : O1 W w' B b S O f := ⟨h.v.below hb, below_then h.low hb, h.ge⟩
theorem O1.drew (h : O1 W w B b S O f) : O1 W w.drew B b S O f := h.below (Below.refl _ w).drew
theorem O1.drewN (h : O1 W w B b S O f) (m : Nat) : O1 W (w.drewN m) B b S O f := h.below (below_drewN (Below.refl _ w) m)
theorem O1.alloc (h : O1 W w B b S O f) (o : Obj) : O1 W (w.alloc o) B b S O f := h.below (below_one (Below.refl _ _) _)
theorem O1.next (h : O1 W w B b S O f) (hv : OV w' B b S O f') (hk : Kept (· = b) w w') : O1 W w' B b S O f' ∧ KM w w' :=
  ⟨⟨hv, below_kept h.low hk (by rintro k rfl; exact h.ge.2), h.ge⟩, KM.ofMap h.v.map hk⟩
/-- blocks of other types change, all of them new -/
theorem O1.kept {Sx : Nat → Prop} {Ts : List TypeId} (h : O1 W w B b S O f) (hk : Kept Sx w w') (hS : ∀ k, Sx k → Typ w Ts k) (hT : 47 ∉ Ts) (hn : ∀ k, Sx k → W.heap.size ≤ k) : O1 W w' B b S O f :=
  ⟨h.v.kept hk hS hT, below_kept h.low hk hn, h.ge⟩
theorem O1.lower {V : World} (h : O1 V w B b S O f) (hb : Below W.heap.size W V) : O1 W w B b S O f := ⟨h.v, below_then hb h.low, Nat.le_trans hb.size h.ge.1, Nat.le_trans hb.size h.ge.2⟩
theorem oNew (S O : Nat) (hs : 1 ≤ S ∧ S ≤ 256 ∧ 1 ≤ O ∧ O ≤ 16) (W : World) : Calls Try.prog 7 #[.int .i64 S, .int .i64 O] W fun e w' => ∃ B b, e = .returned (.tuple #[.pointer (some ⟨B, 0, none⟩), .int .i64 0]) ∧ O1 W w' B b S O noO := by
  refine (cNew S O hs W).mono ?_
  rintro e w' ⟨B, b, rfl, h1, h2, h3, h4⟩
  exact ⟨B, b, rfl, h1, h2, h3, h4⟩
theorem oSet (h : O1 W w B b S O f) (hr : SetIs S O f s i g e f') :
    Calls Try.prog 10 #[.pointer (some ⟨B, 0, none⟩), .int .i64 s, .int .i64 i, .int .i64 g] w fun e' w' => e' = .returned (.int .i64 e) ∧ O1 W w' B b S O f' ∧ KM w w' := by
  refine (cSet h.v hr).mono ?_
  rintro e' w' ⟨rfl, h1, h2⟩
  exact ⟨rfl, h.next h1 h2⟩
theorem oClear (h : O1 W w B b S O f) (hr : ClearIs S O f s i a e f') :
    Calls Try.prog 12 #[.pointer (some ⟨B, 0, none⟩), .int .i64 s, .int .i64 i] w fun e' w' => e' = .returned (.tuple #[.int .i64 a, .int .i64 e]) ∧ O1 W w' B b S O f' ∧ KM w w' := by
  refine (cClear h.v hr).mono ?_
  rintro e' w' ⟨rfl, h1, h2⟩
  exact ⟨rfl, h.next h1 h2⟩
theorem oMove (h : O1 W w B b S O f) (hr : MoveIs S O f a c n e f') :
    Calls Try.prog 14 #[.pointer (some ⟨B, 0, none⟩), .int .i64 a, .int .i64 c] w fun e' w' => e' = .returned (.tuple #[.int .i64 n, .int .i64 e]) ∧ O1 W w' B b S O f' ∧ KM w w' := by
  refine (cMove h.v hr).mono ?_
  rintro e' w' ⟨rfl, h1, h2⟩
  exact ⟨rfl, h.next h1 h2⟩
theorem oOf (h : O1 W w B b S O f) (hs : wf64 s) (hi : wf64 i) (hg : f s i = g) :
    Calls Try.prog 18 #[.pointer (some ⟨B, 0, none⟩), .int .i64 s, .int .i64 i] w fun e' w' => e' = .returned (.int .i64 g) ∧ w' = w := cOf h.v hs hi hg
theorem oCount (h : O1 W w B b S O f) (g : Int) (m : Nat) (hm : countF S O f g = m) :
    Calls Try.prog 20 #[.pointer (some ⟨B, 0, none⟩), .int .i64 g] w fun e' w' => e' = .returned (.int .i64 (m : Int)) ∧ O1 W w' B b S O f ∧ Below w.heap.size w w' := by
  subst hm
  refine (cCount h.v g).mono ?_
  rintro e' w' ⟨rfl, h1⟩
  exact ⟨rfl, h.below h1, h1⟩
theorem oEmpty (h : O1 W w B b S O f) (hs : wf64 s) (q : Bool) (hq : q = true ↔ Emp S O f s) :
    Calls Try.prog 19 #[.pointer (some ⟨B, 0, none⟩), .int .i64 s] w fun e' w' => e' = .returned (.bool q) ∧ O1 W w' B b S O f ∧ Below w.heap.size w w' := by
  refine (cEmpty h.v hs q hq).mono ?_
  rintro e' w' ⟨rfl, h1⟩
  exact ⟨rfl, h.below h1, h1⟩
end
def f1 : Ow := upd noO 1 3 5
def f2 : Ow := upd f1 0 0 5
def f3 : Ow := mov f2 5 2
def f4 : Ow := upd f3 1 3 0
theorem is1 : SetIs 2 4 noO 1 3 5 0 f1 := .ok (by decide) (by decide) rfl
theorem is2 : SetIs 2 4 f1 1 3 6 140 f1 := .own (by decide) (by decide) (by decide)
theorem is3 : SetIs 2 4 f1 2 0 1 9 f1 := .no (by decide)
theorem is4 : SetIs 2 4 f1 0 0 5 0 f2 := .ok (by decide) (by decide) (by decide)
theorem is5 : MoveIs 2 4 f2 5 2 2 0 f3 := by
  have h : ((cnt (ofG f2 5) 2 4 : Nat) : Int) = 2 := by decide
  rw [← h]
  exact .ok (by decide) (by decide) (by decide)
theorem is6 : ClearIs 2 4 f3 1 3 2 0 f4 := .ok (by decide) (by decide)
theorem is7 : ClearIs 2 4 f4 1 3 0 140 f4 := .none (by decide) (by decide)
theorem is8 : countF 2 4 f3 2 = 2 := by decide
theorem is9 : true = true ↔ Emp 2 4 f4 1 := ⟨fun _ => ⟨by decide, by decide, by decide⟩, fun _ => rfl⟩
set_option maxHeartbeats 8000000 in
set_option maxRecDepth 100000 in
theorem works (W : World) : Calls Try.prog 17 #[] W fun e w' => e = .returned (.bool true) ∧ Below W.heap.size W w' := by
  go_enter Try.func17, Try.ntmps17
  go_wp2_with fail
  refine (oNew 2 4 (by decide) W).mono ?_
  rintro e w1 ⟨B, b, rfl, h1⟩
  have H1 := Lib.hid h1
  clear h1
  go_wp2_with fail
  refine (oSet H1.out is1).mono ?_
  rintro e w2 ⟨rfl, h2, _⟩
  have H2 := Lib.hid h2
  clear h2 H1
  go_wp2_with fail
  refine (oSet H2.out is2).mono ?_
  rintro e w3 ⟨rfl, h3, _⟩
  have H3 := Lib.hid h3
  clear h3 H2
  go_wp2_with fail
  refine (oOf H3.out (wf_small (by decide)) (wf_small (by decide)) (show f1 1 3 = 5 by decide)).mono ?_
  rintro e w4 ⟨rfl, rfl⟩
  have H4 := Lib.hid H3.out
  go_wp2_with fail
  refine (oSet H4.out is3).mono ?_
  rintro e w5 ⟨rfl, h5, _⟩
  have H5 := Lib.hid h5
  clear h5 H4
  go_wp2_with fail
  refine (oSet H5.out is4).mono ?_
  rintro e w6 ⟨rfl, h6, _⟩
  have H6 := Lib.hid h6
  clear h6 H5
  go_wp2_with fail
  refine (oMove H6.out is5).mono ?_
  rintro e w7 ⟨rfl, h7, _⟩
  have H7 := Lib.hid h7
  clear h7 H6
  go_wp2_with fail
  refine (oCount H7.out 2 2 is8).mono ?_
  rintro e w8 ⟨rfl, h8, _⟩
  have H8 := Lib.hid h8
  clear h8 H7
  go_wp2_with fail
  refine (oClear H8.out is6).mono ?_
  rintro e w9 ⟨rfl, h9, _⟩
  have H9 := Lib.hid h9
  clear h9 H8
  go_wp2_with fail
  refine (oClear H9.out is7).mono ?_
  rintro e w10 ⟨rfl, h10, _⟩
  have H10 := Lib.hid h10
  clear h10 H9
  go_wp2_with fail
  refine (oEmpty H10.out (wf_small (by decide)) true is9).mono ?_
  rintro e w11 ⟨rfl, h11, _⟩
  have H11 := Lib.hid h11
  clear h11 H10
  go_wp2
  go_ret
  exact ⟨rfl, H11.out.low⟩
end Go.Proofs.Ytoffakamlpfgoaa
