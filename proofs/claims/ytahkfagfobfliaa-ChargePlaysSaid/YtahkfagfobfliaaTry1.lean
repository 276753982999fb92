/-
  Try of the program: what its deferred closures do; a path that is none.
-/
import Derived.Test.YtahkfagfobfliaaOps
import Derived.Test.YtahkfagfobfliaaPath
import Derived.Defers
set_option linter.unusedVariables false
set_option linter.unusedSimpArgs false
namespace Go.Proofs.Ytahkfagfobfliaa
open Go Go.RowKit

/-- the boxes of a call: the receiver's, the number's, the error's -/
structure Bx (w : World) (K0 K1 K2 B : Nat) (n e : Int) : Prop where
  c : w.heap[K0]? = some (.cells #[.pointer (some ⟨B, 0, none⟩)] 23 (0, 0))
  n : w.heap[K1]? = some (.cells #[.int .i64 n] 3 (0, 0))
  e : w.heap[K2]? = some (.cells #[.int .i64 e] 35 (0, 0))
section
variable {S : Nat → Prop} {w w' : World} {B g K0 K1 K2 G : Nat} {t t' : Ct} {p : Option Addr} {x n e : Int}
set_option maxHeartbeats 1000000 in
theorem dIdle (h : Bx w K0 K1 K2 B n 0) (u : FrameMode) :
    CallsD Try.prog 35 #[.pointer (some ⟨K2, 0, none⟩), .pointer (some ⟨K0, 0, none⟩), .pointer (some ⟨G, 0, none⟩), .pointer (some ⟨K1, 0, none⟩)] u w fun e u' w' => u' = u ∧ (e = .returned (.tuple #[]) ∧ w' = w) := by
  have c2 := self_cell h.e 0 _ rfl
  clear h
  go_enter_d Try.func35, Try.ntmps35
  go_wp2
  first | go_end0 | refine bodyPost_ret (results_none rfl _ _ _) rfl ?_
  exact ⟨rfl, rfl⟩
set_option maxHeartbeats 1000000 in
theorem dUndo (h : Bx w K0 K1 K2 B n e) (he : e ≠ 0) (hG : w.heap[G]? = some (.cells #[.int .i64 x] 3 (0, 0))) (hv : CV w B g t) (hc : CI t) (hr : DnIs t x n 0 t') (u : FrameMode) :
    CallsD Try.prog 35 #[.pointer (some ⟨K2, 0, none⟩), .pointer (some ⟨K0, 0, none⟩), .pointer (some ⟨G, 0, none⟩), .pointer (some ⟨K1, 0, none⟩)] u w fun e' u' w' => u' = u ∧ (e' = .returned (.tuple #[]) ∧ (CV w' B g t' ∧ Kept (· = g) w w')) := by
  have c0 := self_cell h.c 0 _ rfl
  have c1 := self_cell h.n 0 _ rfl
  have c2 := self_cell h.e 0 _ rfl
  have c3 := self_cell hG 0 _ rfl
  have hne := ask_ne he
  have HV := Lib.hid hv
  have HC := Lib.hid hc
  have HR := Lib.hid hr
  clear h hv hc hr hG he
  go_enter_d Try.func35, Try.ntmps35
  go_wp2_with fail
  refine (cDown HV.out HC.out HR.out).mono ?_
  rintro e' w1 ⟨rfl, h1, h2⟩
  have H1 := Lib.hid h1
  have H2 := Lib.hid h2
  clear h1 h2
  go_wp2
  first | go_end0 | refine bodyPost_ret (results_none rfl _ _ _) rfl ?_
  exact ⟨rfl, H1.out, H2.out⟩
end
theorem bx_new (w : World) (B : Nat) (n e : Int) : Bx (((w.alloc (.cells #[.pointer (some ⟨B, 0, none⟩)] 23)).alloc (.cells #[.int .i64 n] 3)).alloc (.cells #[.int .i64 e] 35)) w.heap.size (w.heap.size + 1) (w.heap.size + 1 + 1) B n e := by
  refine ⟨?_, ?_, ?_⟩
  · rw [Below.heap_alloc _ _ _ (by simp only [size_alloc]; omega)]
    exact heap_low2 _ _ _
  · have := heap_low2 (w.alloc (.cells #[.pointer (some ⟨B, 0, none⟩)] 23)) (.cells #[.int .i64 n] 3) (.cells #[.int .i64 e] 35)
    rwa [size_alloc] at this
  · have := heap_new ((w.alloc (.cells #[.pointer (some ⟨B, 0, none⟩)] 23)).alloc (.cells #[.int .i64 n] 3)) (.cells #[.int .i64 e] 35)
    rwa [size_alloc, size_alloc] at this
theorem cell_set {w : World} {K : Nat} {u : Value} {T : TypeId} (h : w.heap[K]? = some (.cells #[u] T (0, 0))) (v : Value) : (w.setCell ⟨K, 0, none⟩ v).drew.cell? ⟨K, 0, none⟩ = some v :=
  self_cell (w := w.setCell ⟨K, 0, none⟩ v) (cells_set h 0 v) 0 _ (by simp)
theorem res_try {tmps : Array Value} {a e : Int} {K : Nat} {w : World} (h6 : tmps.getD 6 undef = .int .i64 a) (h7 : tmps.getD 7 undef = .pointer (some ⟨K, 0, none⟩)) (hc : w.cell? ⟨K, 0, none⟩ = some (.int .i64 e)) :
    (results Try.f20 tmps).run Try.prog w = .ok (.tuple #[.int .i64 a, .int .i64 e]) w := by
  rw [Array.getD_eq_getD_getElem?] at h6 h7
  simp [results, Try.f20, h6, h7, hc, go_sem]
theorem below3 (w : World) (a b c : Obj) : Below w.heap.size w (((w.alloc a).alloc b).alloc c) := below_one (below_one (below_one (Below.refl _ w) _) _) _
set_option maxHeartbeats 1000000 in
theorem tTry {w : World} {B g : Nat} {t : Ct} {n q : Int} {l : List Int} {u : Value} (h : CV w B g t) (hq : askP l n = q) (h0 : q ≠ 0) (hu : ShowI w u l) :
    Calls Try.prog 20 #[.pointer (some ⟨B, 0, none⟩), u, .int .i64 n] w fun e' w' => e' = .returned (.tuple #[.int .i64 0, .int .i64 q]) ∧ CV w' B g t ∧ Below w.heap.size w w' := by
  have HA := Lib.hid h
  have HU := Lib.hid hu
  have HQ := Lib.hid hq
  have hne := ask_ne h0
  clear h hu hq h0
  go_enter_defers Try.func20, Try.ntmps20
  go_wp2_with fail
  have HB := Lib.hid (below3 w (.cells #[.pointer (some ⟨B, 0, none⟩)] 23) (.cells #[.int .i64 n] 3) (.cells #[.int .i64 0] 35))
  refine (cCheckPath (HA.out.below HB.out) _ l n q HQ.out (HU.out.below HB.out)).mono ?_
  rintro e w1 ⟨rfl, rfl⟩
  have HX := Lib.hid (bx_new w B n q)
  have HB2 := Lib.hid (below3 w (.cells #[.pointer (some ⟨B, 0, none⟩)] 23) (.cells #[.int .i64 n] 3) (.cells #[.int .i64 q] 35))
  go_wp2
  generalize (((w.alloc (.cells #[.pointer (some ⟨B, 0, none⟩)] 23)).alloc (.cells #[.int .i64 n] 3)).alloc (.cells #[.int .i64 q] 35)) = w3 at *
  have c2 := self_cell HX.out.e 0 _ rfl
  have f2 := self_free HX.out.e 0
  have hA3 : CV (w3.setCell ⟨w.heap.size + 1 + 1, 0, none⟩ (.int .i64 q)).drew B g t := HA.out.below (HB2.out.setCell (p := ⟨w.heap.size + 1 + 1, 0, none⟩) (by show w.heap.size ≤ w.heap.size + 1 + 1; omega) _).drew
  have hB3 : Below w.heap.size w (w3.setCell ⟨w.heap.size + 1 + 1, 0, none⟩ (.int .i64 q)).drew := (HB2.out.setCell (p := ⟨w.heap.size + 1 + 1, 0, none⟩) (by show w.heap.size ≤ w.heap.size + 1 + 1; omega) _).drew
  have HE := Lib.hid (cell_set HX.out.e (.int .i64 q))
  have HA3 := Lib.hid hA3
  have HB3 := Lib.hid hB3
  clear hA3 hB3
  go_region
  go_wp2
  exact ⟨_, res_try rfl rfl HE.out, rfl, HA3.out, HB3.out⟩
end Go.Proofs.Ytahkfagfobfliaa
