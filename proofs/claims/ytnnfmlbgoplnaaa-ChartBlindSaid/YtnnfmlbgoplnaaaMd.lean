/-
  A chart that may be, made out of any.
-/
import Derived.Test.YtnnfmlbgoplnaaaOpen
import Derived.Test.YtnnfmlbgoplnaaaPpl
set_option linter.unusedVariables false
set_option linter.unusedSimpArgs false
namespace Go.Proofs.Ytnnfmlbgoplnaaa
open Go Go.RowKit

def mdC (c : Ch) : Ch := ⟨1 + (bring c.cpus 8 : Int), 1 + (bring c.slabs 32 : Int), 1 + (bring c.objs 16 : Int), bring c.min 33, bring c.cap 33, c.key⟩
theorem md_ok (c : Ch) : (mdC c).ok := by
  have h1 := bring_lt c.cpus 8 (by decide)
  have h2 := bring_lt c.slabs 32 (by decide)
  have h3 := bring_lt c.objs 16 (by decide)
  have h4 := bring_lt c.min 33 (by decide)
  have h5 := bring_lt c.cap 33 (by decide)
  unfold Ch.ok mdC
  dsimp only
  omega
theorem md_wf (c : Ch) (h : c.wf) : (mdC c).wf := by
  obtain ⟨a, b, d, e, f⟩ := md_ok c
  exact ⟨by unfold okI; omega, by unfold okI; omega, by unfold okI; omega, by unfold okI; omega, by unfold okI; omega, h.key⟩
theorem rtCh : RT 24 6 := ⟨infoCh, underCh⟩
abbrev zChart : Ch := ⟨0, 0, 0, 0, 0, 0⟩
section
variable {W w w' : World} {c d : Ch} {g : Nat}
/-- the chart and the result, in a world above another one -/
structure Mw (W : World) (c : Ch) (w : World) : Prop where
  at1 : ChAt w W.heap.size c
  at2 : ChAt w (W.heap.size + 1) zChart
  low : Below W.heap.size W w
theorem mw_new (W : World) (c : Ch) : Mw W c ((W.alloc (chO c)).alloc (chO zChart)) := ⟨heap_low2 _ _ _, heap_new2 _ _ _, below_one (below_one (Below.refl _ _) _) _⟩
theorem res_made {tmps : Array Value} {K : Nat} {w : World} {c : Ch} (h2 : tmps.getD 2 undef = .pointer (some ⟨K, 0, none⟩)) (hb : ChAt w K c) :
    (results Try.f37 tmps).run Try.prog w = .ok c.agg w := by
  obtain ⟨c0, c1, c2, c3, c4, c5⟩ := hb.cells
  rw [Array.getD_eq_getD_getElem?] at h2
  simp [results, Try.f37, h2, c0, c1, c2, c3, c4, c5, go_sem]
end
set_option maxHeartbeats 4000000 in
set_option maxRecDepth 100000 in
theorem cMade (c : Ch) (w : World) :
    Calls Try.prog 37 #[c.agg] w fun e w' => e = .returned (mdC c).agg ∧ Below w.heap.size w w' := by
  have HM0 := Lib.hid (mw_new w c)
  obtain ⟨c0, c1, c2, c3, c4, c5⟩ := HM0.out.at1.cells
  have HB0 := Lib.hid (fun w => cBringN c.cpus 8 8 (by rfl) (by decide) w)
  have hb0 := bring_lt c.cpus 8 (by decide)
  have HB1 := Lib.hid (fun w => cBringN c.slabs 32 32 (by rfl) (by decide) w)
  have hb1 := bring_lt c.slabs 32 (by decide)
  have HB2 := Lib.hid (fun w => cBringN c.objs 16 16 (by rfl) (by decide) w)
  have hb2 := bring_lt c.objs 16 (by decide)
  have HB3 := Lib.hid (fun w => cBringN c.min 33 33 (by rfl) (by decide) w)
  have hb3 := bring_lt c.min 33 (by decide)
  have HB4 := Lib.hid (fun w => cBringN c.cap 33 33 (by rfl) (by decide) w)
  have hb4 := bring_lt c.cap 33 (by decide)
  unfold mdC
  generalize bring c.cpus 8 = β0 at *
  have hw0 : IntKind.i64.wrap (1 + (β0 : Int)) = 1 + (β0 : Int) := IntWalk.i64_in _ (by omega)
  generalize bring c.slabs 32 = β1 at *
  have hw1 : IntKind.i64.wrap (1 + (β1 : Int)) = 1 + (β1 : Int) := IntWalk.i64_in _ (by omega)
  generalize bring c.objs 16 = β2 at *
  have hw2 : IntKind.i64.wrap (1 + (β2 : Int)) = 1 + (β2 : Int) := IntWalk.i64_in _ (by omega)
  generalize bring c.min 33 = β3 at *
  generalize bring c.cap 33 = β4 at *
  obtain ⟨x0, x1, x2, x3, x4, x5⟩ := c
  dsimp only at *
  go_enter Try.func37, Try.ntmps37
  go_wp2_with fail
  refine (HB0.out _).mono ?_
  rintro e v0 ⟨rfl, rfl⟩
  go_wp2_with fail
  refine (HB1.out _).mono ?_
  rintro e v1 ⟨rfl, rfl⟩
  go_wp2_with fail
  refine (HB2.out _).mono ?_
  rintro e v2 ⟨rfl, rfl⟩
  go_wp2_with fail
  refine (HB3.out _).mono ?_
  rintro e v3 ⟨rfl, rfl⟩
  go_wp2_with fail
  refine (HB4.out _).mono ?_
  rintro e v4 ⟨rfl, rfl⟩
  clear c0 c1 c2 c3 c4 c5 HM0
  go_wp2_with (first
    | (refine wpList_loadR rtCh (by rfl) _ (by rfl) w.heap.size (Ch.arr ⟨(1 + (β0 : Int)), (1 + (β1 : Int)), (1 + (β2 : Int)), (β3 : Int), (β4 : Int), x5⟩) (by rfl) (by rfl) (heap_low2 w (chO ⟨(1 + (β0 : Int)), (1 + (β1 : Int)), (1 + (β2 : Int)), (β3 : Int), (β4 : Int), x5⟩) (chO zChart)) ?_)
    | (refine wpList_storeR rtCh (by rfl) _ _ (by rfl) (w.heap.size + 1) (Ch.arr ⟨(1 + (β0 : Int)), (1 + (β1 : Int)), (1 + (β2 : Int)), (β3 : Int), (β4 : Int), x5⟩) (by rfl) (by rfl) (by rfl) (by simp [Value.oneCell']) _ (mw_new w ⟨(1 + (β0 : Int)), (1 + (β1 : Int)), (1 + (β2 : Int)), (β3 : Int), (β4 : Int), x5⟩).at2 rfl ?_; intro w6 h6 hk6; have HR := Lib.hid h6; have HL := Lib.hid (below_kept (mw_new w ⟨(1 + (β0 : Int)), (1 + (β1 : Int)), (1 + (β2 : Int)), (β3 : Int), (β4 : Int), x5⟩).low hk6 (by rintro k rfl; omega)); clear h6 hk6; refine Stop.mk ?_))
  unfold Stop
  go_wp2
  try rw [Exit.noGoto_ret]
  exact bodyPost_ret (res_made (c := ⟨(1 + (β0 : Int)), (1 + (β1 : Int)), (1 + (β2 : Int)), (β3 : Int), (β4 : Int), x5⟩) rfl HR.out) rfl ⟨rfl, HL.out⟩
end Go.Proofs.Ytnnfmlbgoplnaaa
