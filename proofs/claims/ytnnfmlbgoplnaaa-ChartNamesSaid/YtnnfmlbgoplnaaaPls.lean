/-
  The law ChartPlaces, walked, where the chapter's examples hold.
-/
import Derived.Test.YtnnfmlbgoplnaaaApt
set_option linter.unusedVariables false
set_option linter.unusedSimpArgs false
namespace Go.Proofs.Ytnnfmlbgoplnaaa
open Go Go.RowKit

section
variable {w w' W : World} {u v : Value} {l : List Int} {c : Ch}
/-- the chart, and two rows with one list -/
structure Pq (W : World) (c : Ch) (l : List Int) (u v : Value) (w : World) : Prop where
  one : One W W.heap.size c w
  l1 : ShowI w u l
  l2 : ShowI w v l
theorem Pq.next (h : Pq W c l u v w) (hb : Below w.heap.size w w') : Pq W c l u v w' := ⟨h.one.next hb, h.l1.below hb, h.l2.below hb⟩
theorem Pq.drew (h : Pq W c l u v w) : Pq W c l u v w.drew := ⟨h.one.drew, h.l1, h.l2⟩
theorem Pq.six (h : Pq W c l u v w) : w.cell? ⟨W.heap.size, 0, none⟩ = some (.int .i64 c.cpus) ∧ w.cell? ⟨W.heap.size, 1, none⟩ = some (.int .i64 c.slabs) ∧ w.cell? ⟨W.heap.size, 2, none⟩ = some (.int .i64 c.objs) ∧
    w.cell? ⟨W.heap.size, 3, none⟩ = some (.int .i64 c.min) ∧ w.cell? ⟨W.heap.size, 4, none⟩ = some (.int .i64 c.cap) ∧ w.cell? ⟨W.heap.size, 5, none⟩ = some (.int .u64 c.key) ∧ Pq W c l u v w := by
  obtain ⟨a, b, d, e, f, g, _⟩ := h.one.six
  exact ⟨a, b, d, e, f, g, h⟩
end
set_option maxHeartbeats 8000000 in
set_option maxRecDepth 100000 in
theorem walkPlaces (c : Ch) (hw : c.wf) (i k : Int) (W : World) (hW : ∀ w, Calls Try.prog 31 #[] w fun e w' => e = .returned (.bool true) ∧ Below w.heap.size w w') :
    Calls Try.prog 3 #[c.agg, .int .i64 i, .int .i64 k] W fun e W' => e = .returned (.bool true) ∧ Below W.heap.size W W' := by
  have HWK := Lib.hid hW
  have p0 := fun w => pCheck c hw w
  have d0 := fun w => dCheck c hw w
  generalize c.chk = x0 at p0 d0
  have P0 := Lib.hid p0
  have D0 := Lib.hid d0
  clear p0 d0
  have p1 := fun w => pWords c hw w
  have d1 := fun w => dWords c hw w
  generalize c.words = x1 at p1 d1
  have P1 := Lib.hid p1
  have D1 := Lib.hid d1
  clear p1 d1
  have p2 := fun w => pHead c hw i w
  have d2 := fun w => dHead c hw i w
  generalize c.head i = x2 at p2 d2
  have P2 := Lib.hid p2
  have D2 := Lib.hid d2
  clear p2 d2
  have p3 := fun w => pPart c hw i w
  have d3 := fun w => dPart c hw i w
  generalize c.part i = x3 at p3 d3
  have P3 := Lib.hid p3
  have D3 := Lib.hid d3
  clear p3 d3
  have p4 := fun w => pLock c hw w
  have d4 := fun w => dLock c hw w
  generalize c.lock = x4 at p4 d4
  have P4 := Lib.hid p4
  have D4 := Lib.hid d4
  clear p4 d4
  have p5 := fun w => pShelf c hw w
  have d5 := fun w => dShelf c hw w
  generalize c.shelf = x5 at p5 d5
  have P5 := Lib.hid p5
  have D5 := Lib.hid d5
  clear p5 d5
  have p6 := fun w => pHeld c hw w
  have d6 := fun w => dHeld c hw w
  generalize c.held = x6 at p6 d6
  have P6 := Lib.hid p6
  have D6 := Lib.hid d6
  clear p6 d6
  have p7 := fun w => pFirst c hw i w
  have d7 := fun w => dFirst c hw i w
  generalize c.first i = x7 at p7 d7
  have P7 := Lib.hid p7
  have D7 := Lib.hid d7
  clear p7 d7
  have p8 := fun w => pNext c hw i w
  have d8 := fun w => dNext c hw i w
  generalize c.next i = x8 at p8 d8
  have P8 := Lib.hid p8
  have D8 := Lib.hid d8
  clear p8 d8
  have p9 := fun w => pLink c hw i k w
  have d9 := fun w => dLink c hw i k w
  generalize c.link i k = x9 at p9 d9
  have P9 := Lib.hid p9
  have D9 := Lib.hid d9
  clear p9 d9
  have pk := fun w => pKey c i w
  have dk := fun w => dKey c i w
  generalize c.keyOf i = y at pk dk
  have PK := Lib.hid pk
  have DK := Lib.hid dk
  clear pk dk hW hw
  have hy : (y == y) = true := by simp
  have h0 := (one_new W c).drew
  go_enter Try.func3, Try.ntmps3
  go_wp2
  go_region_held3 (fun w' => w'.cell? ⟨W.heap.size, 0, none⟩ = some (.int .i64 c.cpus) ∧ w'.cell? ⟨W.heap.size, 1, none⟩ = some (.int .i64 c.slabs) ∧ w'.cell? ⟨W.heap.size, 2, none⟩ = some (.int .i64 c.objs) ∧ w'.cell? ⟨W.heap.size, 3, none⟩ = some (.int .i64 c.min) ∧ w'.cell? ⟨W.heap.size, 4, none⟩ = some (.int .i64 c.cap) ∧ w'.cell? ⟨W.heap.size, 5, none⟩ = some (.int .u64 c.key) ∧ One W W.heap.size c w')
    (first | exact One.six (by assumption) | exact One.six (One.next (by assumption) (below_one (Below.refl _ _) _)))
    (first
      | (go_at_call 8; refine (P0.out _).mono ?_; rintro e w2 ⟨rfl, hb2⟩; have hT2 := One.next (show One W W.heap.size c _ from by assumption) hb2; clear hb2)
      | (go_at_call 9; refine (P1.out _).mono ?_; rintro e w2 ⟨rfl, hb2⟩; have hT2 := One.next (show One W W.heap.size c _ from by assumption) hb2; clear hb2)
      | (go_at_call 10; refine (P2.out _).mono ?_; rintro e w2 ⟨rfl, hb2⟩; have hT2 := One.next (show One W W.heap.size c _ from by assumption) hb2; clear hb2)
      | (go_at_call 11; refine (P3.out _).mono ?_; rintro e w2 ⟨rfl, hb2⟩; have hT2 := One.next (show One W W.heap.size c _ from by assumption) hb2; clear hb2)
      | (go_at_call 12; refine (P4.out _).mono ?_; rintro e w2 ⟨rfl, hb2⟩; have hT2 := One.next (show One W W.heap.size c _ from by assumption) hb2; clear hb2)
      | (go_at_call 13; refine (P5.out _).mono ?_; rintro e w2 ⟨rfl, hb2⟩; have hT2 := One.next (show One W W.heap.size c _ from by assumption) hb2; clear hb2)
      | (go_at_call 14; refine (P6.out _).mono ?_; rintro e w2 ⟨rfl, hb2⟩; have hT2 := One.next (show One W W.heap.size c _ from by assumption) hb2; clear hb2)
      | (go_at_call 15; refine (P7.out _).mono ?_; rintro e w2 ⟨rfl, hb2⟩; have hT2 := One.next (show One W W.heap.size c _ from by assumption) hb2; clear hb2)
      | (go_at_call 16; refine (P8.out _).mono ?_; rintro e w2 ⟨rfl, hb2⟩; have hT2 := One.next (show One W W.heap.size c _ from by assumption) hb2; clear hb2)
      | (go_at_call 17; refine (P9.out _).mono ?_; rintro e w2 ⟨rfl, hb2⟩; have hT2 := One.next (show One W W.heap.size c _ from by assumption) hb2; clear hb2))
  have HT := Lib.hid (hT2.next (below_one (Below.refl w2.heap.size w2) (.cells #[.int .i64 x0, .int .i64 x1, .int .i64 x2, .int .i64 x3, .int .i64 x4, .int .i64 x5, .int .i64 x6, .int .i64 x7, .int .i64 x8, .int .i64 x9] 3)))
  have HS := Lib.hid (lit_i w2 3 [x0, x1, x2, x3, x4, x5, x6, x7, x8, x9] 10 rfl (by omega))
  have hT0 := HT.out.drew
  have hS0 : ShowI (w2.alloc (.cells #[.int .i64 x0, .int .i64 x1, .int .i64 x2, .int .i64 x3, .int .i64 x4, .int .i64 x5, .int .i64 x6, .int .i64 x7, .int .i64 x8, .int .i64 x9] 3)) (.slice (some ⟨w2.heap.size, 0, none⟩) 10 10) [x0, x1, x2, x3, x4, x5, x6, x7, x8, x9] := HS.out
  generalize hw3 : w2.alloc (.cells #[.int .i64 x0, .int .i64 x1, .int .i64 x2, .int .i64 x3, .int .i64 x4, .int .i64 x5, .int .i64 x6, .int .i64 x7, .int .i64 x8, .int .i64 x9] 3) = w3 at *
  generalize w2.heap.size = g at *
  clear HS hT2
  try clear hHeld
  have HS := Lib.hid hS0
  clear hS0
  go_wp2
  have hU0 : Pq W c [x0, x1, x2, x3, x4, x5, x6, x7, x8, x9] (.slice (some ⟨g, 0, none⟩) 10 10) (.slice (some ⟨g, 0, none⟩) 10 10) w3.drew := Pq.drew ⟨HT.out, HS.out, HS.out⟩
  clear hT0
  go_region_held3 (fun w' => w'.cell? ⟨W.heap.size, 0, none⟩ = some (.int .i64 c.cpus) ∧ w'.cell? ⟨W.heap.size, 1, none⟩ = some (.int .i64 c.slabs) ∧ w'.cell? ⟨W.heap.size, 2, none⟩ = some (.int .i64 c.objs) ∧ w'.cell? ⟨W.heap.size, 3, none⟩ = some (.int .i64 c.min) ∧ w'.cell? ⟨W.heap.size, 4, none⟩ = some (.int .i64 c.cap) ∧ w'.cell? ⟨W.heap.size, 5, none⟩ = some (.int .u64 c.key) ∧ Pq W c [x0, x1, x2, x3, x4, x5, x6, x7, x8, x9] (.slice (some ⟨g, 0, none⟩) 10 10) (.slice (some ⟨g, 0, none⟩) 10 10) w')
    (first | exact Pq.six (by assumption) | exact Pq.six (Pq.next (by assumption) (below_one (Below.refl _ _) _)))
    (first
      | (go_at_call 18; refine (D0.out _).mono ?_; rintro e w2 ⟨rfl, hb2⟩; have hT2 := Pq.next (show Pq W c [x0, x1, x2, x3, x4, x5, x6, x7, x8, x9] (.slice (some ⟨g, 0, none⟩) 10 10) (.slice (some ⟨g, 0, none⟩) 10 10) _ from by assumption) hb2; clear hb2)
      | (go_at_call 19; refine (D1.out _).mono ?_; rintro e w2 ⟨rfl, hb2⟩; have hT2 := Pq.next (show Pq W c [x0, x1, x2, x3, x4, x5, x6, x7, x8, x9] (.slice (some ⟨g, 0, none⟩) 10 10) (.slice (some ⟨g, 0, none⟩) 10 10) _ from by assumption) hb2; clear hb2)
      | (go_at_call 20; refine (D2.out _).mono ?_; rintro e w2 ⟨rfl, hb2⟩; have hT2 := Pq.next (show Pq W c [x0, x1, x2, x3, x4, x5, x6, x7, x8, x9] (.slice (some ⟨g, 0, none⟩) 10 10) (.slice (some ⟨g, 0, none⟩) 10 10) _ from by assumption) hb2; clear hb2)
      | (go_at_call 21; refine (D3.out _).mono ?_; rintro e w2 ⟨rfl, hb2⟩; have hT2 := Pq.next (show Pq W c [x0, x1, x2, x3, x4, x5, x6, x7, x8, x9] (.slice (some ⟨g, 0, none⟩) 10 10) (.slice (some ⟨g, 0, none⟩) 10 10) _ from by assumption) hb2; clear hb2)
      | (go_at_call 22; refine (D4.out _).mono ?_; rintro e w2 ⟨rfl, hb2⟩; have hT2 := Pq.next (show Pq W c [x0, x1, x2, x3, x4, x5, x6, x7, x8, x9] (.slice (some ⟨g, 0, none⟩) 10 10) (.slice (some ⟨g, 0, none⟩) 10 10) _ from by assumption) hb2; clear hb2)
      | (go_at_call 23; refine (D5.out _).mono ?_; rintro e w2 ⟨rfl, hb2⟩; have hT2 := Pq.next (show Pq W c [x0, x1, x2, x3, x4, x5, x6, x7, x8, x9] (.slice (some ⟨g, 0, none⟩) 10 10) (.slice (some ⟨g, 0, none⟩) 10 10) _ from by assumption) hb2; clear hb2)
      | (go_at_call 24; refine (D6.out _).mono ?_; rintro e w2 ⟨rfl, hb2⟩; have hT2 := Pq.next (show Pq W c [x0, x1, x2, x3, x4, x5, x6, x7, x8, x9] (.slice (some ⟨g, 0, none⟩) 10 10) (.slice (some ⟨g, 0, none⟩) 10 10) _ from by assumption) hb2; clear hb2)
      | (go_at_call 25; refine (D7.out _).mono ?_; rintro e w2 ⟨rfl, hb2⟩; have hT2 := Pq.next (show Pq W c [x0, x1, x2, x3, x4, x5, x6, x7, x8, x9] (.slice (some ⟨g, 0, none⟩) 10 10) (.slice (some ⟨g, 0, none⟩) 10 10) _ from by assumption) hb2; clear hb2)
      | (go_at_call 26; refine (D8.out _).mono ?_; rintro e w2 ⟨rfl, hb2⟩; have hT2 := Pq.next (show Pq W c [x0, x1, x2, x3, x4, x5, x6, x7, x8, x9] (.slice (some ⟨g, 0, none⟩) 10 10) (.slice (some ⟨g, 0, none⟩) 10 10) _ from by assumption) hb2; clear hb2)
      | (go_at_call 27; refine (D9.out _).mono ?_; rintro e w2 ⟨rfl, hb2⟩; have hT2 := Pq.next (show Pq W c [x0, x1, x2, x3, x4, x5, x6, x7, x8, x9] (.slice (some ⟨g, 0, none⟩) 10 10) (.slice (some ⟨g, 0, none⟩) 10 10) _ from by assumption) hb2; clear hb2))
  have HV := Lib.hid (Pq.mk (hT2.one.next (below_one (Below.refl w2.heap.size w2) (.cells #[.int .i64 x0, .int .i64 x1, .int .i64 x2, .int .i64 x3, .int .i64 x4, .int .i64 x5, .int .i64 x6, .int .i64 x7, .int .i64 x8, .int .i64 x9] 3))) (hT2.l1.below (below_one (Below.refl w2.heap.size w2) (.cells #[.int .i64 x0, .int .i64 x1, .int .i64 x2, .int .i64 x3, .int .i64 x4, .int .i64 x5, .int .i64 x6, .int .i64 x7, .int .i64 x8, .int .i64 x9] 3))) (lit_i w2 3 [x0, x1, x2, x3, x4, x5, x6, x7, x8, x9] 10 rfl (by omega)))
  have hV0 : Pq W c [x0, x1, x2, x3, x4, x5, x6, x7, x8, x9] (.slice (some ⟨g, 0, none⟩) 10 10) (.slice (some ⟨w2.heap.size, 0, none⟩) 10 10) (w2.alloc (.cells #[.int .i64 x0, .int .i64 x1, .int .i64 x2, .int .i64 x3, .int .i64 x4, .int .i64 x5, .int .i64 x6, .int .i64 x7, .int .i64 x8, .int .i64 x9] 3)) := HV.out
  generalize hw4 : w2.alloc (.cells #[.int .i64 x0, .int .i64 x1, .int .i64 x2, .int .i64 x3, .int .i64 x4, .int .i64 x5, .int .i64 x6, .int .i64 x7, .int .i64 x8, .int .i64 x9] 3) = w4 at *
  generalize w2.heap.size = g2 at *
  clear HV hT2
  have hV1 := hV0.drew
  clear hU0
  go_wp2
  go_region_held3 (fun w' => w'.cell? ⟨W.heap.size, 0, none⟩ = some (.int .i64 c.cpus) ∧ w'.cell? ⟨W.heap.size, 1, none⟩ = some (.int .i64 c.slabs) ∧ w'.cell? ⟨W.heap.size, 2, none⟩ = some (.int .i64 c.objs) ∧ w'.cell? ⟨W.heap.size, 3, none⟩ = some (.int .i64 c.min) ∧ w'.cell? ⟨W.heap.size, 4, none⟩ = some (.int .i64 c.cap) ∧ w'.cell? ⟨W.heap.size, 5, none⟩ = some (.int .u64 c.key) ∧ Pq W c [x0, x1, x2, x3, x4, x5, x6, x7, x8, x9] (.slice (some ⟨g, 0, none⟩) 10 10) (.slice (some ⟨g2, 0, none⟩) 10 10) w')
    (first | exact Pq.six (by assumption))
    (first
      | (go_at_call 28; refine (cEqYes _ _ [x0, x1, x2, x3, x4, x5, x6, x7, x8, x9] [x0, x1, x2, x3, x4, x5, x6, x7, x8, x9] rfl _ (Pq.l1 (show Pq W c [x0, x1, x2, x3, x4, x5, x6, x7, x8, x9] (.slice (some ⟨g, 0, none⟩) 10 10) (.slice (some ⟨g2, 0, none⟩) 10 10) _ from by assumption)) (Pq.l2 (show Pq W c [x0, x1, x2, x3, x4, x5, x6, x7, x8, x9] (.slice (some ⟨g, 0, none⟩) 10 10) (.slice (some ⟨g2, 0, none⟩) 10 10) _ from by assumption))).mono ?_; rintro e w5 ⟨rfl, hb5⟩; have hT5 := Pq.next (show Pq W c [x0, x1, x2, x3, x4, x5, x6, x7, x8, x9] (.slice (some ⟨g, 0, none⟩) 10 10) (.slice (some ⟨g2, 0, none⟩) 10 10) _ from by assumption) hb5; clear hb5)
      | (go_at_call 29; refine (PK.out _).mono ?_; rintro e w5 ⟨rfl, hb5⟩; have hT5 := Pq.next (show Pq W c [x0, x1, x2, x3, x4, x5, x6, x7, x8, x9] (.slice (some ⟨g, 0, none⟩) 10 10) (.slice (some ⟨g2, 0, none⟩) 10 10) _ from by assumption) hb5; clear hb5)
      | (go_at_call 30; refine (DK.out _).mono ?_; rintro e w5 ⟨rfl, hb5⟩; have hT5 := Pq.next (show Pq W c [x0, x1, x2, x3, x4, x5, x6, x7, x8, x9] (.slice (some ⟨g, 0, none⟩) 10 10) (.slice (some ⟨g2, 0, none⟩) 10 10) _ from by assumption) hb5; clear hb5)
      | (go_at_call 31; refine (HWK.out _).mono ?_; rintro e w5 ⟨rfl, hb5⟩; have hT5 := Pq.next (show Pq W c [x0, x1, x2, x3, x4, x5, x6, x7, x8, x9] (.slice (some ⟨g, 0, none⟩) 10 10) (.slice (some ⟨g2, 0, none⟩) 10 10) _ from by assumption) hb5; clear hb5))
  all_goals
    go_wp2
    go_ret
    exact ⟨rfl, hT5.one.low⟩
end Go.Proofs.Ytnnfmlbgoplnaaa
