/-
  Path of the program: what a path gives, collected.
-/
import Derived.Test.YtbdlkglngjjpjaaSeq
set_option linter.unusedVariables false
set_option linter.unusedSimpArgs false
namespace Go.Proofs.Ytbdlkglngjjpjaa
open Go Go.RowKit Go.Shelf

attribute [local go_sem] Oper.semAt_some

/-- numbers of one's own are answered -/
def GivesI (w : World) (l : List Int) (e : Ending) (w' : World) : Prop := ∃ ao cap, e = .returned (.slice ao l.length cap) ∧ OwnI w.heap.size w' (.slice ao l.length cap) l ∧ Below w.heap.size w w'
set_option maxHeartbeats 4000000 in
set_option maxRecDepth 100000 in
theorem AppendSeq_in (p : Option Addr) (x : Int) (t : Tr) (Bg Bt : Nat) (w : World) (hg : w.cell? ⟨Bg, 0, none⟩ = some (.int .i64 x)) (hT : TB w p Bt t) :
    CallsIn Fence.wide 8 Try.prog 38 #[.slice none 0 0, .func (.func 39) #[] #[.pointer (some ⟨Bg, 0, none⟩), .pointer (some ⟨Bt, 0, none⟩)]] w (GivesI w (ints (path t (nu t.n x)))) := by
  have HT := Lib.hid hT
  have h1 : 1 ≤ 8 := by omega
  have hro : Fence.wide.round = none := rfl
  obtain ⟨i0, hi, hz0, hz1, hz2⟩ := info_parts infoI
  refine callsIn_of_wp_marks Try.func38 rfl trivial ?_ hro
  simp only [Try.ntmps38, List.size_toArray, List.length_cons, List.length_nil, Nat.reduceAdd, Nat.reduceSub, Array.replicate_succ, Array.replicate_zero, List.push_toArray, List.append_toArray, List.nil_append, List.cons_append]
  gi_wp2
  have hB0 : Below w.heap.size w (w.alloc (.cells #[.slice none 0 0] 39)) := below_one (Below.refl _ _) _
  have bO := Boxed.new w 39 (.slice none 0 0)
  refine wpIn_rangeFunc_ownG hro h1 (gf := 39) (lb := #[.pointer (some ⟨Bg, 0, none⟩), .pointer (some ⟨Bt, 0, none⟩)]) rfl trivial (enters_of Try.func39 (by kernel_rfl) rfl)
    (path_stops (8 - 1) (by omega) _ _ p t x _ (cell_keep hB0 hg) (hT.below hB0)) KeepT.trans keepT_b (Below.refl _ _) (fun _ => rfl)
    (fun pre W => (∃ v, Boxed W w.heap.size 39 v ∧ W.ownsRow w.heap.size 3 1 v pre.length (nms (ints pre)) ∧ (v = .slice none 0 0 ↔ pre = [])) ∧ Below w.heap.size w W)
    (fun _ _ _ => False)
    (OwnFrom.and (Own.from (holdsRow_own w.heap.size w.heap.size 39 3 1 (fun pre : List Nat => pre.length) (fun pre => nms (ints pre)) (fun pre v => v = .slice none 0 0 ↔ pre = [])) _) (ownFrom_below (Nat.le_refl _) (by simp)))
    (fun _ _ _ _ _ hs _ _ => hs)
    ⟨⟨_, bO, World.ownsRow_nil _ _ _ _, by simp⟩, hB0⟩
    (fun c : Nat => { tmps := #[.slice none 0 0, .func (.func 39) #[] #[.pointer (some ⟨Bg, 0, none⟩), .pointer (some ⟨Bt, 0, none⟩)], .pointer (some ⟨w.heap.size, 0, none⟩), undef, .slice none 0 0, .int .i64 (c : Int), .func (.func 39) #[] #[.pointer (some ⟨Bg, 0, none⟩), .pointer (some ⟨Bt, 0, none⟩)], .int .i64 (c : Int), undef, undef, undef, undef, undef], defers := [] }) ?assign ?body ?done ?stop
  case assign =>
    intro r c W K hK
    gi_wp2
    exact hK
  case body =>
    rintro r pre c W ⟨⟨v, hv, hrow, hnil⟩, hB⟩ hlt
    have hc := hv.cell
    have HNIL := Lib.hid hnil
    clear hnil
    gi_wp2_with (gi_at_builtin; refine wpListIn_append_own _ rfl _ _ 39 rfl w.heap.size 3 i0 (.int .i64 0) 1 8 Try.underlying39 hi hz0 hz1 hz2 rfl (by decide) _ _ _ rfl (hrow.alloc _) ⟨W.heap.size, 0, none⟩ 1 1 [.int .i64 (c : Int)] rfl rfl (cell_one_new _ _ _) (by simp [Value.oneCell']) (by unfold maxLen; omega) (by omega) (by have := hB.size; simp; omega) ?_; intro v' w1 hown' hgrow _; obtain ⟨g', cap', rfl⟩ := ownsRow_succ hown'; obtain ⟨hv1, hv2, hr2, hk2, hb2⟩ := hv.appended (by decide) hrow hB.size (Nat.le_refl _) hown' hgrow; have hc1 := hv1.cell; have hf1 := hv1.frozen)
    exact ⟨hk2.from _, fun _ => HT.out.below (hB.trans hb2), ⟨_, hv2, by simpa [nms, ints] using hr2, by simp⟩, hB.trans hb2⟩
  case done =>
    rintro D ys W hD rfl ⟨⟨v, hv, hrow, hnil⟩, hB⟩ hK
    have hc := hv.cell
    obtain ⟨a, cp, rfl, _⟩ := own_shape hrow
    clear hnil
    gi_wp2
    refine ⟨by simp, .inl ⟨_, _, rfl, run_takeDeferred hK, ?_⟩⟩
    refine ⟨_, results_tmp (t := 4) rfl _ _ _, a, cp, by rw [List.length_map]; rfl, ?_, hB.trans (belowK_b (w := w) (Nat.le_refl _) W D _ _ (by simp at hD; omega) hK rfl rfl)⟩
    have := ownsRow_putObj hrow (.deferred none) hK rfl
    unfold OwnI
    rw [List.length_map]
    exact this
  case stop =>
    rintro D c pre W _ _ h _
    exact h.elim
set_option maxHeartbeats 1000000 in
theorem cCollect {p : Option Addr} {x : Int} {t : Tr} {Bg Bt : Nat} {w : World} (hg : w.cell? ⟨Bg, 0, none⟩ = some (.int .i64 x)) (hT : TB w p Bt t) :
    Calls Try.prog 36 #[.func (.func 39) #[] #[.pointer (some ⟨Bg, 0, none⟩), .pointer (some ⟨Bt, 0, none⟩)]] w (GivesI w (ints (path t (nu t.n x)))) := by
  have HT := Lib.hid hT
  have HG := Lib.hid hg
  clear hT hg
  go_enter Try.func36, Try.ntmps36
  go_wp2_with fail
  refine (callsIn_wide.1 (AppendSeq_in p x t Bg Bt w HG.out HT.out)).mono ?_
  rintro e w1 ⟨ao, cap, rfl, hown, hb⟩
  go_wp2
  go_ret
  exact ⟨ao, cap, by rw [List.length_map]; rfl, hown, hb⟩
set_option maxHeartbeats 1000000 in
theorem cPath {p : Option Addr} {x : Int} {t : Tr} {l : List Int} (hl : ints (path t (nu t.n x)) = l) {w : World} (h : TQ w p t) :
    Calls Try.prog 19 #[.pointer p, .int .i64 x] w (GivesI w l) := by
  subst hl
  obtain ⟨hT, hg, hb, _⟩ := boxT w p x h
  have H := Lib.hid (And.intro hT (And.intro hg hb))
  clear hT hg hb h
  go_enter Try.func19, Try.ntmps19
  go_wp2_with fail
  refine (callsIn_wide.1 (path_in 8 p x w)).mono ?_
  rintro e w1 ⟨rfl, hw1⟩
  have H1 : Hid (TB w1 p w.heap.size t ∧ w1.cell? ⟨w.heap.size + 1, 0, none⟩ = some (.int .i64 x) ∧ Below w.heap.size w w1) := Lib.hid (by rw [hw1]; exact H.out)
  clear H hw1
  go_wp2_with fail
  refine (cCollect H1.out.2.1 H1.out.1).mono ?_
  rintro e w2 ⟨ao, cap, rfl, hown, hb2⟩
  have HB := Lib.hid (below_then H1.out.2.2 hb2)
  have HO := Lib.hid (hown.le H1.out.2.2.size)
  clear hown hb2
  go_wp2
  go_ret
  exact ⟨ao, cap, by rw [List.length_map]; rfl, HO.out, HB.out⟩
end Go.Proofs.Ytbdlkglngjjpjaa
