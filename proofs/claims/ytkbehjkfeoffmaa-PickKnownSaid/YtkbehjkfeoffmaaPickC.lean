/-
  Pick, of the program: its contract.
-/
import Derived.Test.YtkbehjkfeoffmaaPick
set_option linter.unusedVariables false
set_option linter.unusedSimpArgs false
namespace Go.Proofs.Ytkbehjkfeoffmaa
open Go Go.RowKit Go.Shelf

attribute [local go_sem] Oper.semAt_some

set_option maxHeartbeats 4000000 in
set_option maxRecDepth 100000 in
theorem Pick_in (u : Value) (l : List Bool) (x : Int) (hlen : l.length ≤ 1048576) (w : World) (hs : ShowB w u l) :
    CallsIn Fence.wide 3 Try.prog 9 #[u, .int .i64 x] w fun e W' => e = .returned (pairOf (pickF l x)) ∧ Below w.heap.size w W' := by
  obtain ⟨ao, cap, rfl, hcap, hat⟩ := hs.form
  clear hs
  have h1 : 1 ≤ 3 := by omega
  have hro : Fence.wide.round = none := rfl
  have hp : Fence.wide.fn 9 := trivial
  have ht : Fence.wide.fn 19 := trivial
  have hf : Fence.wide.fn 21 := trivial
  obtain ⟨i0, hi, hz0, hz1, hz2⟩ := info_parts infoI
  have HAT := Lib.hid hat
  have HLEN := Lib.hid hlen
  clear hat
  refine callsIn_of_wp_marks Try.func9 rfl hp ?_ hro
  simp only [Try.ntmps9, List.size_toArray, List.length_cons, List.length_nil, Nat.reduceAdd, Nat.reduceSub, Array.replicate_succ, Array.replicate_zero, List.push_toArray, List.append_toArray, List.nil_append, List.cons_append]
  gi_wp2_with (gi_at_call 19; refine (those_in Fence.wide (3 - 1) ht hro _ _ _ _).mono ?_; rintro e w' ⟨rfl, rfl⟩)
  have bO := Boxed.new w 27 (.slice none 0 0)
  have bN := Boxed.new (w.alloc (.cells #[.slice none 0 0] 27)) 22 (.slice ao l.length cap)
  rw [World.size_alloc] at bN
  have hB0 : Below w.heap.size w ((w.alloc (.cells #[.slice none 0 0] 27)).alloc (.cells #[.slice ao l.length cap] 22)) := ((Below.refl _ w).alloc (Nat.le_refl _) _).alloc (by simp) _
  refine wpIn_rangeFunc_ownG hro h1 (gf := 21) (lb := #[.pointer (some ⟨w.heap.size + 1, 0, none⟩)]) rfl hf (enters_of Try.func21 (by kernel_rfl) rfl)
    (those_stops Fence.wide (3 - 1) hf hro (by omega) (w.heap.size + 1) w.heap.size ao cap l hcap _ (by simp) (by simp; omega) bN.cell (fun i hi => by
      obtain ⟨b, o, e, h⟩ := HAT.out i hi
      have hlt : b < w.heap.size := World.block_lt_of_cell? w _ h
      exact ⟨b, o, e, hlt, (hB0.cell (p := ⟨b, o + i, none⟩) hlt).trans h⟩)) belowK_t (belowK_b (by simp; omega)) (Below.refl _ _) (fun _ => rfl)
    (fun pre W => (∃ v, Boxed W w.heap.size 27 v ∧ W.ownsRow w.heap.size 3 1 v pre.length (nats pre) ∧ (v = .slice none 0 0 ↔ pre = [])) ∧ Below w.heap.size w W)
    (fun _ _ _ => False)
    (OwnFrom.and (Own.from (holdsRow_own w.heap.size w.heap.size 27 3 1 (fun pre : List Nat => pre.length) (fun pre => nats pre) (fun pre v => v = .slice none 0 0 ↔ pre = [])) _) (ownFrom_below (Nat.le_refl _) (by simp; omega)))
    (fun _ _ _ _ _ hs _ _ => hs)
    ⟨⟨_, bO.alloc _, World.ownsRow_nil _ _ _ _, by simp⟩, hB0⟩
    (fun c : Nat => { tmps := #[.slice ao l.length cap, .int .i64 x, undef, undef, .int .i64 0, .bool false, .pointer (some ⟨w.heap.size, 0, none⟩), .int .i64 (c : Int), undef, .slice ao l.length cap, .func (.func 21) #[] #[.pointer (some ⟨w.heap.size + 1, 0, none⟩)], .int .i64 (c : Int), undef, undef, undef, undef, undef, undef, undef, undef, undef, undef, undef, undef, undef, undef, undef, undef, undef, undef], defers := [] }) ?assign ?body ?done ?stop
  case assign =>
    intro r c W K hK
    gi_wp2
    exact hK
  case body =>
    rintro r pre c W ⟨⟨v, hv, hrow, hnil⟩, hB⟩ hlt
    have hc := hv.cell
    have HNIL := Lib.hid hnil
    clear hnil
    gi_wp2_with (gi_at_builtin; refine wpListIn_append_own _ rfl _ _ 27 rfl w.heap.size 3 i0 (.int .i64 0) 1 8 Try.underlying27 hi hz0 hz1 hz2 rfl (by decide) _ _ _ rfl (hrow.alloc _) ⟨W.heap.size, 0, none⟩ 1 1 [.int .i64 (c : Int)] rfl rfl (cell_one_new _ _ _) (by simp [Value.oneCell']) (by unfold maxLen; omega) (by omega) (by have := hB.size; simp; omega) ?_; intro v' w1 hown' hgrow _; obtain ⟨g', cap', rfl⟩ := ownsRow_succ hown'; obtain ⟨hv1, hv2, hr2, hk2, hb2⟩ := hv.appended (by decide) hrow hB.size (Nat.le_refl _) hown' hgrow; have hc1 := hv1.cell; have hf1 := hv1.frozen)
    exact ⟨hk2.from _, hb2, ⟨_, hv2, by simpa [nats] using hr2, by simp⟩, hB.trans hb2⟩
  case done =>
    rintro D ys W hD rfl ⟨⟨v, hv, hrow, hnil⟩, hB⟩ hK
    have hc := hv.cell
    have hRl := idx_le l l.length
    have HP : Hid (pickF l x = if idx l l.length = [] then none else some ((idx l l.length).getD (bring x (idx l l.length).length) 0)) := Lib.hid rfl
    obtain ⟨R, hR⟩ : ∃ R, idx l l.length = R := ⟨_, rfl⟩
    rw [hR] at hrow hnil hRl HP
    clear hR HAT
    rcases hrow.2 with ⟨rfl, he⟩ | ⟨g, cap', cur, rfl, hbg, hgg, hc1, hc2, _, _⟩
    · have hR0 : R = [] := by simpa [nats] using he
      have hR0' : R.length = 0 := by rw [hR0]; rfl
      have HP1 : Hid (pickF l x = none) := Lib.hid (by rw [HP.out, if_pos hR0])
      clear HP hnil
      gi_wp2
      refine ⟨by simp, .inl ⟨_, _, rfl, run_takeDeferred hK, ?_⟩⟩
      exact ⟨_, results_tmp2 (t := 4) (u := 5) rfl _ _ _, (ret_pair HP1.out).symm, hB.trans (belowK_b (w := w) (Nat.le_refl _) W D _ _ (by simp at hD; omega) hK rfl rfl)⟩
    · by_cases hR0 : R = []
      · exact absurd (hnil.2 hR0) (by simp)
      · have hm1 : 1 ≤ R.length := by
          cases R with
          | nil => exact absurd rfl hR0
          | cons a r => simp
        have HP1 : Hid (pickF l x = some (R.getD (bring x R.length) 0)) := Lib.hid (by rw [HP.out, if_neg hR0])
        have hj := bring_lt x R.length hm1
        have hcl : W.cell? ⟨g, bring x R.length, none⟩ = some (.int .i64 ((R.getD (bring x R.length) 0 : Nat) : Int)) := by
          rw [hrow.cellAt _ (by omega)]
          simp [nats, hj]
        obtain ⟨c, hcc⟩ : ∃ c, R.getD (bring x R.length) 0 = c := ⟨_, rfl⟩
        rw [hcc] at HP1 hcl
        have hlo := (tmod_range x R.length hm1).2
        have hhi := (tmod_range x R.length hm1).1
        have hj2 : (x.tmod R.length + R.length) % (R.length : Int) = (bring x R.length : Int) := by
          rw [bring_int x _ hm1, Int.add_emod_right, emod_of_tmod x _ hm1]
          split
          · rw [← Int.add_emod_right, Int.emod_eq_of_lt (by omega) (by omega)]
          · rw [Int.emod_eq_of_lt (by omega) (by omega)]
        obtain ⟨j, hjj⟩ : ∃ j, bring x R.length = j := ⟨_, rfl⟩
        rw [hjj] at hj hcl hj2
        clear HP hnil hrow hcc hjj hR0
        gi_wp2
        refine wpIn_wide.2 ?_
        go_region
        gi_wp2
        refine ⟨by simp, .inl ⟨_, _, rfl, run_takeDeferred (by exact hK), ?_⟩⟩
        exact ⟨_, results_tmp2 (t := 4) (u := 5) rfl _ _ _, (ret_pair HP1.out).symm, (below_drewN hB 1).trans (belowK_b (w := w) (Nat.le_refl _) _ D _ _ (by simp at hD; omega) (by exact hK) rfl rfl)⟩
  case stop =>
    rintro D c pre W _ _ h _
    exact h.elim
end Go.Proofs.Ytkbehjkfeoffmaa
