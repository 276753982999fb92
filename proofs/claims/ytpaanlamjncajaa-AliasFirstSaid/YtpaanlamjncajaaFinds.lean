/-
  A copy of a list; the laws AliasFinds and AliasFirst, walked.
-/
import Derived.Test.YtpaanlamjncajaaWorks
set_option linter.unusedVariables false
set_option linter.unusedSimpArgs false
namespace Go.Proofs.Ytpaanlamjncajaa
open Go Go.RowKit

theorem sps_one (l : List Sp) : ∀ u ∈ sps l, u.oneCell' = true := by
  intro u hu
  obtain ⟨p, _, hp⟩ := List.mem_flatMap.1 hu
  simp [Sp.cells] at hp
  rcases hp with rfl | rfl | rfl <;> rfl
theorem news_of {w : World} {b o cap : Nat} {l : List Sp} (hs : ShowS w (.slice (some ⟨b, o, none⟩) l.length cap) l) : ∀ j u, (sps l)[j]? = some u → w.cell? ((⟨b, o, none⟩ : Addr).add j) = some u := by
  intro j u hj
  obtain ⟨hl, ao', cap', hv, hc, hx⟩ := hs
  cases hv
  have hlt := (List.getElem?_eq_some_iff.1 hj).1
  obtain ⟨b', o', ha, h2⟩ := hx (by omega)
  cases ha
  have := h2 j (by omega)
  rw [hj] at this
  rw [plain_add, this]
theorem run_copyS {w : World} {u : Value} {l : List Sp} (hu : ShowS w u l) (hl : l.length * 24 ≤ 140737488355328) (ty : TypeId) :
    ∃ ao cap w', (Builtin.append_ #[29, 29] ty #[.slice none 0 0, u]).run Try.prog w = .ok (.slice ao l.length cap) w' ∧ ShowS w' (.slice ao l.length cap) l ∧ Below w.heap.size w w' := by
  obtain ⟨i0, hi, hz0, hz1, hz2⟩ := info_parts infoS
  have hu0 := hu
  obtain ⟨ao, cap, rfl, hcap, hat⟩ := hu.form
  by_cases hne : 0 < l.length
  · obtain ⟨b, o, rfl, _⟩ := hat 0 hne
    obtain ⟨v', w', hr, hown, hg, _, _⟩ := run_append_own_at (P := Try.prog) w w.heap.size 29 ty 23 i0 _ 3 24 Try.underlying29 hi hz0 hz1 hz2 rfl (by decide) (.slice none 0 0) 0 [] (World.ownsRow_nil _ _ _ _) ⟨b, o, none⟩ l.length cap (sps l) (sps_length l) (news_of hu0) (sps_one l) (by unfold maxLen; omega) (by omega) (Nat.le_refl _)
    have hown' : w'.ownsRow w.heap.size 23 3 v' l.length (sps l) := by simpa using hown
    obtain ⟨a', c', rfl, _⟩ := own_shape hown'
    exact ⟨a', c', w', hr, Shows.ofOwns hown', (Below.refl _ w).grown hg (Nat.le_refl _) (fun k hk => by simp [Value.ownBlock] at hk)⟩
  · have h0 : l = [] := List.length_eq_zero_iff.1 (by omega)
    subst h0
    cases ao with
    | none =>
      refine ⟨none, 0, w, ?_, Shows.nil w 3, Below.refl _ _⟩
      simp [Builtin.append_, run_underlying Try.underlying29, sizeOf, typeInfo, hi, Builtin.lenOf, Builtin.firstCells]
    | some ad =>
      obtain ⟨v', w', hr, hown, hg, _, _⟩ := run_append_own_at (P := Try.prog) w w.heap.size 29 ty 23 i0 _ 3 24 Try.underlying29 hi hz0 hz1 hz2 rfl (by decide) (.slice none 0 0) 0 [] (World.ownsRow_nil _ _ _ _) ad 0 cap [] rfl (fun j u h => by simp at h) (fun u h => by simp at h) (by unfold maxLen; omega) (by omega) (Nat.le_refl _)
      have hown' : w'.ownsRow w.heap.size 23 3 v' 0 (sps []) := by simpa using hown
      obtain ⟨a', c', rfl, _⟩ := own_shape hown'
      exact ⟨a', c', w', hr, Shows.ofOwns hown', (Below.refl _ w).grown hg (Nat.le_refl _) (fun k hk => by simp [Value.ownBlock] at hk)⟩
theorem wpList_copyS {ops : Array Oper} {rest : List Oper} {o : Oper} {a : Act} {Q : Exit → Act → World → Prop} {w : World} (hgd : o.guard = none) (s x : Operand)
    (ho : o.op = .call { callee := .builtin .append, args := #[s, x], argTypes := #[29, 29] })
    (hs : a.eval s = .slice none 0 0) (u : Value) (l : List Sp) (hu : ShowS w u l) (hx : a.eval x = u) (hl : l.length * 24 ≤ 140737488355328)
    (h : ∀ ao cap w', ShowS w' (.slice ao l.length cap) l → Below w.heap.size w w' → wpList Try.prog ops Q rest (a.put o.dst (.slice ao l.length cap)) w') :
    wpList Try.prog ops Q (o :: rest) a w := by
  refine wpList_plain hgd fun K hK => ?_
  obtain ⟨ao, cap, w', hr, h1, h2⟩ := run_copyS hu hl o.type
  unfold Oper.wp execOp
  simp only [ho, resolve, invoke, builtin, Sem.run_bind, Sem.run_pure, Result.andThen_ok, List.map_toArray, List.map_cons, List.map_nil, hs, hx, hr]
  exact hK _ _ (h _ _ _ h1 h2)
set_option maxHeartbeats 8000000 in
set_option maxRecDepth 100000 in
theorem walkFinds (u : Value) (l : List Sp) (c : Sp) (W : World) (hu : ShowS W u l) (hl : l.length * 24 ≤ 140737488355328) :
    Calls Try.prog 4 #[u, c.agg] W fun e W' => e = .returned (.bool true) ∧ Below W.heap.size W W' := by
  have HX := Lib.hid (arg_new W c)
  have hb0 := below_one (Below.refl W.heap.size W) (argO c)
  have hua := hu.below (w' := W.alloc (argO c)) hb0
  have HU := Lib.hid hua
  obtain ⟨au, cu, rfl, ⟨hcu1, hcu2⟩, _⟩ := hu.form
  have HW0 := Lib.hid hb0
  clear hu hua hb0
  have hgd := guardK
  go_enter Try.func4, Try.ntmps4
  go_wp2_with (at_builtin; refine wpList_copyS (by rfl) _ _ (by rfl) (by rfl) _ l HU.out (by rfl) hl ?_; intro ai ci w1 hs1 hb1; refine Stop.mk ?_)
  unfold Stop
  have HI1 := Lib.hid hs1
  have HU1 := Lib.hid (HU.out.below hb1)
  have HX1 := Lib.hid (HX.out.below hb1)
  have HW1 := Lib.hid (below_then HW0.out hb1)
  obtain ⟨c0, c1, c2⟩ := HX1.out.cells
  obtain ⟨_, _, hsl, ⟨hci1, hci2⟩, _⟩ := hs1.form
  cases hsl
  clear hs1 hb1 HU HX HW0 hl
  have F1 := Lib.hid (cFind _ l c w1 HI1.out)
  have F2 := Lib.hid (fun w hu => rFind (.slice au l.length cu) l c w hu)
  generalize fV l c = v at *
  generalize fB l c = q at *
  go_wp2_with fail
  refine F1.out.mono ?_
  rintro e w2 ⟨rfl, hb2⟩
  have HI2 := Lib.hid (HI1.out.below hb2)
  have HU2 := Lib.hid (HU1.out.below hb2)
  have HX2 := Lib.hid (HX1.out.below hb2)
  have HW2 := Lib.hid (below_then HW1.out hb2)
  clear hb2 HI1 HU1 HX1 HW1 F1 c0 c1 c2
  obtain ⟨c0, c1, c2⟩ := HX2.out.cells
  go_wp2_with fail
  refine (F2.out _ HU2.out).mono ?_
  rintro e w3 ⟨rfl, hb3⟩
  have hi3 := HI2.out.below hb3
  have hu3 := HU2.out.below hb3
  have HW3 := Lib.hid (below_then HW2.out hb3)
  clear hb3 HI2 HU2 HX2 HW2 F2 c0 c1 c2
  obtain ⟨_, _, hv1, _, hat1⟩ := hi3.form
  cases hv1
  obtain ⟨_, _, hv2, _, hat2⟩ := hu3.form
  cases hv2
  clear hi3 hu3
  go_wp2
  go_loopw [10] (fun i wr => ∃ k : Nat, k ≤ l.length ∧ i = .int .i64 k ∧ Hid (Below w3.heap.size w3 wr)) (fun i _ => l.length - (intOf i).toNat)
  case atStart => exact ⟨0, by omega, rfl, Lib.hid (Below.refl _ _)⟩
  case round =>
    obtain ⟨k, hk, rfl, HW⟩ := hrel
    by_cases hlt : k < l.length
    · obtain ⟨b1, o1, rfl, e0, e1, e2⟩ := hat1 k hlt
      obtain ⟨b2, o2, rfl, g0, g1, g2⟩ := hat2 k hlt
      have d0 := cell_keep HW.out e0
      have d1 := cell_keep HW.out e1
      have d2 := cell_keep HW.out e2
      have f0 := cell_keep HW.out g0
      have f1 := cell_keep HW.out g1
      have f2 := cell_keep HW.out g2
      clear e0 e1 e2 g0 g1 g2
      generalize sp l k = s at *
      have heq := fun w' => eqIs (c := s) (d := s) (decide_eq_true rfl) w'
      go_wp2
      go_quiet (fail)
      go_wp2
      go_roundw
      case rel => exact ⟨k + 1, by omega, by go_num, Lib.hid (below_drewN HW.out _)⟩
      case measure => simp [intOf]; omega
    · obtain rfl : k = l.length := by omega
      go_wp2_with fail
      refine (works _).mono ?_
      rintro e w5 ⟨rfl, hb5⟩
      have HW5 := Lib.hid (below_then (below_then HW3.out HW.out) hb5)
      clear hb5
      go_wp2
      go_ret
      exact ⟨rfl, HW5.out⟩
set_option maxHeartbeats 8000000 in
set_option maxRecDepth 100000 in
theorem walkFirst (u : Value) (l : List Sp) (c : Sp) (W : World) (hu : ShowS W u l) :
    Calls Try.prog 7 #[u, c.agg] W fun e W' => e = .returned (.bool true) ∧ Below W.heap.size W W' := by
  have HX := Lib.hid (arg_new W c)
  have hb0 := below_one (Below.refl W.heap.size W) (argO c)
  have F1 := Lib.hid (cFind u l c (W.alloc (argO c)) (hu.below hb0))
  obtain ⟨ao, cap, rfl, ⟨hcap1, hcap2⟩, hat⟩ := hu.form
  have HW0 := Lib.hid hb0
  clear hu hb0
  have HF1 : Hid (fst l c < l.length → fV l c = fst l c ∧ fB l c = true) := Lib.hid f_in
  have HF2 : Hid (fst l c = l.length → fV l c = 0 ∧ fB l c = false) := Lib.hid f_out
  generalize fV l c = v at *
  generalize fB l c = q at *
  go_enter Try.func7, Try.ntmps7
  go_wp2_with fail
  refine F1.out.mono ?_
  rintro e w1 ⟨rfl, hb1⟩
  have HX1 := Lib.hid (HX.out.below hb1)
  have HW1 := Lib.hid (below_then HW0.out hb1)
  clear hb1 HX HW0 F1
  go_wp2
  go_loopw [7] (fun i wr => ∃ k : Nat, k ≤ l.length ∧ i = .int .i64 k ∧ Hid (k ≤ fst l c) ∧ Hid (SpAt wr W.heap.size c ∧ Below W.heap.size W wr)) (fun i _ => l.length - (intOf i).toNat)
  case atStart => exact ⟨0, by omega, rfl, Lib.hid (by omega), Lib.hid ⟨HX1.out, HW1.out⟩⟩
  case round =>
    obtain ⟨k, hk, rfl, HK, HW⟩ := hrel
    by_cases hlt : k < l.length
    · obtain ⟨b1, o1, rfl, e0, e1, e2⟩ := hat k hlt
      have d0 := cell_keep HW.out.2 e0
      have d1 := cell_keep HW.out.2 e1
      have d2 := cell_keep HW.out.2 e2
      obtain ⟨g0, g1, g2⟩ := HW.out.1.cells
      clear e0 e1 e2
      have HN : Hid (srv (sp l k) c = false → k + 1 ≤ fst l c) := Lib.hid (fun h => fst_next HK.out hlt h)
      have HY : Hid (srv (sp l k) c = true → v = k ∧ q = true) := Lib.hid (fun h => by
        have := fst_yes HK.out hlt h
        have h2 := HF1.out (by omega)
        rw [this] at h2
        exact h2)
      clear HK
      generalize sp l k = s at *
      cases hq : srv s c with
      | true =>
        obtain ⟨rfl, rfl⟩ := HY.out hq
        have hS := fun w => cServes s c w
        rw [hq] at hS
        have HS := Lib.hid hS
        clear HY HN hS HF1 HF2
        go_wp2
        go_region_with (go_at_call 13; refine (HS.out _).mono ?_; rintro e w2 ⟨rfl, hb2⟩; have HW2 : Hid (Below W.heap.size W w2) := Lib.hid (below_then (Below.drew HW.out.2) hb2); clear hb2)
        all_goals
          go_wp2_with fail
          refine (works _).mono ?_
          rintro e w3 ⟨rfl, hb3⟩
          have HW3 := Lib.hid (below_then HW2.out hb3)
          clear hb3
          go_wp2
          go_ret
          exact ⟨rfl, HW3.out⟩
      | false =>
        have HX := Lib.hid (HN.out hq)
        have hS := fun w => cServes s c w
        rw [hq] at hS
        have HS := Lib.hid hS
        clear HY HN hS
        go_wp2
        go_region_with (go_at_call 13; refine (HS.out _).mono ?_; rintro e w2 ⟨rfl, hb2⟩; have HW2 : Hid (SpAt w2 W.heap.size c ∧ Below W.heap.size W w2) := Lib.hid ⟨SpAt.below (w := wr.drew) HW.out.1 hb2, below_then (Below.drew HW.out.2) hb2⟩; clear hb2)
        all_goals
          go_wp2
          go_roundw
          case rel => exact ⟨k + 1, by omega, by go_num, HX, HW2⟩
          case measure => simp [intOf]; omega
    · obtain rfl : k = l.length := by omega
      obtain ⟨rfl, rfl⟩ := HF2.out (Nat.le_antisymm (fst_le l c) HK.out)
      go_wp2_with fail
      refine (works _).mono ?_
      rintro e w3 ⟨rfl, hb3⟩
      have HW3 := Lib.hid (below_then HW.out.2 hb3)
      clear hb3
      go_wp2
      go_ret
      exact ⟨rfl, HW3.out⟩
end Go.Proofs.Ytpaanlamjncajaa
