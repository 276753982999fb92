/-
  each of the program: over the slots, over the slabs.
-/
import Derived.Test.YtnnfmlbgoplnaaaPsb
set_option linter.unusedVariables false
set_option linter.unusedSimpArgs false
namespace Go.Proofs.Ytnnfmlbgoplnaaa
open Go Go.RowKit

theorem allB_no {p : Nat → Bool} {n k : Nat} (hk : k < n) (h : p k = false) : allB p n = false := by
  cases e : allB p n with
  | false => rfl
  | true => rw [allB_iff.1 e k hk] at h; cases h
theorem Below.low2 {W w w' : World} (h : Below W.heap.size W w) (hb : Below w.heap.size w w') : Below W.heap.size W w' := below_then h hb
set_option maxHeartbeats 8000000 in
set_option maxRecDepth 100000 in
theorem pEachSl (u : Value) (l : List Int) (c : Ch) (hw : c.wf) (ho : c.ok) (hl : (l.length : Int) = c.n) (hy : Wordy l) (w : World) (hu : ShowU w u l) :
    Calls Try.prog 47 #[.int .i64 c.cpus, .func (.func 48) #[.agg (c.vw u)] #[]] w fun e w' => ∃ (v : Value) (M : List SlV), e = .returned (.tuple #[v, .bool (slotsB l c)]) ∧ OwnSl w.heap.size w' v M ∧ (slotsB l c = true → M.map (·.1) = slotsV l c) ∧ Below w.heap.size w w' := by
  have HSl : Hid (∀ (n : Nat) w', (n : Int) < c.cpus → Below w.heap.size w w' → Calls Try.prog 48 #[.agg (c.vw u), .int .i64 n] w' (GivesSl2 w' (slR l c n))) := Lib.hid (fun n w' hn h' => pSlot _ l c hw ho hl hy n (by omega) hn w' (hu.below h'))
  obtain ⟨o1, o2⟩ : 1 ≤ c.cpus ∧ c.cpus ≤ 8 := ho.1
  obtain ⟨ao, cap, rfl, _, _⟩ := hu.form
  have HNO : Hid (∀ n : Nat, (n : Int) < c.cpus → slotE l c n = false → slotsB l c = false) := Lib.hid (fun n hn he => allB_no (k := n) (by omega) he)
  have HYES : Hid ((∀ n : Nat, (n : Int) < c.cpus → slotE l c n = true) → slotsB l c = true) := Lib.hid (fun h => allB_iff.2 fun i hi => h i (by omega))
  have HVV : Hid (slotsV l c = (List.range c.cpus.toNat).map (fun j : Nat => slotV l c (j : Int))) := Lib.hid rfl
  generalize slotsV l c = VV at *
  generalize slotsB l c = BB at *
  obtain ⟨m, hm⟩ : ∃ m, c.cpus = m := ⟨_, rfl⟩
  rw [hm] at HSl o1 o2 HNO HYES HVV ⊢
  clear hw ho hl hy hu hm
  go_enter Try.func47, Try.ntmps47
  go_wp2
  go_loopw [6, 11] (fun v i wr => ∃ (n : Nat) (ao1 : Option Addr) (m1 cp1 : Nat) (M : List SlV), i = .int .i64 n ∧ v = .slice ao1 m1 cp1 ∧ (n : Int) ≤ m ∧ Hid (∀ j : Nat, j < n → slotE l c j = true) ∧ Hid (OwnSl w.heap.size wr (.slice ao1 m1 cp1) M ∧ M.map (·.1) = (List.range n).map (fun j : Nat => slotV l c (j : Int)) ∧ Below w.heap.size w wr)) (fun _ i _ => m.toNat - (intOf i).toNat)
  case atStart => exact ⟨0, none, 0, 0, [], rfl, rfl, by omega, Lib.hid (fun j hj => by omega), Lib.hid ⟨OwnSl.nil _ _, rfl, Below.refl _ _⟩⟩
  case round =>
    obtain ⟨n, ao1, m1, cp1, M, rfl, rfl, hn, HOK, HX⟩ := hrel
    by_cases hlt : (n : Int) < m
    · have HLT := Lib.hid hlt
      have hM := HSl.out n wr hlt HX.out.2.2
      cases he : slotE l c n with
      | false =>
        rw [show slR l c n = (zSl, 150) by unfold slR; rw [he]; rfl] at hM
        have HM := Lib.hid hM
        obtain rfl := HNO.out n hlt he
        clear hM he HNO HYES
        go_wp2_with fail
        refine HM.out.mono ?_
        rintro e w5 ⟨U, V, rfl, hoU, hoV, hb5⟩
        obtain ⟨a5, n5, p5, rfl⟩ := hoU.slice
        obtain ⟨a6, n6, p6, rfl⟩ := hoV.slice
        have HB5 := Lib.hid (below_then HX.out.2.2 hb5)
        clear hoU hoV hb5 HM HX
        go_wp2_with (refine wpList_storeR rtSlot (by rfl) _ _ (by rfl) w5.heap.size #[.int .i64 zSl.slab, .slice a5 n5 p5, .int .u64 zSl.turn, .slice a6 n6 p6] (by rfl) (by rfl) (by rfl) (by simp [Value.oneCell']) _ (heap_new w5 sl0) rfl ?_; intro w6 h6 k6; refine Stop.mk ?_)
        unfold Stop
        have HB6 := Lib.hid (below_then HB5.out (below_one_kept (below_one (Below.refl w5.heap.size w5) sl0) k6 (Nat.le_refl _)))
        clear h6 k6 HB5
        go_wp2
        try rw [Exit.noGoto_ret]
        go_ret2
        exact ⟨_, [], rfl, OwnSl.nil _ _, fun e => (by first | cases e | exact absurd e (by decide)), HB6.out⟩
      | true =>
        rw [show slR l c n = (slotV l c n, 0) by unfold slR; rw [he]; rfl] at hM
        have hrange := map_range_succ (fun j : Nat => slotV l c (j : Int)) n
        generalize hsv : slotV l c n = sv at hM hrange
        have HRG := Lib.hid hrange
        have HM := Lib.hid hM
        have HOK2 : Hid (∀ j : Nat, j < n + 1 → slotE l c j = true) := Lib.hid (fun j hj => by
          by_cases e : j = n
          · subst e; exact he
          · exact HOK.out j (by omega))
        have hml : M.length = n := by
          have := congrArg List.length HX.out.2.1
          simpa using this
        have hlen : M.length ≤ 1000 := by rw [hml]; omega
        clear hM he hrange hsv HOK hml
        go_wp2_with fail
        refine HM.out.mono ?_
        rintro e w5 ⟨U, V, rfl, hoU, hoV, hb5⟩
        obtain ⟨a5, n5, p5, rfl⟩ := hoU.slice
        obtain ⟨a6, n6, p6, rfl⟩ := hoV.slice
        have HX5 := Lib.hid (And.intro (HX.out.1.below hb5) (And.intro HX.out.2.1 (below_then HX.out.2.2 hb5)))
        have HO5 := Lib.hid (And.intro (OwnI.le hoU HX.out.2.2.size) (OwnI.le hoV HX.out.2.2.size))
        clear hoU hoV hb5 HM HX
        go_wp2_with (refine wpList_storeR rtSlot (by rfl) _ _ (by rfl) w5.heap.size #[.int .i64 sv.slab, .slice a5 n5 p5, .int .u64 sv.turn, .slice a6 n6 p6] (by rfl) (by rfl) (by rfl) (by simp [Value.oneCell']) _ (heap_new w5 sl0) rfl ?_; intro w6 h6 k6; refine Stop.mk ?_)
        unfold Stop
        have hb6 := below_one_kept (below_one (Below.refl w5.heap.size w5) sl0) k6 (Nat.le_refl _)
        have HX6 := Lib.hid (And.intro (HX5.out.1.below hb6) (And.intro HX5.out.2.1 (below_then HX5.out.2.2 hb6)))
        have HO6 := Lib.hid (And.intro (HO5.out.1.below hb6) (HO5.out.2.below hb6))
        have c0 := BlkAt.cell h6 (j := 0) rfl
        have c1 := BlkAt.cell h6 (j := 1) rfl
        have c2 := BlkAt.cell h6 (j := 2) rfl
        have c3 := BlkAt.cell h6 (j := 3) rfl
        have hsz6 := HX6.out.2.2.size
        clear h6 k6 hb6 HX5 HO5
        go_wp2_with (at_builtin; refine wpList_appendSl (by rfl) _ _ (by rfl) w.heap.size (.slice ao1 m1 cp1) M (sv, .slice a5 n5 p5, .slice a6 n6 p6) (by rfl) (by rfl) HX6.out.1 HO6.out hlen hsz6 ?_; intro ao7 cp7 w7 ho7 hkt7 hb7; refine Stop.mk ?_)
        unfold Stop
        have HX8 : Hid (OwnSl w.heap.size w7 (.slice ao7 (M.length + 1) cp7) (M ++ [(sv, .slice a5 n5 p5, .slice a6 n6 p6)]) ∧ (M ++ [((sv, Value.slice a5 n5 p5, Value.slice a6 n6 p6) : SlV)]).map (·.1) = (List.range (n + 1)).map (fun j : Nat => slotV l c (j : Int)) ∧ Below w.heap.size w w7) := Lib.hid ⟨ho7, by rw [← HRG.out, ← HX6.out.2.1, List.map_append]; rfl, HX6.out.2.2.trans hb7⟩
        clear ho7 hkt7 hb7 HX6 HO6 c0 c1 c2 c3 hsz6 HRG
        go_wp2
        go_roundw
        case rel => exact ⟨n + 1, ao7, M.length + 1, cp7, _, by go_num, rfl, by omega, HOK2, HX8⟩
        case measure => simp [intOf]; omega
    · have hnc : n = m.toNat := by omega
      obtain rfl := HYES.out (fun j hj => HOK.out j (by omega))
      have HQ : Hid (M.map (·.1) = VV) := Lib.hid (by rw [HX.out.2.1, HVV.out, hnc])
      clear HOK HNO HYES
      go_wp2
      go_ret2
      first | exact ⟨_, M, rfl, HX.out.1, fun _ => HQ.out, HX.out.2.2⟩ | exact ⟨_, rfl, M, HX.out.1, fun _ => HQ.out, HX.out.2.2⟩ | exact ⟨_, rfl, M, HX.out.1, HQ.out, HX.out.2.2⟩
set_option maxHeartbeats 8000000 in
set_option maxRecDepth 100000 in
theorem pEachSb (u : Value) (l : List Int) (c : Ch) (hw : c.wf) (ho : c.ok) (hl : (l.length : Int) = c.n) (hy : Wordy l) (w : World) (hu : ShowU w u l) :
    Calls Try.prog 50 #[.int .i64 c.slabs, .func (.func 51) #[.agg (c.vw u)] #[]] w fun e w' => ∃ (v : Value) (M : List SbV), e = .returned (.tuple #[v, .bool (slabsB l c)]) ∧ OwnSb w.heap.size w' v M ∧ (slabsB l c = true → M.map (·.1) = slabsV l c) ∧ Below w.heap.size w w' := by
  have HSl : Hid (∀ (n : Nat) w', (n : Int) < c.slabs → Below w.heap.size w w' → Calls Try.prog 51 #[.agg (c.vw u), .int .i64 n] w' (GivesSb2 w' (sbR l c n))) := Lib.hid (fun n w' hn h' => pSlab _ l c hw ho hl hy n (by omega) hn w' (hu.below h'))
  obtain ⟨o1, o2⟩ : 1 ≤ c.slabs ∧ c.slabs ≤ 32 := ho.2.1
  obtain ⟨ao, cap, rfl, _, _⟩ := hu.form
  have HNO : Hid (∀ n : Nat, (n : Int) < c.slabs → slabE l c n = false → slabsB l c = false) := Lib.hid (fun n hn he => allB_no (k := n) (by omega) he)
  have HYES : Hid ((∀ n : Nat, (n : Int) < c.slabs → slabE l c n = true) → slabsB l c = true) := Lib.hid (fun h => allB_iff.2 fun i hi => h i (by omega))
  have HVV : Hid (slabsV l c = (List.range c.slabs.toNat).map (fun j : Nat => slabV l c (j : Int))) := Lib.hid rfl
  generalize slabsV l c = VV at *
  generalize slabsB l c = BB at *
  obtain ⟨m, hm⟩ : ∃ m, c.slabs = m := ⟨_, rfl⟩
  rw [hm] at HSl o1 o2 HNO HYES HVV ⊢
  clear hw ho hl hy hu hm
  go_enter Try.func50, Try.ntmps50
  go_wp2
  go_loopw [6, 11] (fun v i wr => ∃ (n : Nat) (ao1 : Option Addr) (m1 cp1 : Nat) (M : List SbV), i = .int .i64 n ∧ v = .slice ao1 m1 cp1 ∧ (n : Int) ≤ m ∧ Hid (∀ j : Nat, j < n → slabE l c j = true) ∧ Hid (OwnSb w.heap.size wr (.slice ao1 m1 cp1) M ∧ M.map (·.1) = (List.range n).map (fun j : Nat => slabV l c (j : Int)) ∧ Below w.heap.size w wr)) (fun _ i _ => m.toNat - (intOf i).toNat)
  case atStart => exact ⟨0, none, 0, 0, [], rfl, rfl, by omega, Lib.hid (fun j hj => by omega), Lib.hid ⟨OwnSb.nil _ _, rfl, Below.refl _ _⟩⟩
  case round =>
    obtain ⟨n, ao1, m1, cp1, M, rfl, rfl, hn, HOK, HX⟩ := hrel
    by_cases hlt : (n : Int) < m
    · have HLT := Lib.hid hlt
      have hM := HSl.out n wr hlt HX.out.2.2
      cases he : slabE l c n with
      | false =>
        rw [show sbR l c n = (zSb, 150) by unfold sbR; rw [he]; rfl] at hM
        have HM := Lib.hid hM
        obtain rfl := HNO.out n hlt he
        clear hM he HNO HYES
        go_wp2_with fail
        refine HM.out.mono ?_
        rintro e w5 ⟨U, rfl, hoU, hb5⟩
        obtain ⟨a5, n5, p5, rfl⟩ := hoU.slice
        have HB5 := Lib.hid (below_then HX.out.2.2 hb5)
        clear hoU hb5 HM HX
        go_wp2_with (refine wpList_storeR rtSlab (by rfl) _ _ (by rfl) w5.heap.size #[.int .i64 zSb.ct.i, .int .i64 zSb.ct.n, .bool zSb.ct.f, .bool zSb.ct.l, .slice a5 n5 p5] (by rfl) (by rfl) (by rfl) (by simp [Value.oneCell']) _ (heap_new w5 sb0) rfl ?_; intro w6 h6 k6; refine Stop.mk ?_)
        unfold Stop
        have HB6 := Lib.hid (below_then HB5.out (below_one_kept (below_one (Below.refl w5.heap.size w5) sb0) k6 (Nat.le_refl _)))
        clear h6 k6 HB5
        go_wp2
        try rw [Exit.noGoto_ret]
        go_ret2
        exact ⟨_, [], rfl, OwnSb.nil _ _, fun e => (by first | cases e | exact absurd e (by decide)), HB6.out⟩
      | true =>
        rw [show sbR l c n = (slabV l c n, 0) by unfold sbR; rw [he]; rfl] at hM
        have hrange := map_range_succ (fun j : Nat => slabV l c (j : Int)) n
        generalize hsv : slabV l c n = sv at hM hrange
        have HRG := Lib.hid hrange
        have HM := Lib.hid hM
        have HOK2 : Hid (∀ j : Nat, j < n + 1 → slabE l c j = true) := Lib.hid (fun j hj => by
          by_cases e : j = n
          · subst e; exact he
          · exact HOK.out j (by omega))
        have hml : M.length = n := by
          have := congrArg List.length HX.out.2.1
          simpa using this
        have hlen : M.length ≤ 1000 := by rw [hml]; omega
        clear hM he hrange hsv HOK hml
        go_wp2_with fail
        refine HM.out.mono ?_
        rintro e w5 ⟨U, rfl, hoU, hb5⟩
        obtain ⟨a5, n5, p5, rfl⟩ := hoU.slice
        have HX5 := Lib.hid (And.intro (HX.out.1.below hb5) (And.intro HX.out.2.1 (below_then HX.out.2.2 hb5)))
        have HO5 := Lib.hid (OwnI.le hoU HX.out.2.2.size)
        clear hoU hb5 HM HX
        go_wp2_with (refine wpList_storeR rtSlab (by rfl) _ _ (by rfl) w5.heap.size #[.int .i64 sv.ct.i, .int .i64 sv.ct.n, .bool sv.ct.f, .bool sv.ct.l, .slice a5 n5 p5] (by rfl) (by rfl) (by rfl) (by simp [Value.oneCell']) _ (heap_new w5 sb0) rfl ?_; intro w6 h6 k6; refine Stop.mk ?_)
        unfold Stop
        have hb6 := below_one_kept (below_one (Below.refl w5.heap.size w5) sb0) k6 (Nat.le_refl _)
        have HX6 := Lib.hid (And.intro (HX5.out.1.below hb6) (And.intro HX5.out.2.1 (below_then HX5.out.2.2 hb6)))
        have HO6 := Lib.hid (HO5.out.below hb6)
        have c0 := BlkAt.cell h6 (j := 0) rfl
        have c1 := BlkAt.cell h6 (j := 1) rfl
        have c2 := BlkAt.cell h6 (j := 2) rfl
        have c3 := BlkAt.cell h6 (j := 3) rfl
        have c4 := BlkAt.cell h6 (j := 4) rfl
        have hsz6 := HX6.out.2.2.size
        clear h6 k6 hb6 HX5 HO5
        go_wp2_with (at_builtin; refine wpList_appendSb (by rfl) _ _ (by rfl) w.heap.size (.slice ao1 m1 cp1) M (sv, .slice a5 n5 p5) (by rfl) (by rfl) HX6.out.1 HO6.out hlen hsz6 ?_; intro ao7 cp7 w7 ho7 hkt7 hb7; refine Stop.mk ?_)
        unfold Stop
        have HX8 : Hid (OwnSb w.heap.size w7 (.slice ao7 (M.length + 1) cp7) (M ++ [(sv, .slice a5 n5 p5)]) ∧ (M ++ [((sv, Value.slice a5 n5 p5) : SbV)]).map (·.1) = (List.range (n + 1)).map (fun j : Nat => slabV l c (j : Int)) ∧ Below w.heap.size w w7) := Lib.hid ⟨ho7, by rw [← HRG.out, ← HX6.out.2.1, List.map_append]; rfl, HX6.out.2.2.trans hb7⟩
        clear ho7 hkt7 hb7 HX6 HO6 c0 c1 c2 c3 c4 hsz6 HRG
        go_wp2
        go_roundw
        case rel => exact ⟨n + 1, ao7, M.length + 1, cp7, _, by go_num, rfl, by omega, HOK2, HX8⟩
        case measure => simp [intOf]; omega
    · have hnc : n = m.toNat := by omega
      obtain rfl := HYES.out (fun j hj => HOK.out j (by omega))
      have HQ : Hid (M.map (·.1) = VV) := Lib.hid (by rw [HX.out.2.1, HVV.out, hnc])
      clear HOK HNO HYES
      go_wp2
      go_ret2
      first | exact ⟨_, M, rfl, HX.out.1, fun _ => HQ.out, HX.out.2.2⟩ | exact ⟨_, rfl, M, HX.out.1, fun _ => HQ.out, HX.out.2.2⟩ | exact ⟨_, rfl, M, HX.out.1, HQ.out, HX.out.2.2⟩
end Go.Proofs.Ytnnfmlbgoplnaaa
