/-
  Same of the document's answers and same of the statements: whether two scripts are the same.
-/
import Derived.Test.YtifkkblmcdggmaaSmall
set_option linter.unusedVariables false
set_option linter.unusedSimpArgs false
namespace Go.Proofs.Ytifkkblmcdggmaa
open Go Go.RowKit

theorem heap_low2 (w : World) (o o' : Obj) : ((w.alloc o).alloc o').heap[w.heap.size]? = some o := by
  rw [Below.heap_alloc _ _ _ (by rw [size_alloc]; omega)]
  exact heap_new w o
theorem drewN_drewN (w : World) (a b : Nat) : (w.drewN a).drewN b = w.drewN (a + b) := by
  unfold World.drewN
  simp [Nat.add_assoc]

set_option maxHeartbeats 8000000 in
set_option maxRecDepth 100000 in
theorem csame (u v : Value) (A B : Scr) (w : World) (hu : ShowScr w u A) (hv : ShowScr w v B) :
    Calls Try.prog 20 #[u, v] w fun e w' => e = .returned (.bool (decide (A = B))) ∧ Below w.heap.size w w' := by
  obtain ⟨va, vpa, rfl, hla, hpa⟩ := hu
  obtain ⟨vb, vpb, rfl, hlb, hpb⟩ := hv
  obtain ⟨ca, pa, La, Pa⟩ := A
  obtain ⟨cb, pb, Lb, Pb⟩ := B
  dsimp only at hla hpa hlb hpb ⊢
  obtain ⟨ao, cap, rfl, hcap, hat⟩ := hla.form
  obtain ⟨bo, cbp, rfl, hcbp, hbt⟩ := hlb.form
  obtain ⟨apo, capp, rfl, hcapp, _⟩ := hpa.form
  obtain ⟨bpo, cbpp, rfl, hcbpp, _⟩ := hpb.form
  clear hla hlb
  have hb0 : ∀ o o', Below w.heap.size w ((w.alloc o).alloc o') := fun o o' => below_one (below_one (Below.refl _ _) o) o'
  by_cases hc : ca = cb
  rotate_left
  · have hne : (ca != cb) = true := by simpa using hc
    have HN : Hid (¬ (⟨ca, pa, La, Pa⟩ : Scr) = ⟨cb, pb, Lb, Pb⟩) := Lib.hid (fun e => hc (by injection e))
    go_enter Try.func20, Try.ntmps20
    go_wp2
    go_ret
    exact ⟨ret_bool (by rw [decide_eq_false HN.out]), hb0 _ _⟩
  subst hc
  by_cases hc : pa = pb
  rotate_left
  · have hne : (pa != pb) = true := by simpa using hc
    have HN : Hid (¬ (⟨ca, pa, La, Pa⟩ : Scr) = ⟨ca, pb, Lb, Pb⟩) := Lib.hid (fun e => hc (by injection e))
    go_enter Try.func20, Try.ntmps20
    go_wp2
    go_ret
    exact ⟨ret_bool (by rw [decide_eq_false HN.out]), hb0 _ _⟩
  subst hc
  by_cases hc : La.length = Lb.length
  rotate_left
  · have hne : ((La.length : Int) != (Lb.length : Int)) = true := by simp; omega
    have HN : Hid (¬ (⟨ca, pa, La, Pa⟩ : Scr) = ⟨ca, pa, Lb, Pb⟩) := Lib.hid (fun e => hc (by injection e with _ _ e _; rw [e]))
    go_enter Try.func20, Try.ntmps20
    go_wp2
    go_ret
    exact ⟨ret_bool (by rw [decide_eq_false HN.out]), hb0 _ _⟩
  have hne : ((La.length : Int) != (Lb.length : Int)) = false := by simp [hc]
  have hl1 : La.length ≤ Lb.length := by omega
  have hl2 : Lb.length ≤ La.length := by omega
  have HLE := Lib.hid hc
  clear hc
  obtain ⟨q, hq⟩ : ∃ q, decide (Pa = Pb) = q := ⟨_, rfl⟩
  have HQ := Lib.hid hq
  clear hq
  go_enter Try.func20, Try.ntmps20
  go_wp2_with fail
  refine (cEqInts _ _ Pa Pb _ (hpa.below (hb0 _ _)) (hpb.below (hb0 _ _))).mono ?_
  rintro e w1 ⟨rfl, hb1⟩
  rw [HQ.out]
  have hbw := below_then (hb0 _ _) hb1
  have hbx := hb1
  rw [size_alloc, size_alloc] at hbx
  cases q
  · go_wp2
    go_ret
    have HN : ¬ (⟨ca, pa, La, Pa⟩ : Scr) = ⟨ca, pa, Lb, Pb⟩ := fun e => of_decide_eq_false HQ.out (by injection e)
    exact ⟨ret_bool (by rw [decide_eq_false HN]), hbw⟩
  have HP : Hid (Pa = Pb) := Lib.hid (of_decide_eq_true HQ.out)
  clear hb1 HQ
  go_wp2
  go_loopw [5] (fun i wr => ∃ k : Nat, k ≤ La.length ∧ i = .int .i64 k ∧ La.take k = Lb.take k ∧ Below w.heap.size w wr ∧ Below (w.heap.size + 1 + 1) w1 wr) (fun i _ => La.length - (intOf i).toNat)
  case atStart => exact ⟨0, by omega, rfl, rfl, hbw, Below.refl _ _⟩
  case round =>
    obtain ⟨k, hk, rfl, htk, hb, hb2⟩ := hrel
    have HT := Lib.hid htk
    clear htk
    have hs1 := ((hb2.block w.heap.size (by omega)).trans (hbx.block w.heap.size (by omega))).trans (heap_low2 _ _ _)
    have hs2 := ((hb2.block (w.heap.size + 1) (by omega)).trans (hbx.block (w.heap.size + 1) (by omega))).trans (heap_new2 _ _ _)
    obtain ⟨_, _, a2, _⟩ := self4 hs1
    obtain ⟨_, _, b2, _⟩ := self4 hs2
    by_cases hlt : k < La.length
    · have hlb : k < Lb.length := by omega
      obtain ⟨ba, oa, ua, rfl, hua, hca⟩ := hat k hlt
      obtain ⟨bb, ob, ub, rfl, hub, hcb⟩ := hbt k hlb
      have dua := (hb.cell (p := ⟨ba, oa + k, none⟩) (World.block_lt_of_cell? w _ hua)).trans hua
      have dub := (hb.cell (p := ⟨bb, ob + k, none⟩) (World.block_lt_of_cell? w _ hub)).trans hub
      have hca := hca.below hb
      have hcb := hcb.below hb
      clear hua hub
      have HS : Hid (La[k] = Lb[k] → La.take (k + 1) = Lb.take (k + 1)) := Lib.hid (take_eq_succ La Lb k hlt hlb HT.out)
      have HN : Hid (La[k] ≠ Lb[k] → ¬ (⟨ca, pa, La, Pa⟩ : Scr) = ⟨ca, pa, Lb, Pb⟩) := Lib.hid (fun h e => ne_of_at La Lb k hlt hlb h (by injection e))
      generalize La[k] = la at hca HS HN
      generalize Lb[k] = lb at hcb HS HN
      obtain ⟨xa, xac, rfl, hxac, hxa⟩ := hca.form
      obtain ⟨xb, xbc, rfl, hxbc, hxb⟩ := hcb.form
      clear hca hcb
      by_cases hll : la.length = lb.length
      rotate_left
      · have hne2 : ((la.length : Int) != (lb.length : Int)) = true := by simp; omega
        have HN2 := Lib.hid (HN.out (fun e => hll (by rw [e])))
        clear HS HN
        go_wp2
        go_quiet (fail)
        go_wp2
        go_ret
        exact ⟨ret_bool (by rw [decide_eq_false HN2.out]), below_drewN hb _⟩
      have hne2 : ((la.length : Int) != (lb.length : Int)) = false := by simp [hll]
      have hm1 : la.length ≤ lb.length := by omega
      have hm2 : lb.length ≤ la.length := by omega
      have HLL := Lib.hid hll
      clear hll
      go_wp2
      go_quiet (fail)
      go_wp2
      go_loopw [6] (fun i wr' => ∃ j m : Nat, j ≤ la.length ∧ i = .int .i64 j ∧ la.take j = lb.take j ∧ wr' = wr.drewN m) (fun i _ => la.length - (intOf i).toNat)
      case atStart => exact ⟨0, _, by omega, rfl, rfl, rfl⟩
      case round =>
        obtain ⟨j, m, hj, rfl, htj, rfl⟩ := hrel
        have HTJ := Lib.hid htj
        clear htj
        by_cases hjl : j < la.length
        · have hjb : j < lb.length := by omega
          obtain ⟨b1, o1, rfl, p0, p1, p2, p3⟩ := hxa j hjl
          obtain ⟨b2, o2, rfl, q0, q1, q2, q3⟩ := hxb j hjb
          have HS1 : Hid (la[j] = lb[j] → la.take (j + 1) = lb.take (j + 1)) := Lib.hid (take_eq_succ la lb j hjl hjb HTJ.out)
          have HN1 : Hid (la[j] ≠ lb[j] → ¬ (⟨ca, pa, La, Pa⟩ : Scr) = ⟨ca, pa, Lb, Pb⟩) := Lib.hid (fun h => HN.out (ne_of_at la lb j hjl hjb h))
          generalize la[j] = c at p0 p1 p2 p3 HS1 HN1
          generalize lb[j] = d at q0 q1 q2 q3 HS1 HN1
          by_cases hcd : c = d
          · have heq : ∀ w', (Op.equalIn 10000 44 (.agg #[.int .i64 c.op, .int .i64 c.a, .int .i64 c.b, .int .i64 c.c]) (.agg #[.int .i64 d.op, .int .i64 d.a, .int .i64 d.b, .int .i64 d.c])).run Try.prog w' = .ok true w' := fun w' => eqinIs (decide_eq_true hcd)
            have HS2 := Lib.hid (HS1.out hcd)
            have hgd := guard44
            clear hcd HS1 HN1
            go_wp2
            go_quiet (fail)
            go_wp2
            go_roundw
            case rel => exact ⟨j + 1, _, by omega, by go_num, HS2.out, rfl⟩
            case measure => simp [intOf]; omega
          · have heq : ∀ w', (Op.equalIn 10000 44 (.agg #[.int .i64 c.op, .int .i64 c.a, .int .i64 c.b, .int .i64 c.c]) (.agg #[.int .i64 d.op, .int .i64 d.a, .int .i64 d.b, .int .i64 d.c])).run Try.prog w' = .ok false w' := fun w' => eqinIs (decide_eq_false hcd)
            have HN2 := Lib.hid (HN1.out hcd)
            have hgd := guard44
            clear hcd HS1 HN1
            go_wp2
            go_quiet (fail)
            go_wp2
            go_ret
            exact ⟨ret_bool (by rw [decide_eq_false HN2.out]), below_drewN (below_drewN hb _) _⟩
        · have hje : j = la.length := by omega
          subst hje
          have HE : Hid (la = lb) := Lib.hid (by have := HTJ.out; rwa [List.take_length, HLL.out, List.take_length] at this)
          have HS1 := Lib.hid (HS.out HE.out)
          clear HS HN
          go_wp2
          go_roundw
          case rel => exact ⟨k + 1, by omega, by go_num, HS1.out, below_drewN hb _, below_drewN hb2 _⟩
          case measure => simp [intOf]; omega
    · have hke : k = La.length := by omega
      subst hke
      have HE : Hid (La = Lb) := Lib.hid (by have := HT.out; rwa [List.take_length, HLE.out, List.take_length] at this)
      go_wp2
      go_ret
      exact ⟨ret_bool (by rw [HE.out, HP.out]; simp), hb⟩

set_option maxHeartbeats 8000000 in
set_option maxRecDepth 100000 in
theorem cSame (u v : Value) (A B : Scr) (w : World) (hu : ShowScr w u A) (hv : ShowScr w v B) :
    Calls Try.prog 15 #[u, v] w fun e w' => e = .returned (.bool (decide (A = B))) ∧ Below w.heap.size w w' := by
  obtain ⟨va, vpa, rfl, hla, hpa⟩ := hu
  obtain ⟨vb, vpb, rfl, hlb, hpb⟩ := hv
  obtain ⟨ca, pa, La, Pa⟩ := A
  obtain ⟨cb, pb, Lb, Pb⟩ := B
  dsimp only at hla hpa hlb hpb ⊢
  obtain ⟨ao, cap, rfl, hcap, hat⟩ := hla.form
  obtain ⟨bo, cbp, rfl, hcbp, hbt⟩ := hlb.form
  obtain ⟨apo, capp, rfl, hcapp, _⟩ := hpa.form
  obtain ⟨bpo, cbpp, rfl, hcbpp, _⟩ := hpb.form
  clear hla hlb
  have hb0 : ∀ o o', Below w.heap.size w ((w.alloc o).alloc o') := fun o o' => below_one (below_one (Below.refl _ _) o) o'
  by_cases hc : ca = cb
  rotate_left
  · have hne : (ca != cb) = true := by simpa using hc
    have HN : Hid (¬ (⟨ca, pa, La, Pa⟩ : Scr) = ⟨cb, pb, Lb, Pb⟩) := Lib.hid (fun e => hc (by injection e))
    go_enter Try.func15, Try.ntmps15
    go_wp2
    go_ret
    exact ⟨ret_bool (by rw [decide_eq_false HN.out]), hb0 _ _⟩
  subst hc
  by_cases hc : pa = pb
  rotate_left
  · have hne : (pa != pb) = true := by simpa using hc
    have HN : Hid (¬ (⟨ca, pa, La, Pa⟩ : Scr) = ⟨ca, pb, Lb, Pb⟩) := Lib.hid (fun e => hc (by injection e))
    go_enter Try.func15, Try.ntmps15
    go_wp2
    go_ret
    exact ⟨ret_bool (by rw [decide_eq_false HN.out]), hb0 _ _⟩
  subst hc
  by_cases hc : La.length = Lb.length
  rotate_left
  · have hne : ((La.length : Int) != (Lb.length : Int)) = true := by simp; omega
    have HN : Hid (¬ (⟨ca, pa, La, Pa⟩ : Scr) = ⟨ca, pa, Lb, Pb⟩) := Lib.hid (fun e => hc (by injection e with _ _ e _; rw [e]))
    go_enter Try.func15, Try.ntmps15
    go_wp2
    go_ret
    exact ⟨ret_bool (by rw [decide_eq_false HN.out]), hb0 _ _⟩
  have hne : ((La.length : Int) != (Lb.length : Int)) = false := by simp [hc]
  have hl1 : La.length ≤ Lb.length := by omega
  have hl2 : Lb.length ≤ La.length := by omega
  have HLE := Lib.hid hc
  clear hc
  obtain ⟨q, hq⟩ : ∃ q, decide (Pa = Pb) = q := ⟨_, rfl⟩
  have HQ := Lib.hid hq
  clear hq
  go_enter Try.func15, Try.ntmps15
  go_wp2_with fail
  refine (cEqInts _ _ Pa Pb _ (hpa.below (hb0 _ _)) (hpb.below (hb0 _ _))).mono ?_
  rintro e w1 ⟨rfl, hb1⟩
  rw [HQ.out]
  have hbw := below_then (hb0 _ _) hb1
  have hbx := hb1
  rw [size_alloc, size_alloc] at hbx
  cases q
  · go_wp2
    go_ret
    have HN : ¬ (⟨ca, pa, La, Pa⟩ : Scr) = ⟨ca, pa, Lb, Pb⟩ := fun e => of_decide_eq_false HQ.out (by injection e)
    exact ⟨ret_bool (by rw [decide_eq_false HN]), hbw⟩
  have HP : Hid (Pa = Pb) := Lib.hid (of_decide_eq_true HQ.out)
  clear hb1 HQ
  go_wp2
  go_loopw [5] (fun i wr => ∃ k : Nat, k ≤ La.length ∧ i = .int .i64 k ∧ La.take k = Lb.take k ∧ Below w.heap.size w wr ∧ Below (w.heap.size + 1 + 1) w1 wr) (fun i _ => La.length - (intOf i).toNat)
  case atStart => exact ⟨0, by omega, rfl, rfl, hbw, Below.refl _ _⟩
  case round =>
    obtain ⟨k, hk, rfl, htk, hb, hb2⟩ := hrel
    have HT := Lib.hid htk
    clear htk
    have hs1 := ((hb2.block w.heap.size (by omega)).trans (hbx.block w.heap.size (by omega))).trans (heap_low2 _ _ _)
    have hs2 := ((hb2.block (w.heap.size + 1) (by omega)).trans (hbx.block (w.heap.size + 1) (by omega))).trans (heap_new2 _ _ _)
    obtain ⟨_, _, a2, _⟩ := self4 hs1
    obtain ⟨_, _, b2, _⟩ := self4 hs2
    by_cases hlt : k < La.length
    · have hlb : k < Lb.length := by omega
      obtain ⟨ba, oa, ua, rfl, hua, hca⟩ := hat k hlt
      obtain ⟨bb, ob, ub, rfl, hub, hcb⟩ := hbt k hlb
      have dua := (hb.cell (p := ⟨ba, oa + k, none⟩) (World.block_lt_of_cell? w _ hua)).trans hua
      have dub := (hb.cell (p := ⟨bb, ob + k, none⟩) (World.block_lt_of_cell? w _ hub)).trans hub
      have hca := hca.below hb
      have hcb := hcb.below hb
      clear hua hub
      have HS : Hid (La[k] = Lb[k] → La.take (k + 1) = Lb.take (k + 1)) := Lib.hid (take_eq_succ La Lb k hlt hlb HT.out)
      have HN : Hid (La[k] ≠ Lb[k] → ¬ (⟨ca, pa, La, Pa⟩ : Scr) = ⟨ca, pa, Lb, Pb⟩) := Lib.hid (fun h e => ne_of_at La Lb k hlt hlb h (by injection e))
      generalize La[k] = la at hca HS HN
      generalize Lb[k] = lb at hcb HS HN
      obtain ⟨xa, xac, rfl, hxac, hxa⟩ := hca.form
      obtain ⟨xb, xbc, rfl, hxbc, hxb⟩ := hcb.form
      clear hca hcb
      by_cases hll : la.length = lb.length
      rotate_left
      · have hne2 : ((la.length : Int) != (lb.length : Int)) = true := by simp; omega
        have HN2 := Lib.hid (HN.out (fun e => hll (by rw [e])))
        clear HS HN
        go_wp2
        go_quiet (fail)
        go_wp2
        go_ret
        exact ⟨ret_bool (by rw [decide_eq_false HN2.out]), below_drewN hb _⟩
      have hne2 : ((la.length : Int) != (lb.length : Int)) = false := by simp [hll]
      have hm1 : la.length ≤ lb.length := by omega
      have hm2 : lb.length ≤ la.length := by omega
      have HLL := Lib.hid hll
      clear hll
      go_wp2
      go_quiet (fail)
      go_wp2
      go_loopw [6] (fun i wr' => ∃ j m : Nat, j ≤ la.length ∧ i = .int .i64 j ∧ la.take j = lb.take j ∧ wr' = wr.drewN m) (fun i _ => la.length - (intOf i).toNat)
      case atStart => exact ⟨0, _, by omega, rfl, rfl, rfl⟩
      case round =>
        obtain ⟨j, m, hj, rfl, htj, rfl⟩ := hrel
        have HTJ := Lib.hid htj
        clear htj
        by_cases hjl : j < la.length
        · have hjb : j < lb.length := by omega
          obtain ⟨b1, o1, rfl, p0, p1, p2, p3⟩ := hxa j hjl
          obtain ⟨b2, o2, rfl, q0, q1, q2, q3⟩ := hxb j hjb
          have HS1 : Hid (la[j] = lb[j] → la.take (j + 1) = lb.take (j + 1)) := Lib.hid (take_eq_succ la lb j hjl hjb HTJ.out)
          have HN1 : Hid (la[j] ≠ lb[j] → ¬ (⟨ca, pa, La, Pa⟩ : Scr) = ⟨ca, pa, Lb, Pb⟩) := Lib.hid (fun h => HN.out (ne_of_at la lb j hjl hjb h))
          generalize la[j] = c at p0 p1 p2 p3 HS1 HN1
          generalize lb[j] = d at q0 q1 q2 q3 HS1 HN1
          by_cases hcd : c = d
          · have heq : ∀ w', (Op.equalIn 10000 44 (.agg #[.int .i64 c.op, .int .i64 c.a, .int .i64 c.b, .int .i64 c.c]) (.agg #[.int .i64 d.op, .int .i64 d.a, .int .i64 d.b, .int .i64 d.c])).run Try.prog w' = .ok true w' := fun w' => eqinIs (decide_eq_true hcd)
            have HS2 := Lib.hid (HS1.out hcd)
            have hgd := guard44
            clear hcd HS1 HN1
            go_wp2
            go_quiet (fail)
            go_wp2
            go_roundw
            case rel => exact ⟨j + 1, _, by omega, by go_num, HS2.out, rfl⟩
            case measure => simp [intOf]; omega
          · have heq : ∀ w', (Op.equalIn 10000 44 (.agg #[.int .i64 c.op, .int .i64 c.a, .int .i64 c.b, .int .i64 c.c]) (.agg #[.int .i64 d.op, .int .i64 d.a, .int .i64 d.b, .int .i64 d.c])).run Try.prog w' = .ok false w' := fun w' => eqinIs (decide_eq_false hcd)
            have HN2 := Lib.hid (HN1.out hcd)
            have hgd := guard44
            clear hcd HS1 HN1
            go_wp2
            go_quiet (fail)
            go_wp2
            go_ret
            exact ⟨ret_bool (by rw [decide_eq_false HN2.out]), below_drewN (below_drewN hb _) _⟩
        · have hje : j = la.length := by omega
          subst hje
          have HE : Hid (la = lb) := Lib.hid (by have := HTJ.out; rwa [List.take_length, HLL.out, List.take_length] at this)
          have HS1 := Lib.hid (HS.out HE.out)
          clear HS HN
          go_wp2
          go_roundw
          case rel => exact ⟨k + 1, by omega, by go_num, HS1.out, below_drewN hb _, below_drewN hb2 _⟩
          case measure => simp [intOf]; omega
    · have hke : k = La.length := by omega
      subst hke
      have HE : Hid (La = Lb) := Lib.hid (by have := HT.out; rwa [List.take_length, HLE.out, List.take_length] at this)
      go_wp2
      go_ret
      exact ⟨ret_bool (by rw [HE.out, HP.out]; simp), hb⟩
end Go.Proofs.Ytifkkblmcdggmaa
