/-
  The document's own Script.
-/
import Derived.Test.YtifkkblmcdggmaaRRead
import Derived.Test.YtifkkblmcdggmaaSame
import Derived.Test.YtifkkblmcdggmaaScript2
set_option linter.unusedVariables false
set_option linter.unusedSimpArgs false
namespace Go.Proofs.Ytifkkblmcdggmaa
open Go Go.RowKit

theorem rr_start {w : World} {ao : Option Addr} {l : List Int} {cap : Nat} (o : Obj) (hcap : l.length ≤ cap ∧ cap ≤ 9223372036854775807)
    (hat : ∀ i (hi : i < l.length), ∃ b o, ao = some ⟨b, o, none⟩ ∧ w.cell? ⟨b, o + i, none⟩ = some (.int .u8 l[i])) :
    RR w.heap.size ((w.alloc o).alloc (.cells #[.slice ao l.length cap, .int .i64 0] 57)) (w.heap.size + 1) l l := by
  refine ⟨by omega, ao, cap, 0, heap_new2 _ _ _, hcap, Nat.zero_le _, rfl, fun j hj => ?_⟩
  obtain ⟨b, o', e, hx⟩ := hat j hj
  have hB := World.block_lt_of_cell? w _ hx
  have hb : Below w.heap.size w ((w.alloc o).alloc (.cells #[.slice ao l.length cap, .int .i64 0] 57)) := below_one (below_one (Below.refl _ _) _) _
  exact ⟨b, o', e, hB, (hb.cell (p := ⟨b, o' + j, none⟩) hB).trans hx⟩
theorem SelfIs.set1 {w : World} {K : Nat} {cpus pages : Int} {vc vp : Value} (h : SelfIs w K cpus pages vc vp) (u : Int) : SelfIs (w.setCell ⟨K, 1, none⟩ (.int .i64 u)) K cpus u vc vp := cells_set h 1 _
theorem rres : Try.f19.results = #[.cell 2 25] := rfl
/-- how many picks s has, at block K -/
def picksLen (w : World) (K : Nat) : Nat := match w.cell? ⟨K, 3, none⟩ with | some (.slice _ n _) => n | _ => 0
/-- a call that is being read, at block K -/
def CallIs (w : World) (K : Nat) (a b c d : Int) : Prop := w.heap[K]? = some (.cells #[.int .i64 a, .int .i64 b, .int .i64 c, .int .i64 d] 44 (0, 0))
theorem CallIs.grown {w w' : World} {K k : Nat} {a b c d : Int} (h : CallIs w K a b c d) (g : w.grownBy w' (some k)) (hne : K ≠ k) : CallIs w' K a b c d := (g.block K (lt_of_block h) (fun e => hne (Option.some.inj e))).trans h
theorem CallIs.set1 {w : World} {K : Nat} {a b c d : Int} (h : CallIs w K a b c d) (u : Int) : CallIs (w.setCell ⟨K, 1, none⟩ (.int .i64 u)) K a u c d := cells_set h 1 _
theorem CallIs.set2 {w : World} {K : Nat} {a b c d : Int} (h : CallIs w K a b c d) (u : Int) : CallIs (w.setCell ⟨K, 2, none⟩ (.int .i64 u)) K a b u d := cells_set h 2 _
theorem CallIs.set3 {w : World} {K : Nat} {a b c d : Int} (h : CallIs w K a b c d) (u : Int) : CallIs (w.setCell ⟨K, 3, none⟩ (.int .i64 u)) K a b c u := cells_set h 3 _
/-- what stands while a list is being read: the list so far, the reader, that the rest lies as it lay -/
structure Inner (B k : Nat) (l r : List Int) (wa w : World) (v : Value) (L : List Cl) : Prop where
  own : OwnCalls wa.heap.size w v L
  rd : RR B w k l r
  fr : wa.grownBy w (some k)
theorem Inner.lt {B k : Nat} {l r : List Int} {wa w : World} {v : Value} {L : List Cl} (h : Inner B k l r wa w v L) : ∀ i, v.ownBlock = some i → wa.heap.size ≤ i ∧ i < w.heap.size := fun i hi => World.ownsRow.lt h.own i hi
theorem Inner.step {B k : Nat} {l r r' : List Int} {wa w w' : World} {v : Value} {L : List Cl} (h : Inner B k l r wa w v L) (hr : RR B w' k l r') (g : w.grownBy w' (some k)) (hk : k < wa.heap.size) : Inner B k l r' wa w' v L :=
  ⟨kept_grown h.own g hk, hr, grown_trans h.fr g⟩
theorem Inner.alloc {B k : Nat} {l r : List Int} {wa w : World} {v : Value} {L : List Cl} (h : Inner B k l r wa w v L) (o : Obj) : Inner B k l r wa (w.alloc o) v L :=
  ⟨World.ownsRow.alloc h.own o, h.rd.alloc o, grown_alloc h.fr o⟩
theorem Inner.set {B k : Nat} {l r : List Int} {wa w : World} {v : Value} {L : List Cl} (h : Inner B k l r wa w v L) {K : Nat} (hK : wa.heap.size ≤ K) (hne : v.ownBlock ≠ some K) (hk : k < wa.heap.size) (j : Nat) (u : Value) : Inner B k l r wa (w.setCell ⟨K, j, none⟩ u) v L :=
  ⟨ownsRow_setCell_other h.own hne u, h.rd.set (by omega) (Nat.le_trans h.rd.1 (by omega)) j u, grown_new h.fr hK j u⟩
theorem append_vals {ops : Array Oper} {rest : List Oper} {o : Oper} {a : Act} {Q : Exit → Act → World → Prop} {w : World} {B : Nat} (hgd : o.guard = none) (s x : Operand)
    (ho : o.op = .call { callee := .builtin .append, args := #[s, x], argTypes := #[22, 22] })
    (v : Value) (xs : List Value) (hown : OwnVals B w v xs) (hs : a.eval s = v) (u : Value) (hu : u.oneCell' = true) (g : Nat) (hg : w.heap.size = g) (hx : a.eval x = .slice (some ⟨g, 0, none⟩) 1 1)
    (hl : xs.length ≤ 100000) (hB : B ≤ w.heap.size)
    (h : ∀ ao m cap w', OwnVals B w' (.slice ao m cap) (xs ++ [u]) → Grew w w' v (.slice ao m cap) → wpList Try.prog ops Q rest (a.put o.dst (.slice ao m cap)) w') :
    wpList Try.prog ops Q (o :: rest) a (w.alloc (.cells #[u] 42)) := by
  subst hg
  obtain ⟨i0, hi, hz0, hz1, hz2⟩ := info_parts infoL
  refine append_new hgd s x 22 ho Try.underlying22 hi hz0 hz1 hz2 rfl (by decide) v xs.length xs hs hown #[u] 1 hx (by simp) (by intro y hy; simp at hy; subst hy; exact hu) (by unfold maxLen; omega) (by omega) hB ?_
  intro v' w' h1 h2
  obtain ⟨ao, cap, rfl⟩ := own_form h1
  refine h ao _ cap w' ?_ h2
  unfold OwnVals
  simpa using h1
theorem append_calls' {ops : Array Oper} {rest : List Oper} {o : Oper} {a : Act} {Q : Exit → Act → World → Prop} {w : World} {B : Nat} (hgd : o.guard = none) (s x : Operand)
    (ho : o.op = .call { callee := .builtin .append, args := #[s, x], argTypes := #[42, 42] })
    (v : Value) (l : List Cl) (hown : OwnCalls B w v l) (hs : a.eval s = v) (x0 x1 x2 x3 : Int) (g : Nat) (hg : w.heap.size = g) (hx : a.eval x = .slice (some ⟨g, 0, none⟩) 1 1)
    (hl : l.length ≤ 100000) (hB : B ≤ w.heap.size)
    (h : ∀ ao m cap w', OwnCalls B w' (.slice ao m cap) (l ++ [⟨x0, x1, x2, x3⟩]) → Grew w w' v (.slice ao m cap) → wpList Try.prog ops Q rest (a.put o.dst (.slice ao m cap)) w') :
    wpList Try.prog ops Q (o :: rest) a (w.alloc (.cells #[.int .i64 x0, .int .i64 x1, .int .i64 x2, .int .i64 x3] 44)) := by
  subst hg
  refine append_calls hgd s x ho v l hown hs ⟨x0, x1, x2, x3⟩ hx hl hB ?_
  intro v' w' h1 h2
  obtain ⟨ao, cap, rfl⟩ := own_form h1
  exact h ao _ cap w' h1 h2

set_option maxHeartbeats 4000000 in
set_option maxRecDepth 100000 in
theorem cRScript (v : Value) (l : List Int) (w : World) (hv : ShowBytes w v l) (hy : Bytey l) :
    Calls Try.prog 19 #[v] w fun e w' => ∃ vc vp, e = .returned (.agg #[.int .i64 (dec l).cpus, .int .i64 (dec l).pages, vc, vp]) ∧ ShowLists w' vc (dec l).calls ∧ OwnInts w.heap.size w' vp (dec l).picks ∧ Below w.heap.size w w' := by
  obtain ⟨ao, cap, rfl, hcap, hat⟩ := hv.form
  obtain ⟨x0, e0⟩ : ∃ x, nx l = x := ⟨_, rfl⟩
  obtain ⟨x1, e1⟩ : ∃ x, two (l.drop 1) = x := ⟨_, rfl⟩
  obtain ⟨n, hn⟩ : ∃ n, cpusOf l = n := ⟨_, rfl⟩
  have hx0 : 0 ≤ x0 ∧ x0 ≤ 255 := by rw [← e0]; exact hy.nx
  have hx1 : 0 ≤ x1 ∧ x1 ≤ 65535 := by rw [← e1]; exact (hy.drop 1).two
  have hn8 : 1 ≤ n ∧ n ≤ 8 := by rw [← hn]; exact cpusOf_le l
  have hne : (n : Int) = 1 + x0 % 8 := by rw [← hn, ← e0]; exact cpusOf_eq l
  have hm0 : x0.tmod 8 = (n : Int) - 1 := by rw [Int.tmod_eq_emod_of_nonneg hx0.1]; omega
  obtain ⟨pg, hpg⟩ : ∃ pg, 1 + x1 % 1024 = pg := ⟨_, rfl⟩
  have hm1 : x1.tmod 1024 = pg - 1 := by rw [Int.tmod_eq_emod_of_nonneg hx1.1]; omega
  have hpg' : 1 ≤ pg ∧ pg ≤ 1024 := by omega
  have HD : Hid (dec l = { cpus := n, pages := pg, calls := decLs n (l.drop 3), picks := (rest n (l.drop 3)).take 4096 }) := Lib.hid (by
    unfold dec
    rw [hn, e0, e1, hpg, ← hne])
  have H0 := Lib.hid e0
  have H1 := Lib.hid e1
  have hy3 := hy.drop 3
  obtain ⟨l3, hl3⟩ : ∃ l3, l.drop 3 = l3 := ⟨_, rfl⟩
  have HL3 := Lib.hid hl3
  rw [HD.out]
  rw [hl3] at hy3 ⊢
  have hr0 := fun o => rr_start (w := w) o hcap hat
  have HR := Lib.hid hr0
  have e1n : (1 : Int) + ((n : Int) - 1) = n := by omega
  have e1p : (1 : Int) + (pg - 1) = pg := by omega
  clear e0 e1 hn hne hpg hv hat hl3 hr0
  go_enter Try.func19, Try.ntmps19
  go_wp2_with fail
  refine (cRNext w.heap.size _ l l _ (HR.out _) hy).mono ?_
  rintro e w1 ⟨rfl, r1, g1⟩
  rw [H0.out]
  have hz1 := g1.size
  rw [size_alloc, size_alloc] at hz1
  go_wp2_with fail
  refine (cRTwo w.heap.size _ l _ _ (r1.alloc _) hy (hy.drop 1)).mono ?_
  rintro e w2 ⟨rfl, r2, g2⟩
  rw [H1.out]
  rw [List.drop_drop, show 1 + 2 = 3 from rfl, HL3.out] at r2
  have hz2 := g2.size
  rw [size_alloc] at hz2
  have hs2 : SelfIs w2 w1.heap.size n 0 (.slice none 0 0) (.slice none 0 0) := (g2.block w1.heap.size (by rw [size_alloc]; omega) (fun e => by have := Option.some.inj e; omega)).trans (heap_new _ _)
  obtain ⟨q0, q1, q2, q3⟩ := self4 hs2
  have qf := self_free hs2 1
  have hres : w2.heap[w.heap.size]? = some (.cells #[.int .i64 0, .int .i64 0, .slice none 0 0, .slice none 0 0] 25 (0, 0)) := by
    rw [g2.block _ (by rw [size_alloc]; omega) (fun e => by have := Option.some.inj e; omega), Below.heap_alloc _ _ _ (by omega), g1.block _ (by rw [size_alloc, size_alloc]; omega) (fun e => by have := Option.some.inj e; omega)]
    exact heap_low2 _ _ _
  have hbA : Below w.heap.size w w2 := ((below_one (below_one (Below.refl _ _) _) _).trans (below_grown g1 (by omega) (by rw [size_alloc, size_alloc]; omega))).trans (below_grown (grown_trans (grown_alloc (grown_refl w1 _) _) g2) (by omega) (by omega))
  go_wp2
  have hs3 := hs2.set1 pg
  have r3 := r2.set (K := w1.heap.size) (by omega) (by omega) 1 (.int .i64 pg)
  have hres3 := (Below.heap_setCell w2 ⟨w1.heap.size, 1, none⟩ (.int .i64 pg) w.heap.size (by show w.heap.size ≠ w1.heap.size; omega)).trans hres
  have hbA3 := hbA.setCell (p := ⟨w1.heap.size, 1, none⟩) (by show w.heap.size ≤ w1.heap.size; omega) (.int .i64 pg)
  have hK3 := lt_of_block hs3
  clear hs2 r2 hres hbA q0 q1 q2 q3 qf g1 g2 r1 hz2
  generalize w2.setCell ⟨w1.heap.size, 1, none⟩ (.int .i64 pg) = w3 at *
  have HRES := Lib.hid hres3
  clear hres3
  go_loopw [5] (fun i wr => ∃ (j : Nat) (vc : Value), j ≤ n ∧ i = .int .i64 j ∧ SelfIs wr w1.heap.size n pg vc (.slice none 0 0) ∧ Lists w3.heap.size wr vc (decLs j l3) ∧ RR w.heap.size wr (w.heap.size + 1) l (rest j l3) ∧ wr.heap[w.heap.size]? = w3.heap[w.heap.size]? ∧ Below w.heap.size w wr ∧ w3.heap.size ≤ wr.heap.size) (fun i _ => n - (intOf i).toNat)
  case atStart => exact ⟨0, _, by omega, rfl, hs3, Lists.nil _ _, r3, rfl, hbA3, Nat.le_refl _⟩
  case round =>
    clear hs3 r3 hbA3
    obtain ⟨wo, hwo⟩ : ∃ x, x = wr := ⟨_, rfl⟩
    subst hwo
    obtain ⟨j, vc, hj, rfl, hself, hlists, hr, hres, hbA, hz⟩ := hrel
    obtain ⟨c0, c1, c2, c3⟩ := self4 hself
    by_cases hlt : j < n
    · obtain ⟨vs, hvs, hvl, hvall⟩ := hlists
      have hyj := hy3.rest j
      have HS : Hid (rest (j + 1) l3 = stepL (rest j l3)) := Lib.hid rfl
      have HL : Hid (decLs (j + 1) l3 = decLs j l3 ++ [decL (rest j l3)]) := Lib.hid (decLs_succ _ _)
      have HV := Lib.hid hvall
      have HVL := Lib.hid hvl
      have hvs5 : vs.length ≤ 100000 := by rw [hvl, decLs_length]; omega
      obtain ⟨lr, hlr⟩ : ∃ lr, rest j l3 = lr := ⟨_, rfl⟩
      rw [hlr] at hyj hr HS HL
      obtain ⟨y0, e0⟩ : ∃ x, nx lr = x := ⟨_, rfl⟩
      obtain ⟨m, hm⟩ : ∃ m, num lr = m := ⟨_, rfl⟩
      have hm64 : m ≤ 64 := by rw [← hm]; exact num_lt lr
      have hmt : y0.tmod 65 = (m : Int) := by
        rw [← hm, num_eq, e0]
        exact Int.tmod_eq_emod_of_nonneg (by rw [← e0]; exact hyj.nx.1)
      have HD2 : Hid (decL lr = decC m (lr.drop 1)) := Lib.hid (by unfold decL; rw [hm])
      have HS2 : Hid (stepL lr = lr.drop (1 + 5 * m)) := Lib.hid (by unfold stepL; rw [hm])
      have HY0 := Lib.hid e0
      have hy0 : 0 ≤ y0 ∧ y0 ≤ 255 := by rw [← e0]; exact hyj.nx
      clear hvall hvl c1 c2 c3 hlr e0 hm
      go_wp2_with fail
      go_at_call 31
      refine (cRNext w.heap.size _ l lr _ hr hy).mono ?_
      rintro e wa ⟨rfl, ra, ga⟩
      rw [HY0.out]
      have hza := ga.size
      have hsa : SelfIs wa w1.heap.size n pg vc (.slice none 0 0) := SelfIs.grown hself ga (by omega)
      have hka : w.heap.size + 1 < wa.heap.size := by omega
      go_wp2
      go_loopw [6, 8] (fun o i wi => ∃ q : Nat, q ≤ m ∧ i = .int .i64 q ∧ Inner w.heap.size (w.heap.size + 1) l (lr.drop (1 + 5 * q)) wa wi o (decC q (lr.drop 1))) (fun _ i _ => m - (intOf i).toNat)
      case atStart => exact ⟨0, by omega, rfl, World.ownsRow_nil _ _ _ _, ra, grown_refl _ _⟩
      case round =>
        obtain ⟨q, hq, rfl, hin⟩ := hrel
        by_cases hqm : q < m
        · have hzi := hin.fr.size
          have HQ : Hid (decC (q + 1) (lr.drop 1) = decC q (lr.drop 1) ++ [callAt (lr.drop (1 + 5 * q))]) := Lib.hid (by rw [decC_succ, List.drop_drop])
          have HQ2 : Hid (lr.drop (1 + 5 * (q + 1)) = (lr.drop (1 + 5 * q)).drop 5) := Lib.hid (by rw [List.drop_drop, show 1 + 5 * q + 5 = 1 + 5 * (q + 1) by omega])
          have hyq := hyj.drop (1 + 5 * q)
          have HLQ : Hid ((decC q (lr.drop 1)).length ≤ 100000) := Lib.hid (by rw [decC_length]; omega)
          generalize decC q (lr.drop 1) = L at hin HQ HLQ
          generalize lr.drop (1 + 5 * q) = rq at hin HQ HQ2 hyq
          obtain ⟨x0', f0⟩ : ∃ x, nx rq = x := ⟨_, rfl⟩
          obtain ⟨x1', f1⟩ : ∃ x, nx (rq.drop 1) = x := ⟨_, rfl⟩
          obtain ⟨x2', f2⟩ : ∃ x, two (rq.drop 2) = x := ⟨_, rfl⟩
          obtain ⟨x3', f3⟩ : ∃ x, nx (rq.drop 4) = x := ⟨_, rfl⟩
          have HCA : Hid (callAt rq = ⟨x0' % 14, x1', x2', x3'⟩) := Lib.hid (by unfold callAt; rw [f0, f1, f2, f3])
          have hx0' : 0 ≤ x0' ∧ x0' ≤ 255 := by rw [← f0]; exact hyq.nx
          have hm14 : x0'.tmod 14 = x0' % 14 := Int.tmod_eq_emod_of_nonneg hx0'.1
          have F0 := Lib.hid f0
          have F1 := Lib.hid f1
          have F2 := Lib.hid f2
          have F3 := Lib.hid f3
          clear f0 f1 f2 f3
          go_wp2_with fail
          go_at_call 31
          refine (cRNext w.heap.size _ l rq _ hin.rd hy).mono ?_
          rintro e w4 ⟨rfl, r4, g4⟩
          rw [F0.out]
          have h4 := (hin.step r4 g4 hka).alloc (.cells #[.int .i64 (x0' % 14), .int .i64 0, .int .i64 0, .int .i64 0] 44)
          have hz4 := g4.size
          have hu6 : u6.ownBlock ≠ some w4.heap.size := fun e => by have := (hin.lt _ e).2; omega
          have hK9 : wa.heap.size ≤ w4.heap.size := by omega
          have hk9 : w4.heap.size ≠ w.heap.size + 1 := by omega
          go_wp2_with fail
          go_at_call 31
          refine (cRNext w.heap.size _ l _ _ h4.rd hy).mono ?_
          rintro e w5 ⟨rfl, r5, g5⟩
          rw [F1.out]
          have h5 := h4.step r5 g5 hka
          have hc5 : CallIs w5 w4.heap.size (x0' % 14) 0 0 0 := CallIs.grown (heap_new _ _) g5 hk9
          have fz5 := self_free hc5 1
          obtain ⟨k0, k1, k2, k3⟩ := self4 hc5
          have h5s := h5.set hK9 hu6 hka 1 (.int .i64 x1')
          have hc5s := hc5.set1 x1'
          go_wp2_with fail
          go_at_call 32
          refine (cRTwo w.heap.size _ l _ _ h5s.rd hy ((hyq.drop 1).drop 1)).mono ?_
          rintro e w6 ⟨rfl, r6, g6⟩
          rw [List.drop_drop, F2.out]
          have h6 := h5s.step r6 g6 hka
          have hc6 := hc5s.grown g6 hk9
          clear k0 k1 k2 k3 fz5
          have fz6 := self_free hc6 2
          obtain ⟨k0, k1, k2, k3⟩ := self4 hc6
          have h6s := h6.set hK9 hu6 hka 2 (.int .i64 x2')
          have hc6s := hc6.set2 x2'
          go_wp2_with fail
          go_at_call 31
          refine (cRNext w.heap.size _ l _ _ h6s.rd hy).mono ?_
          rintro e w7 ⟨rfl, r7, g7⟩
          rw [List.drop_drop, List.drop_drop, F3.out]
          have h7 := h6s.step r7 g7 hka
          have hc7 := hc6s.grown g7 hk9
          clear k0 k1 k2 k3 fz6
          have fz7 := self_free hc7 3
          obtain ⟨k0, k1, k2, k3⟩ := self4 hc7
          have h7s := h7.set hK9 hu6 hka 3 (.int .i64 x3')
          have hz7 := h7s.fr.size
          go_wp2_with (at_builtin; refine append_calls' (by rfl) _ _ (by rfl) _ _ h7s.own (by rfl) (x0' % 14) x1' x2' x3' w7.heap.size (by simp) (by rfl) HLQ.out hz7 ?_)
          intro aD mD capD wD ownD gD
          have hvD : ∀ i, u6.ownBlock = some i → wa.heap.size ≤ i := fun i hi => (h7s.lt i hi).1
          have hin' : Inner w.heap.size (w.heap.size + 1) l (lr.drop (1 + 5 * (q + 1))) wa wD (.slice aD mD capD) (decC (q + 1) (lr.drop 1)) := by
            refine ⟨?_, ?_, grown_own h7s.fr gD (Nat.le_refl _) hvD⟩
            · rw [HQ.out, HCA.out]
              exact ownD
            · rw [HQ2.out]
              have hrk := h7s.rd.keep (gD.grow.block _ (by omega) (fun e => by have := hvD _ e.symm; omega)) (gD.below (by omega) (fun i hi => by have := hvD i hi; omega))
              simpa using hrk
          clear h4 h5 h5s h6 h6s h7 h7s gD ownD hc5 hc5s hc6 hc6s hc7 k0 k1 k2 k3 fz7 r4 r5 r6 r7 g4 g5 g6 g7
          go_wp2
          go_roundw
          case rel => exact ⟨q + 1, by omega, by go_num, hin'⟩
          case measure => simp [intOf]; omega
        · have hqe : q = m := by omega
          subst hqe
          have hsi : SelfIs wr w1.heap.size n pg vc (.slice none 0 0) := SelfIs.grown hsa hin.fr (by omega)
          obtain ⟨t0, t1, t2, t3⟩ := self4 hsi
          have hzi := hin.fr.size
          have gwi := grown_trans ga hin.fr
          have hvsi : OwnVals w3.heap.size wr vc vs := kept_grown (kept_grown hvs ga (by omega)) hin.fr (by omega)
          have hvlt : ∀ i, vc.ownBlock = some i → w3.heap.size ≤ i := fun i hi => (World.ownsRow.lt hvs i hi).1
          have hall : ∀ i (h : i < (decLs j l3).length) (h' : i < vs.length), OwnCalls w3.heap.size wr vs[i] (decLs j l3)[i] := fun i h h' => kept_grown (kept_grown (HV.out i h h') ga (by omega)) hin.fr (by omega)
          obtain ⟨a6, m6, c6, rfl⟩ : ∃ a6 m6 c6, u6 = .slice a6 m6 c6 := by
            obtain ⟨a6, c6, e⟩ := own_form hin.own
            exact ⟨a6, _, c6, e⟩
          have HALL := Lib.hid hall
          clear hall c0 t0 t1 t3 hsa
          go_wp2_with (at_builtin; refine append_vals (by rfl) _ _ (by rfl) vc vs hvsi (by rfl) (.slice a6 m6 c6) rfl wr.heap.size rfl (by rfl) hvs5 (by omega) ?_)
          intro aD mD capD wD ownD gD
          have hsD := hsi.grew gD (fun e => by have := hvlt _ e; omega)
          obtain ⟨t0, t1, t2', t3⟩ := self4 hsD
          have td := self_free hsD 2
          have hlD : Lists w3.heap.size wD (.slice aD mD capD) (decLs (j + 1) l3) := by
            rw [HL.out]
            refine Lists.snoc hvsi ownD gD.grow HVL.out HALL.out ?_
            rw [HD2.out]
            exact hin.own.mono (by omega)
          have hrD : RR w.heap.size wD (w.heap.size + 1) l (rest (j + 1) l3) := by
            rw [HS.out, HS2.out]
            exact hin.rd.keep (gD.grow.block _ (by omega) (fun e => by have := hvlt _ e.symm; omega)) (gD.below (by omega) (fun i hi => by have := hvlt i hi; omega))
          have hresD : wD.heap[w.heap.size]? = w3.heap[w.heap.size]? := ((gD.grow.block _ (by omega) (fun e => by have := hvlt _ e.symm; omega)).trans (gwi.block _ (by omega) (fun e => by have := Option.some.inj e; omega))).trans hres
          have hbD : Below w.heap.size w wD := (hbA.trans (below_grown gwi (by omega) (by omega))).trans (gD.below (by omega) (fun i hi => by have := hvlt i hi; omega))
          have hzD := gD.grow.size
          clear t0 t1 t3 gD ownD HALL hin hvsi HV HVL HL HS
          go_wp2
          go_roundw
          case rel => exact ⟨j + 1, .slice aD mD capD, by omega, by go_num, hsD.set2 _, hlD.set (by omega) _ _, hrD.set (by omega) (by omega) _ _, (Below.heap_setCell wD ⟨w1.heap.size, 2, none⟩ _ w.heap.size (by show w.heap.size ≠ w1.heap.size; omega)).trans hresD, hbD.setCell (p := ⟨w1.heap.size, 2, none⟩) (by show w.heap.size ≤ w1.heap.size; omega) _, by simp; omega⟩
          case measure => simp [intOf]; omega
    · have hke : j = n := by omega
      subst hke
      obtain ⟨l4, hl4⟩ : ∃ l4, rest j l3 = l4 := ⟨_, rfl⟩
      have hy4 : Bytey l4 := by rw [← hl4]; exact hy3.rest j
      rw [hl4] at hr
      have HL4 := Lib.hid hl4
      clear hl4 c1 c2 c3
      go_wp2
      go_loopw [] (fun wr => ∃ (q : Nat) (vp : Value), q ≤ 4096 ∧ q ≤ l4.length ∧ SelfIs wr w1.heap.size j pg vc vp ∧ OwnInts w3.heap.size wr vp (l4.take q) ∧ Lists w3.heap.size wr vc (decLs j l3) ∧ RR w.heap.size wr (w.heap.size + 1) l (l4.drop q) ∧ wr.heap[w.heap.size]? = w3.heap[w.heap.size]? ∧ Below w.heap.size w wr ∧ w3.heap.size ≤ wr.heap.size) (fun wr => 4096 - picksLen wr w1.heap.size)
      case atStart => exact ⟨0, _, by omega, by omega, hself, World.ownsRow_nil _ _ _ _, hlists, hr, hres, hbA, hz⟩
      case round =>
        clear hself hlists hr hres hbA hz c0
        obtain ⟨q, vp, hq, hql, hself, hints, hlists, hr, hres, hbA, hz⟩ := hrel
        have hsz := lt_of_block hself
        obtain ⟨c0, c1, c2, c3⟩ := self4 hself
        have hr' := hr
        obtain ⟨hBk, ar, capr, a, hrc, hrcap, hra, hrl, hrat⟩ := hr'
        have hrl2 : l.length - a = l4.length - q := by have := congrArg List.length hrl; simpa using this.symm
        have hr0 : wr.cell? ⟨w.heap.size + 1, 0, none⟩ = some (.slice ar l.length capr) := by unfold World.cell?; dsimp only; rw [hrc]; rfl
        have hr1 : wr.cell? ⟨w.heap.size + 1, 1, none⟩ = some (.int .i64 a) := by unfold World.cell?; dsimp only; rw [hrc]; rfl
        obtain ⟨ap, mp, capp, rfl⟩ : ∃ ap mp capp, vp = .slice ap mp capp := by
          obtain ⟨ap, capp, e⟩ := own_form hints
          exact ⟨ap, _, capp, e⟩
        have hmp : mp = q := by
          have h1 := (own_form hints)
          obtain ⟨ap', capp', e⟩ := h1
          have h2 := (Value.slice.inj e).2.1
          rw [h2, List.length_take]
          omega
        subst hmp
        have hpl : picksLen wr w1.heap.size = mp := by unfold picksLen; rw [c3]
        have HPL := Lib.hid hpl
        clear hrc hrat hrl hpl
        by_cases hlt : mp < 4096 ∧ mp < l4.length
        · obtain ⟨hlt1, hlt2⟩ := hlt
          have hal : a < l.length := by omega
          have HT : Hid (l4.take (mp + 1) = l4.take mp ++ [nx (l4.drop mp)]) := Lib.hid (by
            rw [List.take_succ_eq_append_getElem hlt2, List.drop_eq_getElem_cons hlt2]
            rfl)
          have hyq := hy4.drop mp
          have hlen : (l4.take mp).length ≤ 100000 := by rw [List.length_take]; omega
          have hneS : (Value.slice ap mp capp).ownBlock ≠ some w1.heap.size := fun e => by have := (World.ownsRow.lt hints _ e).1; omega
          clear c0 c1 c2
          go_wp2_with fail
          go_region_law (first
            | (refine step_ints (by rfl) _ _ (by rfl) (.slice ap mp capp) (l4.take mp) (World.ownsRow.alloc (kept_grown hints gC (by omega)) _) (by rfl) (nx (l4.drop mp)) wC.heap.size (0, 0) (heap_new _ _) (by rfl) hlen (by rw [size_alloc]; omega) ?_; intro aD mD capD wD ownD gD; have hsD := self_after hsC gD hneS; have d2 := (self4 hsD).2.2.2; have df := self_free hsD 3)
            | (go_simp; go_at_call 31; refine (cRNext w.heap.size (w.heap.size + 1) l (l4.drop mp) _ (show RR w.heap.size wr.drew (w.heap.size + 1) l (l4.drop mp) from hr) hy).mono ?_; rintro e wC ⟨rfl, rC, gC'⟩; have gC := drew_grown gC'; have hsC : SelfIs wC w1.heap.size j pg vc (.slice ap mp capp) := SelfIs.grown hself gC (by omega); have hzC := gC.size; have c2C := (self4 hsC).2.2.2; have hltC : w1.heap.size < wC.heap.size := lt_of_block hsC))
          all_goals
            have gD' := Grew.ofAlloc gD
            have hvlt : ∀ i, (Value.slice ap mp capp).ownBlock = some i → w3.heap.size ≤ i := fun i hi => (World.ownsRow.lt hints i hi).1
            have hiD : OwnInts w3.heap.size wD (.slice aD mD capD) (l4.take (mp + 1)) := by
              rw [HT.out]
              exact ownD
            have hmD : mD = mp + 1 := by
              obtain ⟨ao', cap', e⟩ := own_form hiD
              rw [(Value.slice.inj e).2.1, List.length_take]
              omega
            have HMD := Lib.hid hmD
            clear hmD
            have hlD : Lists w3.heap.size wD vc (decLs j l3) := (hlists.kept gC (by omega)).other (kept_grown hints gC (by omega)) gD'.grow
            have hrD : RR w.heap.size wD (w.heap.size + 1) l (l4.drop (mp + 1)) := by
              rw [List.drop_drop] at rC
              exact rC.keep (gD'.grow.block _ (by omega) (fun e => by have := hvlt _ e.symm; omega)) (gD'.below (by omega) (fun i hi => by have := hvlt i hi; omega))
            have hresD : wD.heap[w.heap.size]? = w3.heap[w.heap.size]? := ((gD'.grow.block _ (by omega) (fun e => by have := hvlt _ e.symm; omega)).trans (gC.block _ (by omega) (fun e => by have := Option.some.inj e; omega))).trans hres
            have hbD : Below w.heap.size w wD := (hbA.trans (below_grown gC (by omega) (by omega))).trans (gD'.below (by omega) (fun i hi => by have := hvlt i hi; omega))
            have hzD := gD'.grow.size
            have HP2 : Hid (picksLen (wD.setCell ⟨w1.heap.size, 3, none⟩ (.slice aD mD capD)) w1.heap.size = mp + 1) := Lib.hid (by
              unfold picksLen
              rw [(self4 (hsD.set3 (.slice aD mD capD))).2.2.2]
              exact HMD.out)
            clear HT gD' hvlt gD gC ownD rC
            go_wp2
            go_roundw
            case rel => exact ⟨mp + 1, .slice aD mD capD, by omega, by omega, hsD.set3 _, hiD.set (by omega) _ _, hlD.set (by omega) _ _, hrD.set (by omega) (by omega) _ _, (Below.heap_setCell wD ⟨w1.heap.size, 3, none⟩ _ w.heap.size (by show w.heap.size ≠ w1.heap.size; omega)).trans hresD, hbD.setCell (p := ⟨w1.heap.size, 3, none⟩) (by show w.heap.size ≤ w1.heap.size; omega) _, by simp; omega⟩
            case measure =>
              rw [HP2.out, HPL.out]
              omega
        · have HM : Hid (l4.take 4096 = l4.take mp) := Lib.hid (by
            by_cases h1 : mp < 4096
            · rw [List.take_of_length_le (by omega), List.take_of_length_le (by omega)]
            · rw [show mp = 4096 by omega])
          have hresr := hres.trans HRES.out
          obtain ⟨d0, d1, d2, d3⟩ := self4 hresr
          have f0 := self_free hresr 0
          have f1 := self_free hresr 1
          have f2 := self_free hresr 2
          have f3 := self_free hresr 3
          obtain ⟨ac, mc, capc, rfl⟩ : ∃ ac mc capc, vc = .slice ac mc capc := by
            obtain ⟨vs, hvs, _⟩ := hlists
            obtain ⟨ac, capc, e⟩ := own_form hvs
            exact ⟨ac, _, capc, e⟩
          have hK : w.heap.size < w3.heap.size := by omega
          have HLS := Lib.hid hlists
          have HIN := Lib.hid hints
          have HB := Lib.hid hbA
          clear hresr hlists hints hbA hself hr
          have hside : (mp < 4096 ∧ l.length ≤ a) ∨ (4096 ≤ mp) := by omega
          clear hlt
          rcases hside with ⟨hs1, hs2⟩ | hs1
          all_goals
            go_wp2
            refine bodyPost_ret (v := .agg #[.int .i64 j, .int .i64 pg, .slice ac mc capc, .slice ap mp capp]) (by simp [results, rres, go_sem, d0, d1, d2, d3]) rfl ?_
            refine ⟨_, _, rfl, ((((HLS.out.set hK 0 _).set hK 1 _).set hK 2 _).set hK 3 _).shows, ?_, (((HB.out.setCell (p := ⟨w.heap.size, 0, none⟩) (Nat.le_refl _) _).setCell (p := ⟨w.heap.size, 1, none⟩) (Nat.le_refl _) _).setCell (p := ⟨w.heap.size, 2, none⟩) (Nat.le_refl _) _).setCell (p := ⟨w.heap.size, 3, none⟩) (Nat.le_refl _) _⟩
            rw [HL4.out, HM.out]
            exact ((((HIN.out.set hK 0 _).set hK 1 _).set hK 2 _).set hK 3 _).mono (by omega)
end Go.Proofs.Ytifkkblmcdggmaa
