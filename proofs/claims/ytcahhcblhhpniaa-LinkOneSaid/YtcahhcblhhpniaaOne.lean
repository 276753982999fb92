/-
  The law LinkOne, walked.
-/
import Derived.Test.YtcahhcblhhpniaaLists
set_option linter.unusedVariables false
set_option linter.unusedSimpArgs false
namespace Go.Proofs.Ytcahhcblhhpniaa
open Go Go.RowKit

/-- an append whose guard holds -/
theorem wpList_appendG {ops : Array Oper} {rest : List Oper} {o : Oper} {a : Act} {Q : Exit → Act → World → Prop} {w : World} (hgd : Region.wanted o (yielded ops a.tmps) = true) (s x : Operand)
    (ho : o.op = .call { callee := .builtin .append, args := #[s, x], argTypes := #[31, 31] })
    (B : Nat) (v u : Value) (l b : List Int) (n : Nat) (hs : a.eval s = v) (hx : a.eval x = u) (hown : OwnI B w v l) (hu : ShowI w u b) (hl : l.length + b.length ≤ 1000) (hB : B ≤ w.heap.size) (hn : (l ++ b).length = n)
    (h : ∀ ao cap w', OwnI B w' (.slice ao n cap) (l ++ b) → Below B w w' → w.grownBy w' v.ownBlock → wpList Try.prog ops Q rest (a.put o.dst (.slice ao n cap)) w') :
    wpList Try.prog ops Q (o :: rest) a w := by
  subst hn
  refine wpList_step fun K hK => ?_
  rw [if_pos hgd]
  obtain ⟨ao, cap, w', hr, h1, h2, h3⟩ := run_appendI hown hu hl hB o.type
  unfold Oper.wp execOp
  simp only [ho, resolve, invoke, builtin, Sem.run_bind, Sem.run_pure, Result.andThen_ok, List.map_toArray, List.map_cons, List.map_nil, hs, hx, hr]
  exact hK _ _ (h _ _ _ h1 h2 h3)
set_option maxHeartbeats 1000000 in
theorem cCopyI (u : Value) (l : List Int) (w : World) (hu : ShowI w u l) (hl : l.length ≤ 1000) : Calls Try.prog 22 #[u] w fun e w' => ∃ ao cap, e = .returned (.slice ao l.length cap) ∧ OwnI w.heap.size w' (.slice ao l.length cap) l ∧ Below w.heap.size w w' := by
  go_enter Try.func22, Try.ntmps22
  go_wp2_with (at_builtin; refine wpList_copyI (by rfl) _ _ (by rfl) (by rfl) u l hu (by rfl) (by omega) ?_)
  intro ao cap w' hown hb
  have HO := Lib.hid (show OwnI w.heap.size w' _ l from hown)
  clear hown
  go_wp2
  go_ret
  exact ⟨_, _, rfl, HO.out, hb⟩
/-- 1 where it is in the list, 0 elsewhere -/
def cntI (xs : List Int) (j : Nat) : Int := if (j : Int) ∈ xs then 1 else 0
theorem not_taken {A : List Int} (hn : A.Nodup) {i : Nat} (hi : i < A.length) : pk A i ∉ A.take i := by
  have h : (A.take (i + 1)).Nodup := List.Pairwise.sublist (List.take_sublist _ _) hn
  rw [List.take_succ_eq_append_getElem hi, pk_at] at h
  exact fun e => (List.nodup_append.1 h).2.2 _ e _ (List.mem_singleton.2 rfl) rfl
theorem cnt_none {A : List Int} (hn : A.Nodup) {i x : Nat} (hi : i < A.length) (hx : pk A i = x) : cntI (A.take i) x = 0 := by
  unfold cntI
  rw [if_neg (by rw [← hx]; exact not_taken hn hi)]
theorem cnt_next {A : List Int} {i x : Nat} (hi : i < A.length) (hx : pk A i = x) (j : Nat) : (if j = x then 1 else cntI (A.take i) j) = cntI (A.take (i + 1)) j := by
  unfold cntI
  rw [List.take_succ_eq_append_getElem hi, pk_at, hx]
  by_cases e : j = x
  · subst e; simp
  · have : (j : Int) ≠ (x : Int) := by omega
    simp [e, this]
theorem cnt_le (xs : List Int) (j : Nat) : cntI xs j ≤ 1 := by
  unfold cntI
  split <;> omega
/-- whether one of the second list is in the first one -/
def shF (A xs : List Int) : Bool := xs.any (fun x => decide (x ∈ A))
theorem sh_next {A B : List Int} {i : Nat} (hi : i < B.length) : shF A (B.take (i + 1)) = (shF A (B.take i) || decide (pk B i ∈ A)) := by
  unfold shF
  rw [List.take_succ_eq_append_getElem hi, pk_at, List.any_append]
  simp
theorem sh_no {A B : List Int} (h : shF A B = false) : ∀ x ∈ A, x ∉ B := by
  intro x hx hb
  have : shF A B = true := List.any_eq_true.2 ⟨x, hb, by simpa using hx⟩
  rw [h] at this
  cases this
theorem ShowU.first {w : World} {ao : Option Addr} {n cap m : Nat} {l : List Int} (h : ShowU w (.slice ao n cap) l) (hm : m ≤ l.length) : ShowU w (.slice ao m cap) (l.take m) := by
  obtain ⟨hl, ao', cap', e, hc, hs⟩ := h
  obtain ⟨rfl, hn, rfl⟩ := Value.slice.inj e
  have hlm : (l.take m).length = m := by rw [List.length_take]; omega
  unfold ShowU
  rw [hlm]
  refine ⟨by simp; omega, ao, cap, rfl, ⟨by omega, hc.2⟩, fun h0 => ?_⟩
  obtain ⟨b, o, ha, hx⟩ := hs (by omega)
  refine ⟨b, o, ha, fun j hj => ?_⟩
  rw [hx j (by omega)]
  simp [show j < m by omega]
/-- a block whose first cells are words -/
def WrdAt (w : World) (g m : Nat) (l : List Int) : Prop := ∃ c : Array Value, w.heap[g]? = some (.cells c 22 (0, 0)) ∧ ∀ j, j < m → c[j]? = some (.int .u64 (pk l j))
theorem wrd_of {w : World} {B m : Nat} {ao : Option Addr} {cap : Nat} {l : List Int} (h : OwnU B w (.slice ao m cap) l) (hm : 0 < m) : ∃ g, ao = some ⟨g, 0, none⟩ ∧ B ≤ g ∧ WrdAt w g m l ∧ m ≤ cap ∧ cap ≤ 9223372036854775807 := by
  rcases h.2 with ⟨e, _⟩ | ⟨g, cp, cur, e, hB, hb, hc, hm2, hsz, ht⟩
  · cases e
    omega
  · obtain ⟨rfl, hml, rfl⟩ := Value.slice.inj e
    refine ⟨g, rfl, hB, ⟨cur, hb, fun j hj => ?_⟩, by omega, by unfold maxLen at hm2; omega⟩
    have h1 : (cur.toList.take (l.length * 1))[j]? = (wds l)[j]? := by rw [ht]
    rw [List.getElem?_take, if_pos (by omega), wds_at (by omega)] at h1
    simpa using h1
section
variable {w w' : World} {g m : Nat} {l : List Int}
theorem WrdAt.at_ (h : WrdAt w g m l) {i : Nat} (hi : i < m) : (∃ u, w.cell? ⟨g, i, none⟩ = some u) ∧ w.frozen? ⟨g, i, none⟩ = false := by
  obtain ⟨c, h1, h2⟩ := h
  exact ⟨⟨_, self_cell h1 i _ (h2 i hi)⟩, self_free h1 i⟩
theorem WrdAt.set (h : WrdAt w g m l) (hl : l.length = m) {i : Nat} (hi : i < m) (x : Int) : WrdAt (w.setCell ⟨g, i, none⟩ (.int .u64 x)) g m (l.set i x) := by
  obtain ⟨c, h1, h2⟩ := h
  refine ⟨_, cells_set h1 i _, fun j hj => ?_⟩
  rw [Array.getElem?_setIfInBounds]
  by_cases e : i = j
  · subst e
    have := (Array.getElem?_eq_some_iff.1 (h2 i hi)).1
    rw [if_pos rfl, if_pos this, pk_set_self _ (by omega)]
  · rw [if_neg e, h2 j hj, pk_set_ne _ e]
theorem WrdAt.show_ (h : WrdAt w g m l) (hl : l.length = m) {cap : Nat} (hc : m ≤ cap ∧ cap ≤ 9223372036854775807) : ShowU w (.slice (some ⟨g, 0, none⟩) m cap) l := by
  obtain ⟨c, h1, h2⟩ := h
  unfold ShowU
  rw [hl]
  refine ⟨by simp [hl], _, cap, rfl, ⟨hc.1, by unfold maxLen; omega⟩, fun _ => ⟨g, 0, rfl, fun j hj => ?_⟩⟩
  rw [Nat.mul_one] at hj
  rw [Nat.zero_add, self_cell h1 j _ (h2 j hj)]
  exact (wds_at (by omega)).symm
end
theorem chain_head {l : List Int} {k a : Int} {xs : List Int} (h : Chain l k a xs) (ha : 0 ≤ a) : pk xs 0 = a ∧ 0 < xs.length := by
  cases h with
  | nil => omega
  | cons h0 h1 h2 h3 => exact ⟨rfl, by simp⟩
theorem one_known {L A B : List Int} {k p q : Int} (hA : lst L k p = (A, 0)) (hB : lst L k q = (B, 0)) (hp : 0 ≤ p) (hq : 0 ≤ q) :
    (Seen L A ∧ Seen L B ∧ pk A 0 = p ∧ pk B 0 = q ∧ 0 < A.length ∧ 0 < B.length) ∧ ∀ M, A.length = M + 1 → shF A B = false → ∃ z : Nat, pk A M = z ∧ z < L.length ∧ okN q ∧ okO (z : Int) ∧ lst (L.set z (hidV q k z)) k p = (A ++ B, 0) := by
  obtain ⟨oa, ca, sa⟩ := lst_chain hA
  obtain ⟨ob, cb, sb⟩ := lst_chain hB
  obtain ⟨ha0, ha1⟩ := chain_head ca hp
  obtain ⟨hb0, hb1⟩ := chain_head cb hq
  refine ⟨⟨sa, sb, ha0, hb0, ha1, hb1⟩, fun M hM hsh => ?_⟩
  have hlt : M < A.length := by omega
  have hdec : A = A.take M ++ [pk A M] := by
    have h := List.take_succ_eq_append_getElem hlt
    rw [pk_at, List.take_of_length_le (by omega)] at h
    exact h
  have hz := sa.at_ (pk A M) (by rw [← pk_at A M hlt]; exact List.getElem_mem hlt)
  have hd := sh_no hsh
  obtain ⟨z, hz2⟩ : ∃ z : Nat, pk A M = z := ⟨(pk A M).toNat, by omega⟩
  rw [hz2] at hdec hz
  rw [hdec] at hA hd
  obtain ⟨h1, h2, h3⟩ := lst_join hA hB (by intro e; rw [e] at hb1; simp at hb1) hd
  rw [← hdec] at h1
  exact ⟨z, hz2, by omega, h2, h3, h1⟩
set_option maxHeartbeats 4000000 in
set_option maxRecDepth 100000 in
theorem walkOne (u : Value) (l0 : List Int) (k x y : Int) (W : World) (hs : ShowU W u l0) (hk : okW k) :
    Calls Try.prog 7 #[u, .int .u64 k, .agg #[.int .i64 x, .int .i64 y]] W fun e W' => e = .returned (.bool true) ∧ Below W.heap.size W W' := by
  have hs0 := hs
  obtain ⟨ao, cap, rfl, hcap, hat⟩ := hs.form
  clear hs
  obtain ⟨m, hm⟩ : ∃ m : Nat, (if (16 : Int) < (l0.length : Int) then (16 : Int) else (l0.length : Int)) = (m : Int) := by
    by_cases h : (16 : Int) < (l0.length : Int)
    · exact ⟨16, by rw [if_pos h]; rfl⟩
    · exact ⟨l0.length, by rw [if_neg h]⟩
  have hml : m ≤ l0.length := by split at hm <;> omega
  have hm16 : m ≤ 16 := by split at hm <;> omega
  have hsL : ShowU W (.slice ao m cap) (l0.take m) := hs0.first hml
  obtain ⟨L, hL⟩ : ∃ L, l0.take m = L := ⟨_, rfl⟩
  have hLm : L.length = m := by rw [← hL, List.length_take]; omega
  rw [hL] at hsL
  have HLM := Lib.hid hLm
  have HSL := Lib.hid hsL
  have HB0 : Hid (Below W.heap.size W (W.alloc (.cells #[.int .i64 x, .int .i64 y] 41))) := Lib.hid (below_one (Below.refl _ _) _)
  have hb0 : l0.length = 0 ∨ ∃ b o, ao = some ⟨b, o, none⟩ := by
    by_cases h : l0.length = 0
    · exact .inl h
    · obtain ⟨b, o, e, _⟩ := hat 0 (by omega)
      exact .inr ⟨b, o, e⟩
  clear hat hs0 hsL hL hLm
  by_cases hm0 : m = 0
  · have hl00 : l0.length = 0 := by split at hm <;> omega
    subst hm0
    rw [hl00] at hm ⊢
    clear hcap hb0 hml hm16
    go_enter Try.func7, Try.ntmps7
    go_wp2_with fail
    refine (works _).mono ?_
    rintro e w1 ⟨rfl, hb1⟩
    have HW1 := Lib.hid (below_then HB0.out hb1)
    clear hb1
    go_wp2
    go_ret
    exact ⟨rfl, HW1.out⟩
  · obtain ⟨b1, o1, rfl⟩ : ∃ b o, ao = some ⟨b, o, none⟩ := by
      rcases hb0 with h | h
      · omega
      · exact h
    have hm1 : 1 ≤ m := by omega
    have HX := Lib.hid (cBringN x m m rfl (by omega))
    have HY := Lib.hid (cBringN y m m rfl (by omega))
    have hp := bring_lt x m hm1
    have hq := bring_lt y m hm1
    generalize bring x m = p at *
    generalize bring y m = q at *
    obtain ⟨A, e1, hA⟩ : ∃ A e, lst L k p = (A, e) := ⟨_, _, rfl⟩
    obtain ⟨B, e2, hB⟩ : ∃ B e, lst L k q = (B, e) := ⟨_, _, rfl⟩
    have HCA := Lib.hid (fun w h => cList (.slice (some ⟨b1, o1, none⟩) m cap) L k p A e1 w h hk hA)
    have HCB := Lib.hid (fun w h => cList (.slice (some ⟨b1, o1, none⟩) m cap) L k q B e2 w h hk hB)
    have hE1 : e1 = 0 ∨ e1 = 150 := by
      rcases lst_err (l := L) (k := k) (a := p) ⟨by rw [HLM.out]; omega, by omega, by rw [HLM.out]; omega⟩ with h | h
      · rw [hA] at h; exact .inl h
      · rw [hA] at h; exact .inr (Prod.mk.inj h).2
    have hE2 : e2 = 0 ∨ e2 = 150 := by
      rcases lst_err (l := L) (k := k) (a := q) ⟨by rw [HLM.out]; omega, by omega, by rw [HLM.out]; omega⟩ with h | h
      · rw [hB] at h; exact .inl h
      · rw [hB] at h; exact .inr (Prod.mk.inj h).2
    have HK := Lib.hid hk
    have HA := Lib.hid hA
    have HB := Lib.hid hB
    obtain ⟨NA, hNA⟩ : ∃ N, A.length = N := ⟨_, rfl⟩
    obtain ⟨NB, hNB⟩ : ∃ N, B.length = N := ⟨_, rfl⟩
    have HNA := Lib.hid hNA
    have HNB := Lib.hid hNB
    rw [hNA] at HCA
    rw [hNB] at HCB
    clear hA hB hb0 hk hNA hNB
    go_enter Try.func7, Try.ntmps7
    go_wp2_with fail
    refine (HX.out _).mono ?_
    rintro e w1 ⟨rfl, rfl⟩
    go_wp2_with fail
    refine (HCA.out _ (HSL.out.below HB0.out)).mono ?_
    rintro e w1 ⟨xo, xc, rfl, ho1, hb1⟩
    have HW1 := Lib.hid (below_then HB0.out hb1)
    have HO1 := Lib.hid ho1.shows
    have hbx := keep_block (heap_new W (.cells #[.int .i64 x, .int .i64 y] 41)) hb1
    have hbx1 := self_cell hbx 1 (.int .i64 y) rfl
    clear ho1 hb1 HX HCA hbx HB0
    go_wp2_with fail
    refine (HY.out _).mono ?_
    rintro e w2 ⟨rfl, rfl⟩
    go_wp2_with fail
    refine (HCB.out _ (HSL.out.below HW1.out)).mono ?_
    rintro e w2 ⟨yo, yc, rfl, ho2, hb2⟩
    have HW2 := Lib.hid (below_then HW1.out hb2)
    have HO2 := Lib.hid (HO1.out.below hb2)
    have HP2 := Lib.hid ho2.shows
    clear ho2 hb2 HY HCB HW1 HO1 hbx1
    rcases hE1 with rfl | rfl
    rotate_left
    · go_wp2_with fail
      refine (works _).mono ?_
      rintro e w3 ⟨rfl, hb3⟩
      have HW3 := Lib.hid (below_then HW2.out hb3)
      clear hb3
      go_wp2
      go_ret
      exact ⟨rfl, HW3.out⟩
    rcases hE2 with rfl | rfl
    rotate_left
    · go_wp2_with fail
      refine (works _).mono ?_
      rintro e w3 ⟨rfl, hb3⟩
      have HW3 := Lib.hid (below_then HW2.out hb3)
      clear hb3
      go_wp2
      go_ret
      exact ⟨rfl, HW3.out⟩
    obtain ⟨⟨sA, sB, hA0, hB0, hlA, hlB⟩, hJ⟩ := one_known HA.out HB.out (by omega) (by omega)
    rw [HNA.out] at hlA
    rw [HNB.out] at hlB
    have SA := Lib.hid sA
    have SB := Lib.hid sB
    have HJ := Lib.hid hJ
    have HA0 := Lib.hid hA0
    have HB0 := Lib.hid hB0
    obtain ⟨Z, hz, hrow⟩ := makeN
    have HR : Hid ((w2.alloc (.cells Z 42)).rowIs w2.heap.size 42 16 (fun j => .int .i64 (cntI (A.take 0) j))) := Lib.hid (hrow w2)
    have HB2 : Hid (Below w2.heap.size w2 (w2.alloc (.cells Z 42))) := Lib.hid (below_one (Below.refl _ _) _)
    have HCL : Hid (∀ wz, Below w2.heap.size w2 wz → (∀ i, i < NA → ∃ b o, xo = some ⟨b, o, none⟩ ∧ b < w2.heap.size ∧ wz.cell? ⟨b, o + i, none⟩ = some (.int .i64 (pk A i))) ∧ (∀ i, i < NB → ∃ b o, yo = some ⟨b, o, none⟩ ∧ b < w2.heap.size ∧ wz.cell? ⟨b, o + i, none⟩ = some (.int .i64 (pk B i)))) := Lib.hid (fun wz hz => by
      refine ⟨fun i hi => ?_, fun i hi => ?_⟩
      · obtain ⟨ao', cp', e, _, h⟩ := HO2.out.form
        obtain ⟨b, o, e2, c⟩ := h i (by rw [HNA.out]; exact hi)
        obtain ⟨rfl, _, _⟩ := Value.slice.inj e
        exact ⟨b, o, e2, World.block_lt_of_cell? w2 _ c, cell_keep hz c⟩
      · obtain ⟨ao', cp', e, _, h⟩ := HP2.out.form
        obtain ⟨b, o, e2, c⟩ := h i (by rw [HNB.out]; exact hi)
        obtain ⟨rfl, _, _⟩ := Value.slice.inj e
        exact ⟨b, o, e2, World.block_lt_of_cell? w2 _ c, cell_keep hz c⟩)
    have HRA : Hid (∀ i, i < NA → 0 ≤ pk A i ∧ pk A i < m) := Lib.hid (fun i hi => by
      have h1 : i < A.length := by rw [HNA.out]; exact hi
      have := SA.out.at_ (pk A i) (by rw [← pk_at A i h1]; exact List.getElem_mem h1)
      rw [HLM.out] at this
      exact this)
    have HRB : Hid (∀ i, i < NB → 0 ≤ pk B i ∧ pk B i < m) := Lib.hid (fun i hi => by
      have h1 : i < B.length := by rw [HNB.out]; exact hi
      have := SB.out.at_ (pk B i) (by rw [← pk_at B i h1]; exact List.getElem_mem h1)
      rw [HLM.out] at this
      exact this)
    have hA16 : NA ≤ 16 := by have := SA.out.len; rw [HNA.out, HLM.out] at this; omega
    have hB16 : NB ≤ 16 := by have := SB.out.len; rw [HNB.out, HLM.out] at this; omega
    obtain ⟨M, hM⟩ : ∃ M : Nat, NA = M + 1 := ⟨NA - 1, by omega⟩
    have HM := Lib.hid hM
    clear sA sB hA0 hB0 hJ hrow hM HA HB
    have hqa : ((NA : Int) == 0) = false := by rw [beq_eq_false_iff_ne]; omega
    have hqb : ((NB : Int) == 0) = false := by rw [beq_eq_false_iff_ne]; omega
    go_wp2
    go_loopw [12] (fun i wr => ∃ j : Nat, j ≤ NA ∧ i = .int .i64 j ∧ Hid (wr.rowIs w2.heap.size 42 16 (fun n => .int .i64 (cntI (A.take j) n)) ∧ Below w2.heap.size w2 wr)) (fun i _ => NA - (intOf i).toNat)
    case atStart => exact ⟨0, Nat.zero_le _, rfl, Lib.hid ⟨HR.out, HB2.out⟩⟩
    case round =>
      clear HR HB2
      obtain ⟨j, hj, rfl, HS⟩ := hrel
      by_cases hlt : j < NA
      · obtain ⟨b2, o2, rfl, hb2, c2⟩ := (HCL.out wr HS.out.2).1 j hlt
        obtain ⟨z0, z1⟩ := HRA.out j hlt
        obtain ⟨X, hX⟩ : ∃ X : Nat, pk A j = X := ⟨(pk A j).toNat, by omega⟩
        have HN : Hid ((wr.setCell ⟨w2.heap.size, X, none⟩ (.int .i64 1)).rowIs w2.heap.size 42 16 (fun n => .int .i64 (cntI (A.take (j + 1)) n)) ∧ Below w2.heap.size w2 (wr.setCell ⟨w2.heap.size, X, none⟩ (.int .i64 1))) := Lib.hid ⟨(HS.out.1.set X (.int .i64 1)).congr (fun n hn => by
          have h := cnt_next (A := A) (i := j) (x := X) (by rw [HNA.out]; exact hlt) hX n
          rw [← h]
          by_cases e : n = X <;> simp [e]), HS.out.2.setCell (p := ⟨w2.heap.size, X, none⟩) (Nat.le_refl _) _⟩
        have c3 : wr.cell? ⟨w2.heap.size, X, none⟩ = some (.int .i64 0) := by
          have h := HS.out.1.cell (show X < 16 by omega)
          rw [cnt_none SA.out.nd (by rw [HNA.out]; exact hlt) hX] at h
          exact h
        have f3 := HS.out.1.frozen X
        rw [hX] at c2 z0 z1
        clear hX HS
        go_wp2
        go_region
        go_wp2
        go_roundw
        case rel => exact ⟨j + 1, by omega, by go_num, Lib.hid ⟨HN.out.1, HN.out.2.drew⟩⟩
        case measure => simp [intOf]; omega
      · obtain rfl : NA = j := by omega
        have HV : Hid (wr.rowIs w2.heap.size 42 16 (fun n => .int .i64 (cntI A n)) ∧ Below w2.heap.size w2 wr) := Lib.hid (by
          have h := HS.out
          rw [List.take_of_length_le (by rw [HNA.out]; exact Nat.le_refl _)] at h
          exact h)
        clear HS hlt
        obtain ⟨w3, rfl⟩ : ∃ w3, w3 = wr := ⟨_, rfl⟩
        go_wp2
        go_loopw [13, 14] (fun s i wr => ∃ n : Nat, n ≤ NB ∧ i = .int .i64 n ∧ s = .bool (shF A (B.take n)) ∧ wr = w3) (fun _ i _ => NB - (intOf i).toNat)
        case atStart => exact ⟨0, Nat.zero_le _, rfl, rfl, rfl⟩
        case round =>
          obtain ⟨n, hn, rfl, rfl, rfl⟩ := hrel
          by_cases hlt : n < NB
          · obtain ⟨b3, o3, rfl, hb3, c2⟩ := (HCL.out wr HV.out.2).2 n hlt
            obtain ⟨z0, z1⟩ := HRB.out n hlt
            obtain ⟨X, hX⟩ : ∃ X : Nat, pk B n = X := ⟨(pk B n).toNat, by omega⟩
            have HN := Lib.hid (sh_next (A := A) (B := B) (i := n) (by rw [HNB.out]; exact hlt))
            rw [hX] at c2 z0 z1 HN
            clear hX
            cases hs : shF A (B.take n) with
            | true =>
              rw [hs, Bool.true_or] at HN
              go_wp2
              go_roundw
              case rel => exact ⟨n + 1, by omega, by go_num, by rw [HN.out], trivial⟩
              case measure => simp [intOf]; omega
            | false =>
              rw [hs, Bool.false_or] at HN
              have c3 := HV.out.1.cell (show X < 16 by omega)
              by_cases hin : (X : Int) ∈ A
              · rw [show cntI A X = 1 from if_pos hin] at c3
                rw [decide_eq_true hin] at HN
                go_wp2
                go_roundw
                case rel => exact ⟨n + 1, by omega, by go_num, by rw [HN.out], trivial⟩
                case measure => simp [intOf]; omega
              · rw [show cntI A X = 0 from if_neg hin] at c3
                rw [decide_eq_false hin] at HN
                go_wp2
                go_roundw
                case rel => exact ⟨n + 1, by omega, by go_num, by rw [HN.out], trivial⟩
                case measure => simp [intOf]; omega
          · obtain rfl : NB = n := by omega
            rw [List.take_of_length_le (by rw [HNB.out]; exact Nat.le_refl _)]
            go_wp2
            go_loopw [15] (fun i wx => ∃ n : Nat, n ≤ 16 ∧ i = .int .i64 n ∧ wx = wr) (fun i _ => 16 - (intOf i).toNat)
            case atStart => exact ⟨0, Nat.zero_le _, rfl, rfl⟩
            case round =>
              obtain ⟨n, hn2, rfl, rfl⟩ := hrel
              by_cases hlt : n < 16
              · have c3 := HV.out.1.cell hlt
                have hle := cnt_le A n
                generalize cntI A n = c at c3 hle
                go_wp2
                go_roundw
                case rel => exact ⟨n + 1, by omega, by go_num, trivial⟩
                case measure => simp [intOf]; omega
              · obtain rfl : n = 16 := by omega
                cases hs : shF A B with
                | true =>
                  have HW5 := Lib.hid (below_then HW2.out HV.out.2)
                  go_wp2_with fail
                  refine (works _).mono ?_
                  rintro e w5 ⟨rfl, hb5⟩
                  have HW6 := Lib.hid (below_then HW5.out hb5)
                  clear hb5 HW5
                  go_wp2
                  go_ret
                  exact ⟨rfl, HW6.out⟩
                | false =>
                  obtain ⟨z, hz1, hz2, hoq, hoz, hjoin⟩ := HJ.out M (by rw [HNA.out]; exact HM.out) hs
                  have hMi : (NA : Int) - 1 = (M : Int) := by have := HM.out; omega
                  have hMl : M < NA := by have := HM.out; omega
                  obtain ⟨b2, o2, rfl, hb2, c2⟩ := (HCL.out wr HV.out.2).1 M hMl
                  obtain ⟨b3, o3, rfl, hb3, c3⟩ := (HCL.out wr HV.out.2).2 0 hlB
                  rw [hz1] at c2
                  rw [HB0.out, Nat.add_zero] at c3
                  rw [HLM.out] at hz2
                  have hH := cHide q k z HK.out
                  rw [← hid_good ⟨hoq, hoz⟩] at hH
                  have HH := Lib.hid hH
                  have HJ2 := Lib.hid hjoin
                  generalize hidV q k z = V at HH HJ2
                  clear HJ hjoin hz1 hoq hoz hs hH
                  have HW3 := Lib.hid (below_then HW2.out HV.out.2)
                  have HC3 := Lib.hid HV.out.2
                  clear HV
                  go_wp2_with fail
                  refine (HH.out _).mono ?_
                  rintro e w5 ⟨rfl, hb5⟩
                  have HW5 := Lib.hid (below_then HW3.out hb5)
                  have HC5 := Lib.hid (below_then HC3.out hb5)
                  have hsl := HSL.out.below HW5.out
                  clear hb5 HW3 HC3 HH c2 c3
                  go_wp2_with (at_builtin; refine wpList_copyU (by rfl) _ _ (by rfl) (by rfl) _ L hsl (by rfl) (by rw [HLM.out]; omega) ?_)
                  intro ro rc w6 hown hb6
                  rw [HLM.out] at hown ⊢
                  obtain ⟨g, rfl, hg5, hwr, hrc⟩ := wrd_of (l := L) (by unfold OwnU; rw [HLM.out]; exact hown) hm1
                  have hlt5 : w2.heap.size ≤ g := Nat.le_trans HC5.out.size hg5
                  obtain ⟨⟨u7, c7⟩, f7⟩ := hwr.at_ hz2
                  have hc6 := below_then HC5.out hb6
                  obtain ⟨b4, o4, e4, hb4, c4⟩ := (HCL.out w6 hc6).1 0 hlA
                  obtain ⟨rfl, rfl⟩ : b4 = b2 ∧ o4 = o2 := by cases e4; exact ⟨rfl, rfl⟩
                  rw [HA0.out, Nat.add_zero] at c4
                  have HWR := Lib.hid ((hwr.set HLM.out hz2 V).show_ (by simp; exact HLM.out) hrc)
                  have hb7 := (below_then HW5.out hb6).setCell (p := ⟨g, z, none⟩) (Nat.le_trans HW5.out.size hg5) (.int .u64 V)
                  have hc7 := (below_then HC5.out hb6).setCell (p := ⟨g, z, none⟩) hlt5 (.int .u64 V)
                  obtain ⟨w7, hw7⟩ : ∃ w7, w6.setCell ⟨g, z, none⟩ (.int .u64 V) = w7 := ⟨_, rfl⟩
                  have HEQ := Lib.hid hw7
                  rw [hw7] at HWR hb7 hc7
                  have HW7 := Lib.hid hb7
                  have HC7 := Lib.hid hc7
                  clear hown hb6 hsl hwr hb7 hc7 hw7 HW5 HC5
                  have HO7 := Lib.hid (HO2.out.below HC7.out)
                  have HP7 := Lib.hid (HP2.out.below HC7.out)
                  have hlc := cList (.slice (some ⟨g, 0, none⟩) m rc) (L.set z V) k p (A ++ B) 0 w7 HWR.out HK.out HJ2.out
                  obtain ⟨NC, hNC⟩ : ∃ N, (A ++ B).length = N := ⟨_, rfl⟩
                  have HNC := Lib.hid hNC
                  rw [hNC] at hlc
                  have HLC := Lib.hid hlc
                  clear hlc hNC e4 hrc HWR HJ2 hc6
                  go_wp2_with fail
                  rw [HEQ.out]
                  refine HLC.out.mono ?_
                  rintro e w8 ⟨co, cc, rfl, ho8, hb8⟩
                  have HW8 := Lib.hid (below_then HW7.out hb8)
                  have HO8 := Lib.hid (HO7.out.below hb8)
                  have HP8 := Lib.hid (HP7.out.below hb8)
                  have HQ8 := Lib.hid ho8.shows
                  clear ho8 hb8 HLC HO7 HP7 HW7 c4 HC7 HEQ c7 f7 hg5 hlt5
                  go_wp2_with fail
                  refine (cCopyI _ A w8 HO8.out (by rw [HNA.out]; omega)).mono ?_
                  rintro e w9 ⟨ro, rc9, rfl, ho9, hb9⟩
                  have hsp := HP8.out.below hb9
                  rw [HNA.out]
                  have hln : A.length + B.length ≤ 1000 := by rw [HNA.out, HNB.out]; omega
                  have hown : OwnI w8.heap.size w9 (.slice ro NA rc9) A := by rw [HNA.out] at ho9; exact ho9
                  have hsz := hb9.size
                  have HB9 := Lib.hid hb9
                  clear ho9 HO8 HP8 hb9
                  go_wp2_with (at_builtin; refine wpList_appendG (by rfl) _ _ (by rfl) w8.heap.size _ _ A B NC (by rfl) (by rfl) hown hsp hln hsz HNC.out ?_)
                  intro qo qc w10 ho10 hb10 _
                  have hb8 := HB9.out.trans hb10
                  have HW10 := Lib.hid (below_then HW8.out hb8)
                  have HQ10 := Lib.hid (HQ8.out.below hb8)
                  have HO10 := Lib.hid ho10.shows
                  clear hb8 ho10 hb10 hown hsp hln hsz HB9 HW8 HQ8
                  go_wp2_with fail
                  refine (cEqYes _ _ _ _ rfl _ HQ10.out HO10.out).mono ?_
                  rintro e w11 ⟨rfl, hb11⟩
                  have HW11 := Lib.hid (below_then HW10.out hb11)
                  clear hb11 HW10 HQ10 HO10
                  go_wp2_with fail
                  refine (works _).mono ?_
                  rintro e w12 ⟨rfl, hb12⟩
                  have HW12 := Lib.hid (below_then HW11.out hb12)
                  clear hb12 HW11
                  go_wp2
                  go_ret
                  exact ⟨rfl, HW12.out⟩
end Go.Proofs.Ytcahhcblhhpniaa
