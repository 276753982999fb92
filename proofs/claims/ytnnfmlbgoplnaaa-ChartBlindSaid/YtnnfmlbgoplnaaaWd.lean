/-
  What a list of words shows in a world; two lists of words compared; rows of words of one's own.
-/
import Derived.Test.YtnnfmlbgoplnaaaBase
set_option linter.unusedVariables false
set_option linter.unusedSimpArgs false
namespace Go.Proofs.Ytnnfmlbgoplnaaa
open Go Go.RowKit

abbrev wds (l : List Int) : List Value := l.map (Value.int .u64)
def ShowU (w : World) (v : Value) (l : List Int) : Prop := Shows w v l.length 1 (wds l)
theorem ShowU.form {w : World} {v : Value} {l : List Int} (h : ShowU w v l) : ∃ ao cap, v = .slice ao l.length cap ∧ (l.length ≤ cap ∧ cap ≤ 9223372036854775807) ∧ ∀ i, i < l.length → ∃ b o, ao = some ⟨b, o, none⟩ ∧ w.cell? ⟨b, o + i, none⟩ = some (.int .u64 (pk l i)) := by
  obtain ⟨hl, ao, cap, hv, hc, hs⟩ := h
  refine ⟨ao, cap, hv, by unfold maxLen at hc; omega, fun i hi => ?_⟩
  obtain ⟨b, o, ha, hx⟩ := hs (by omega)
  refine ⟨b, o, ha, ?_⟩
  have := hx i (by omega)
  rw [← pk_at l i hi]
  simpa [hi] using this
theorem ShowU.below {w w' : World} {v : Value} {l : List Int} (h : ShowU w v l) (hb : Below w.heap.size w w') : ShowU w' v l := Shows.below h hb
theorem ShowU.nil (w : World) : ShowU w (.slice none 0 0) [] := Shows.nil w 1
theorem lit_u (w : World) (t : TypeId) (l : List Int) (n : Nat) (hn : l.length = n) (hm : n ≤ 10000) : ShowU (w.alloc (.cells (wds l).toArray t)) (.slice (some ⟨w.heap.size, 0, none⟩) n n) l := by
  unfold ShowU
  rw [hn]
  exact lit_shows w t (wds l) n (by simp [hn]) hm
theorem own_u {w : World} {B n : Nat} {t : TypeId} {v : Value} {l : List Int} (h : w.ownsRow B t 1 v n (wds l)) : ShowU w v l := by
  have h1 := Shows.ofOwns h
  have hl : l.length = n := by have := h.1; simpa using this
  unfold ShowU
  rw [hl]
  exact h1
theorem infoU : (Try.prog.info? 22).map (fun i => (i.zero, i.size, i.bytes)) = some (some (.int .u64 0), 1, 8) := by kernel_rfl
set_option maxHeartbeats 2000000 in
set_option maxRecDepth 100000 in
theorem cEqWords (u v : Value) (a b : List Int) (w : World) (hu : ShowU w u a) (hv : ShowU w v b) :
    Calls Try.prog 36 #[u, v] w fun e w' => e = .returned (.bool (decide (a = b))) ∧ Below w.heap.size w w' := by
  obtain ⟨ao, cap, rfl, hcap, hat⟩ := hu.form
  obtain ⟨bo, cbp, rfl, hcbp, hbt⟩ := hv.form
  clear hu hv
  by_cases hl : a.length = b.length
  · have hl1 : a.length ≤ b.length := by omega
    have hl2 : b.length ≤ a.length := by omega
    have HLE := Lib.hid hl
    have hne : ((a.length : Int) != (b.length : Int)) = false := by simp [hl]
    clear hl
    go_enter Try.func36, Try.ntmps36
    go_wp2
    go_loopw [5] (fun i wr => ∃ k : Nat, k ≤ a.length ∧ i = .int .i64 k ∧ a.take k = b.take k ∧ Below w.heap.size w wr) (fun i _ => a.length - (intOf i).toNat)
    case atStart => exact ⟨0, by omega, rfl, rfl, Below.refl _ _⟩
    case round =>
      obtain ⟨k, hk, rfl, htk, hb⟩ := hrel
      have HT := Lib.hid htk
      clear htk
      by_cases hlt : k < a.length
      · have hlb : k < b.length := by omega
        obtain ⟨b1, o1, rfl, c1⟩ := hat k hlt
        obtain ⟨b2, o2, rfl, c2⟩ := hbt k hlb
        rw [← pk_at a k hlt] at c1
        rw [← pk_at b k hlb] at c2
        have d1 := (hb.cell (p := ⟨b1, o1 + k, none⟩) (World.block_lt_of_cell? w _ c1)).trans c1
        have d2 := (hb.cell (p := ⟨b2, o2 + k, none⟩) (World.block_lt_of_cell? w _ c2)).trans c2
        clear c1 c2
        have HS : Hid (a[k] = b[k] → a.take (k + 1) = b.take (k + 1)) := Lib.hid (take_eq_succ a b k hlt hlb HT.out)
        have HN : Hid (a[k] ≠ b[k] → a ≠ b) := Lib.hid (ne_of_at a b k hlt hlb)
        generalize a[k] = x at d1 HS HN
        generalize b[k] = y at d2 HS HN
        by_cases hxy : x = y
        · subst hxy
          have HS1 := Lib.hid (HS.out rfl)
          clear HS HN
          go_wp2
          go_quiet (fail)
          go_wp2
          go_roundw
          case rel => exact ⟨k + 1, by omega, by go_num, HS1.out, below_drewN hb _⟩
          case measure => simp [intOf]; omega
        · have HN1 := Lib.hid (HN.out hxy)
          have hne' : (x != y) = true := by simpa using hxy
          clear HS HN
          go_wp2
          go_quiet (fail)
          go_wp2
          go_ret
          exact ⟨ret_bool (by rw [decide_eq_false HN1.out]), below_drewN hb _⟩
      · have hke : k = a.length := by omega
        subst hke
        have HE : Hid (a = b) := Lib.hid (by have := HT.out; rwa [List.take_length, HLE.out, List.take_length] at this)
        go_wp2
        go_ret
        exact ⟨ret_bool (by rw [decide_eq_true HE.out]), hb⟩
  · have hne : ((a.length : Int) != (b.length : Int)) = true := by simp; omega
    have HN : Hid (a ≠ b) := Lib.hid (fun e => hl (by rw [e]))
    go_enter Try.func36, Try.ntmps36
    go_wp2
    go_ret
    exact ⟨ret_bool (by rw [decide_eq_false HN.out]), Below.refl _ _⟩
theorem wds_one (l : List Int) : ∀ u ∈ wds l, u.oneCell' = true := by
  intro u hu
  obtain ⟨x, _, rfl⟩ := List.mem_map.1 hu
  rfl
theorem wds_at {l : List Int} {i : Nat} (h : i < l.length) : (wds l)[i]? = some (.int .u64 (pk l i)) := by
  rw [← pk_at l i h]
  simp [h]
theorem wds_append (a b : List Int) : wds (a ++ b) = wds a ++ wds b := by simp
abbrev OwnU (B : Nat) (w : World) (v : Value) (l : List Int) : Prop := w.ownsRow B 22 1 v l.length (wds l)
theorem OwnU.shows {B : Nat} {w : World} {v : Value} {l : List Int} (h : OwnU B w v l) : ShowU w v l := own_u h
theorem OwnU.nil (B : Nat) (w : World) : OwnU B w (.slice none 0 0) [] := World.ownsRow_nil _ _ _ _
theorem OwnU.below {B : Nat} {w w' : World} {v : Value} {l : List Int} (h : OwnU B w v l) (hb : Below w.heap.size w w') : OwnU B w' v l := own_below h hb
theorem OwnU.le {B B' : Nat} {w : World} {v : Value} {l : List Int} (h : OwnU B w v l) (hB : B' ≤ B) : OwnU B' w v l := by
  refine ⟨h.1, ?_⟩
  rcases h.2 with h | ⟨g, cap, cur, e, hb, hr⟩
  · exact .inl h
  · exact .inr ⟨g, cap, cur, e, Nat.le_trans hB hb, hr⟩
theorem run_appendU {w : World} {B : Nat} {v u : Value} {l b : List Int} (hown : OwnU B w v l) (hu : ShowU w u b) (hl : l.length + b.length ≤ 1000) (hB : B ≤ w.heap.size) (ty : TypeId) :
    ∃ ao cap w', (Builtin.append_ #[35, 35] ty #[v, u]).run Try.prog w = .ok (.slice ao (l ++ b).length cap) w' ∧ OwnU B w' (.slice ao (l ++ b).length cap) (l ++ b) ∧ Below B w w' ∧ w.grownBy w' v.ownBlock := by
  obtain ⟨i0, hi, hz0, hz1, hz2⟩ := info_parts infoU
  obtain ⟨ao, cap, rfl, hcap, hat⟩ := hu.form
  cases ao with
  | none =>
    have h0 : b = [] := by
      cases b with
      | nil => rfl
      | cons x l => obtain ⟨b, o, e, _⟩ := hat 0 (by simp); cases e
    subst h0
    obtain ⟨va, vc, rfl, hv1, hv2⟩ := own_shape hown
    rw [List.append_nil]
    refine ⟨va, vc, w, ?_, hown, Below.refl _ _, grown_of_below (B := 0) (Below.refl _ _) (Nat.le_refl _)⟩
    simp [Builtin.append_, run_underlying Try.underlying35, sizeOf, typeInfo, hi, Builtin.lenOf, Builtin.firstCells, hv1]
    cases va <;> simp [storeCells, List.forM_nil]
  | some ad =>
    have hnews : ∀ j v, (wds b)[j]? = some v → w.cell? (ad.add j) = some v := by
      intro j v hj
      have hlt : j < b.length := by
        have := (List.getElem?_eq_some_iff.1 hj).1
        simpa using this
      obtain ⟨b1, o, e, c0⟩ := hat j hlt
      obtain rfl := Option.some.inj e
      rw [plain_add, c0, ← hj, wds_at hlt]
    obtain ⟨v', w', hr, hown', hg, _, _⟩ := run_append_own_at (P := Try.prog) w B 35 ty 22 i0 _ 1 8 Try.underlying35 hi hz0 hz1 hz2 rfl (by decide) v l.length (wds l) hown ad b.length cap (wds b) (by simp) hnews (wds_one b) (by unfold maxLen; omega) (by omega) hB
    have hown2 : OwnU B w' v' (l ++ b) := by
      unfold OwnU
      rw [wds_append, List.length_append]
      exact hown'
    obtain ⟨a', c', rfl, _⟩ := own_shape hown2
    exact ⟨a', c', w', hr, hown2, (Below.refl _ w).grown hg hB (own_ge hown), hg⟩
theorem wpList_appendU {ops : Array Oper} {rest : List Oper} {o : Oper} {a : Act} {Q : Exit → Act → World → Prop} {w : World} (hgd : o.guard = none) (s x : Operand)
    (ho : o.op = .call { callee := .builtin .append, args := #[s, x], argTypes := #[35, 35] })
    (B : Nat) (v u : Value) (l b : List Int) (n : Nat) (hs : a.eval s = v) (hx : a.eval x = u) (hown : OwnU B w v l) (hu : ShowU w u b) (hl : l.length + b.length ≤ 1000) (hB : B ≤ w.heap.size) (hn : (l ++ b).length = n)
    (h : ∀ ao cap w', OwnU B w' (.slice ao n cap) (l ++ b) → Below B w w' → wpList Try.prog ops Q rest (a.put o.dst (.slice ao n cap)) w') :
    wpList Try.prog ops Q (o :: rest) a w := by
  subst hn
  refine wpList_plain hgd fun K hK => ?_
  obtain ⟨ao, cap, w', hr, h1, h2, h3⟩ := run_appendU hown hu hl hB o.type
  unfold Oper.wp execOp
  simp only [ho, resolve, invoke, builtin, Sem.run_bind, Sem.run_pure, Result.andThen_ok, List.map_toArray, List.map_cons, List.map_nil, hs, hx, hr]
  exact hK _ _ (h _ _ _ h1 h2)
theorem wpList_appendU2 {ops : Array Oper} {rest : List Oper} {o : Oper} {a : Act} {Q : Exit → Act → World → Prop} {w : World} (hgd : o.guard = none) (s x : Operand)
    (ho : o.op = .call { callee := .builtin .append, args := #[s, x], argTypes := #[35, 35] })
    (B : Nat) (v u : Value) (l b : List Int) (n : Nat) (hs : a.eval s = v) (hx : a.eval x = u) (hown : OwnU B w v l) (hu : ShowU w u b) (hl : l.length + b.length ≤ 1000) (hB : B ≤ w.heap.size) (hn : (l ++ b).length = n)
    (h : ∀ ao cap w', OwnU B w' (.slice ao n cap) (l ++ b) → Below B w w' → w.grownBy w' v.ownBlock → wpList Try.prog ops Q rest (a.put o.dst (.slice ao n cap)) w') :
    wpList Try.prog ops Q (o :: rest) a w := by
  subst hn
  refine wpList_plain hgd fun K hK => ?_
  obtain ⟨ao, cap, w', hr, h1, h2, h3⟩ := run_appendU hown hu hl hB o.type
  unfold Oper.wp execOp
  simp only [ho, resolve, invoke, builtin, Sem.run_bind, Sem.run_pure, Result.andThen_ok, List.map_toArray, List.map_cons, List.map_nil, hs, hx, hr]
  exact hK _ _ (h _ _ _ h1 h2 h3)
theorem cEqWYes (u v : Value) (l m : List Int) (hlm : l = m) (w : World) (hu : ShowU w u l) (hv : ShowU w v m) :
    Calls Try.prog 36 #[u, v] w fun e w' => e = .returned (.bool true) ∧ Below w.heap.size w w' := by
  refine (cEqWords u v l m w hu hv).mono ?_
  rintro e w' ⟨rfl, hb⟩
  exact ⟨by rw [decide_eq_true hlm], hb⟩
theorem run_copyU {w : World} {u : Value} {l : List Int} (hu : ShowU w u l) (hl : l.length ≤ 17592186044416) (ty : TypeId) :
    ∃ ao cap w', (Builtin.append_ #[35, 35] ty #[.slice none 0 0, u]).run Try.prog w = .ok (.slice ao l.length cap) w' ∧ w'.ownsRow w.heap.size 22 1 (.slice ao l.length cap) l.length (wds l) ∧ Below w.heap.size w w' := by
  obtain ⟨i0, hi, hz0, hz1, hz2⟩ := info_parts infoU
  obtain ⟨ao, cap, rfl, hcap, hat⟩ := hu.form
  cases ao with
  | none =>
    have h0 : l = [] := by
      cases l with
      | nil => rfl
      | cons x l => obtain ⟨b, o, e, _⟩ := hat 0 (by simp); cases e
    subst h0
    refine ⟨none, 0, w, ?_, World.ownsRow_nil _ _ _ _, Below.refl _ _⟩
    simp [Builtin.append_, run_underlying Try.underlying35, sizeOf, typeInfo, hi, Builtin.lenOf, Builtin.firstCells]
  | some ad =>
    have hnews : ∀ j v, (wds l)[j]? = some v → w.cell? (ad.add j) = some v := by
      intro j v hj
      have hlt : j < l.length := by
        have := (List.getElem?_eq_some_iff.1 hj).1
        simpa using this
      obtain ⟨b, o, e, c0⟩ := hat j hlt
      obtain rfl := Option.some.inj e
      rw [plain_add, c0, ← hj, wds_at hlt]
    obtain ⟨v', w', hr, hown, hg, _, _⟩ := run_append_own_at (P := Try.prog) w w.heap.size 35 ty 22 i0 _ 1 8 Try.underlying35 hi hz0 hz1 hz2 rfl (by decide) (.slice none 0 0) 0 [] (World.ownsRow_nil _ _ _ _) ad l.length cap (wds l) (by simp) hnews (wds_one l) (by unfold maxLen; omega) (by omega) (Nat.le_refl _)
    have hown' : w'.ownsRow w.heap.size 22 1 v' l.length (wds l) := by simpa using hown
    obtain ⟨a', c', rfl, _⟩ := own_shape hown'
    exact ⟨a', c', w', hr, hown', (Below.refl _ w).grown hg (Nat.le_refl _) (fun k hk => by simp [Value.ownBlock] at hk)⟩
theorem wpList_copyU {ops : Array Oper} {rest : List Oper} {o : Oper} {a : Act} {Q : Exit → Act → World → Prop} {w : World} (hgd : o.guard = none) (s x : Operand)
    (ho : o.op = .call { callee := .builtin .append, args := #[s, x], argTypes := #[35, 35] })
    (hs : a.eval s = .slice none 0 0) (u : Value) (l : List Int) (hu : ShowU w u l) (hx : a.eval x = u) (hl : l.length ≤ 17592186044416)
    (h : ∀ ao cap w', w'.ownsRow w.heap.size 22 1 (.slice ao l.length cap) l.length (wds l) → Below w.heap.size w w' → wpList Try.prog ops Q rest (a.put o.dst (.slice ao l.length cap)) w') :
    wpList Try.prog ops Q (o :: rest) a w := by
  refine wpList_plain hgd fun K hK => ?_
  obtain ⟨ao, cap, w', hr, h1, h2⟩ := run_copyU hu hl o.type
  unfold Oper.wp execOp
  simp only [ho, resolve, invoke, builtin, Sem.run_bind, Sem.run_pure, Result.andThen_ok, List.map_toArray, List.map_cons, List.map_nil, hs, hx, hr]
  exact hK _ _ (h _ _ _ h1 h2)
end Go.Proofs.Ytnnfmlbgoplnaaa
