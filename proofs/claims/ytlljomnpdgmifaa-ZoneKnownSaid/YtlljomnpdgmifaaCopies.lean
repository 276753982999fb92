/-
  Copies; which processors, which pages are near.
-/
import Derived.Test.YtlljomnpdgmifaaNear

set_option linter.unusedVariables false
set_option linter.unusedSimpArgs false
namespace Go.Proofs.Ytlljomnpdgmifaa
open Go Go.RowKit

theorem nms_one (l : List Int) : ∀ u ∈ nms l, u.oneCell' = true := by
  intro u hu
  obtain ⟨x, _, rfl⟩ := List.mem_map.1 hu
  rfl
theorem run_copyI {w : World} {u : Value} {l : List Int} (hu : ShowI w u l) (hl : l.length ≤ 1000) (ty : TypeId) :
    ∃ ao cap w', (Builtin.append_ #[73, 73] ty #[.slice none 0 0, u]).run Try.prog w = .ok (.slice ao l.length cap) w' ∧ w'.ownsRow w.heap.size 3 1 (.slice ao l.length cap) l.length (nms l) ∧ Below w.heap.size w w' := by
  obtain ⟨i0, hi, hz0, hz1, hz2⟩ := info_parts infoI
  obtain ⟨ao, cap, rfl, hcap, hat⟩ := hu.form
  cases ao with
  | none =>
    have h0 : l = [] := by
      cases l with
      | nil => rfl
      | cons x l => obtain ⟨b, o, e, _⟩ := hat 0 (by simp); cases e
    subst h0
    refine ⟨none, 0, w, ?_, World.ownsRow_nil _ _ _ _, Below.refl _ _⟩
    simp [Builtin.append_, run_underlying Try.underlying73, sizeOf, typeInfo, hi, Builtin.lenOf, Builtin.firstCells]
  | some ad =>
    have hnews : ∀ j v, (nms l)[j]? = some v → w.cell? (ad.add j) = some v := by
      intro j v hj
      have hlt : j < l.length := by
        have := (List.getElem?_eq_some_iff.1 hj).1
        simpa using this
      obtain ⟨b, o, e, c0⟩ := hat j hlt
      obtain rfl := Option.some.inj e
      rw [plain_add, c0, ← hj, nms_at hlt]
    obtain ⟨v', w', hr, hown, hg, _, _⟩ := run_append_own_at (P := Try.prog) w w.heap.size 73 ty 3 i0 _ 1 8 Try.underlying73 hi hz0 hz1 hz2 rfl (by decide) (.slice none 0 0) 0 [] (World.ownsRow_nil _ _ _ _) ad l.length cap (nms l) (by simp) hnews (nms_one l) (by unfold maxLen; omega) (by omega) (Nat.le_refl _)
    have hown' : w'.ownsRow w.heap.size 3 1 v' l.length (nms l) := by simpa using hown
    obtain ⟨a', c', rfl, _⟩ := own_shape hown'
    exact ⟨a', c', w', hr, hown', (Below.refl _ w).grown hg (Nat.le_refl _) (fun k hk => by simp [Value.ownBlock] at hk)⟩
theorem wpList_copyI {ops : Array Oper} {rest : List Oper} {o : Oper} {a : Act} {Q : Exit → Act → World → Prop} {w : World} (hgd : o.guard = none) (s x : Operand)
    (ho : o.op = .call { callee := .builtin .append, args := #[s, x], argTypes := #[73, 73] })
    (hs : a.eval s = .slice none 0 0) (u : Value) (l : List Int) (hu : ShowI w u l) (hx : a.eval x = u) (hl : l.length ≤ 1000)
    (h : ∀ ao cap w', w'.ownsRow w.heap.size 3 1 (.slice ao l.length cap) l.length (nms l) → Below w.heap.size w w' → wpList Try.prog ops Q rest (a.put o.dst (.slice ao l.length cap)) w') :
    wpList Try.prog ops Q (o :: rest) a w := by
  refine wpList_plain hgd fun K hK => ?_
  obtain ⟨ao, cap, w', hr, h1, h2⟩ := run_copyI hu hl o.type
  unfold Oper.wp execOp
  simp only [ho, resolve, invoke, builtin, Sem.run_bind, Sem.run_pure, Result.andThen_ok, List.map_toArray, List.map_cons, List.map_nil, hs, hx, hr]
  exact hK _ _ (h _ _ _ h1 h2)
/-- a copy of one's own -/
def CopyIs (w : World) (l : List Int) (e : Ending) (w' : World) : Prop := ∃ ao cap, e = .returned (.slice ao l.length cap) ∧ w'.ownsRow w.heap.size 3 1 (.slice ao l.length cap) l.length (nms l) ∧ Below w.heap.size w w'
set_option maxHeartbeats 1000000 in
theorem cCopyOf (u : Value) (l : List Int) (w : World) (hu : ShowI w u l) (hl : l.length ≤ 1000) : Calls Try.prog 69 #[u] w (CopyIs w l) := by
  go_enter Try.func69, Try.ntmps69
  go_wp2_with (at_builtin; refine wpList_copyI (by rfl) _ _ (by rfl) (by rfl) u l hu (by rfl) hl ?_)
  intro ao cap w' hown hb
  go_wp2
  go_ret
  exact ⟨_, _, rfl, hown, hb⟩
set_option maxHeartbeats 1000000 in
theorem cCopyInts (u : Value) (l : List Int) (w : World) (hu : ShowI w u l) (hl : l.length ≤ 1000) : Calls Try.prog 79 #[u] w (CopyIs w l) := by
  go_enter Try.func79, Try.ntmps79
  go_wp2_with (at_builtin; refine wpList_copyI (by rfl) _ _ (by rfl) (by rfl) u l hu (by rfl) hl ?_)
  intro ao cap w' hown hb
  go_wp2
  go_ret
  exact ⟨_, _, rfl, hown, hb⟩

section
variable {w : World} {T : TypeId} {B g n lim : Nat} {vs : Nat → Value} {f : F}
set_option maxHeartbeats 1000000 in
theorem cIsCpu (h : NearG w 89 B g vs n lim f) (c : Int) (q : Bool) (hq : decide (0 ≤ c ∧ c < (n : Int)) = q) :
    Calls Try.prog 66 #[.pointer (some ⟨B, 0, none⟩), .int .i64 c] w fun e w' => e = .returned (.bool q) ∧ w' = w := by
  obtain ⟨c0, c1⟩ := h.self
  have hn := h.n1
  have HQ := Lib.hid hq
  clear hq h
  by_cases h1 : 0 ≤ c
  · by_cases h2 : c < n
    · go_enter Try.func66, Try.ntmps66
      go_wp2
      go_ret
      exact ⟨ret_bool (by rw [← HQ.out, decide_eq_true ⟨h1, h2⟩]), rfl⟩
    · go_enter Try.func66, Try.ntmps66
      go_wp2
      go_ret
      exact ⟨ret_bool (by rw [← HQ.out, decide_eq_false (by omega)]), rfl⟩
  · go_enter Try.func66, Try.ntmps66
    go_wp2
    go_ret
    exact ⟨ret_bool (by rw [← HQ.out, decide_eq_false (by omega)]), rfl⟩
set_option maxHeartbeats 1000000 in
theorem rHasCpu (h : NearG w 94 B g vs n lim f) (c : Int) (q : Bool) (hq : decide (0 ≤ c ∧ c < (n : Int)) = q) :
    Calls Try.prog 75 #[.pointer (some ⟨B, 0, none⟩), .int .i64 c] w fun e w' => e = .returned (.bool q) ∧ w' = w := by
  obtain ⟨c0, c1⟩ := h.self
  have hn := h.n1
  have HQ := Lib.hid hq
  clear hq h
  by_cases h1 : 0 ≤ c
  · by_cases h2 : c < n
    · go_enter Try.func75, Try.ntmps75
      go_wp2
      go_ret
      exact ⟨ret_bool (by rw [← HQ.out, decide_eq_true ⟨h1, h2⟩]), rfl⟩
    · go_enter Try.func75, Try.ntmps75
      go_wp2
      go_ret
      exact ⟨ret_bool (by rw [← HQ.out, decide_eq_false (by omega)]), rfl⟩
  · go_enter Try.func75, Try.ntmps75
    go_wp2
    go_ret
    exact ⟨ret_bool (by rw [← HQ.out, decide_eq_false (by omega)]), rfl⟩
end
/-- where x is in l, from the left; l's length if nowhere -/
theorem not_take_succ {l : List Int} {k : Nat} {x : Int} (hk : k < l.length) (h : x ∉ l.take k) (he : l[k] ≠ x) : x ∉ l.take (k + 1) := by
  rw [List.take_succ_eq_append_getElem hk, List.mem_append]
  rintro (h1 | h1)
  · exact h h1
  · exact he (List.mem_singleton.1 h1).symm
set_option maxHeartbeats 2000000 in
set_option maxRecDepth 100000 in
theorem cIndex (u : Value) (l : List Int) (x : Int) (w : World) (hu : ShowI w u l) :
    Calls Try.prog 95 #[u, .int .i64 x] w fun e w' => (∃ y : Int, e = .returned (.int .i64 y) ∧ (0 ≤ y ↔ x ∈ l)) ∧ w' = w := by
  obtain ⟨ao, cap, rfl, hcap, hat⟩ := hu.form
  clear hu
  go_enter Try.func95, Try.ntmps95
  go_wp2
  go_loopw [8] (fun i wr => ∃ k : Nat, k ≤ l.length ∧ i = .int .i64 k ∧ x ∉ l.take k ∧ wr = w) (fun i _ => l.length - (intOf i).toNat)
  case atStart => exact ⟨0, by omega, rfl, by simp, rfl⟩
  case round =>
    obtain ⟨k, hk, rfl, hnot, rfl⟩ := hrel
    have HN := Lib.hid hnot
    clear hnot
    by_cases hlt : k < l.length
    · obtain ⟨b1, o1, rfl, c1⟩ := hat k hlt
      rw [← pk_at l k hlt] at c1
      have HT : Hid (l[k] = x → x ∈ l) := Lib.hid (fun e => e ▸ List.getElem_mem hlt)
      have HF : Hid (l[k] ≠ x → x ∉ l.take (k + 1)) := Lib.hid (fun e => not_take_succ hlt HN.out e)
      generalize l[k] = y at c1 HT HF
      by_cases hxy : y = x
      · have HT1 := Lib.hid (HT.out hxy)
        have hq : (x == y) = true := by rw [beq_iff_eq]; exact hxy.symm
        clear HT HF HN
        go_wp2
        go_ret
        exact ⟨⟨_, rfl, fun _ => HT1.out, fun _ => by omega⟩, rfl⟩
      · have HF1 := Lib.hid (HF.out hxy)
        have hq : (x == y) = false := by rw [beq_eq_false_iff_ne]; exact fun e => hxy e.symm
        clear HT HF HN
        go_wp2
        go_roundw
        case rel => exact ⟨k + 1, by omega, by go_num, HF1.out, trivial⟩
        case measure => simp [intOf]; omega
    · obtain rfl : k = l.length := by omega
      go_wp2
      go_ret
      exact ⟨⟨_, rfl, fun e => by omega, fun e => absurd (by rw [List.take_length]; exact e) HN.out⟩, rfl⟩
set_option maxHeartbeats 1000000 in
theorem cContains (u : Value) (l : List Int) (x : Int) (q : Bool) (hq : decide (x ∈ l) = q) (w : World) (hu : ShowI w u l) :
    Calls Try.prog 88 #[u, .int .i64 x] w fun e w' => e = .returned (.bool q) ∧ w' = w := by
  have HQ := Lib.hid hq
  clear hq
  go_enter Try.func88, Try.ntmps88
  go_wp2_with fail
  refine (cIndex u l x w hu).mono ?_
  rintro e w1 ⟨⟨y, rfl, hy⟩, rfl⟩
  have HY := Lib.hid hy
  clear hy
  go_wp2
  go_ret
  exact ⟨ret_bool (by rw [← HQ.out]; exact decide_eq_decide.2 HY.out), rfl⟩
set_option maxHeartbeats 1000000 in
theorem cHas1 (u : Value) (l : List Int) (x : Int) (K : Nat) (q : Bool) (hq : decide (x ∈ l) = q) (w : World) (hu : ShowI w u l) (hK : w.cell? ⟨K, 0, none⟩ = some (.int .i64 x)) :
    Calls Try.prog 87 #[u, .pointer (some ⟨K, 0, none⟩)] w fun e w' => e = .returned (.bool q) ∧ w' = w := by
  go_enter Try.func87, Try.ntmps87
  go_wp2_with fail
  refine (cContains u l x q hq w hu).mono ?_
  rintro e w1 ⟨rfl, rfl⟩
  go_wp2
  go_ret
  exact ⟨rfl, rfl⟩
section
variable {w : World} {T : TypeId} {B g n lim : Nat} {vs : Nat → Value} {f : F}
theorem NearG.shows (h : NearG w T B g vs n lim f) {i : Nat} (hi : i < n) : ShowI w (vs i) (f i) := own_i (h.row i hi)
set_option maxHeartbeats 4000000 in
set_option maxRecDepth 100000 in
theorem cIndexFunc (h : NearG w T B g vs n lim f) (x : Int) (K : Nat) (hK : w.cell? ⟨K, 0, none⟩ = some (.int .i64 x)) :
    Calls Try.prog 94 #[.slice (some ⟨g, 0, none⟩) n n, .func (.func 87) #[] #[.pointer (some ⟨K, 0, none⟩)]] w fun e w' => (∃ y : Int, e = .returned (.int .i64 y) ∧ (0 ≤ y ↔ hasB f n x = true)) ∧ w' = w := by
  have HA := Lib.hid h
  have hn := h.n1
  clear h
  go_enter Try.func94, Try.ntmps94
  go_wp2
  go_loopw [8] (fun i wr => ∃ k : Nat, k ≤ n ∧ i = .int .i64 k ∧ Hid (∀ j, j < k → x ∉ f j) ∧ wr = w) (fun i _ => n - (intOf i).toNat)
  case atStart => exact ⟨0, by omega, rfl, Lib.hid (fun j hj => by omega), rfl⟩
  case round =>
    obtain ⟨k, hk, rfl, HN, rfl⟩ := hrel
    by_cases hlt : k < n
    · have c1 := HA.out.tab.cell hlt
      have hs := HA.out.shows hlt
      have HT : Hid (x ∈ f k → hasB f n x = true) := Lib.hid (fun e => hasB_iff.2 ⟨k, hlt, e⟩)
      have HF : Hid (x ∉ f k → ∀ j, j < k + 1 → x ∉ f j) := Lib.hid (fun e j hj => by
        by_cases ej : j = k
        · subst ej; exact e
        · exact HN.out j (by omega))
      obtain ⟨q, hq⟩ : ∃ q, decide (x ∈ f k) = q := ⟨_, rfl⟩
      have HQ := Lib.hid hq
      have HS := Lib.hid hs
      generalize vs k = v at c1 HS
      clear HN hq hs
      go_wp2_with fail
      refine (cHas1 v (f k) x K q HQ.out _ HS.out hK).mono ?_
      rintro e w1 ⟨rfl, rfl⟩
      cases q with
      | true =>
        have HT1 := Lib.hid (HT.out (of_decide_eq_true HQ.out))
        clear HT HF HQ
        go_wp2
        go_ret
        exact ⟨⟨_, rfl, fun _ => HT1.out, fun _ => by omega⟩, rfl⟩
      | false =>
        have HF1 := Lib.hid (HF.out (of_decide_eq_false HQ.out))
        clear HT HF HQ
        go_wp2
        go_roundw
        case rel => exact ⟨k + 1, by omega, by go_num, HF1, trivial⟩
        case measure => simp [intOf]; omega
    · obtain rfl : k = n := by omega
      go_wp2
      go_ret
      exact ⟨⟨_, rfl, fun e => by omega, fun e => by
        obtain ⟨i, hi, hx⟩ := hasB_iff.1 e
        exact absurd hx (HN.out i hi)⟩, rfl⟩
set_option maxHeartbeats 1000000 in
theorem cContainsFunc (h : NearG w T B g vs n lim f) (x : Int) (K : Nat) (hK : w.cell? ⟨K, 0, none⟩ = some (.int .i64 x)) (q : Bool) (hq : hasB f n x = q) :
    Calls Try.prog 86 #[.slice (some ⟨g, 0, none⟩) n n, .func (.func 87) #[] #[.pointer (some ⟨K, 0, none⟩)]] w fun e w' => e = .returned (.bool q) ∧ w' = w := by
  have HQ := Lib.hid hq
  clear hq
  go_enter Try.func86, Try.ntmps86
  go_wp2_with fail
  refine (cIndexFunc h x K hK).mono ?_
  rintro e w1 ⟨⟨y, rfl, hy⟩, rfl⟩
  have HY := Lib.hid hy
  clear hy
  go_wp2
  go_ret
  exact ⟨ret_bool (by rw [← HQ.out, Bool.eq_iff_iff, decide_eq_true_iff]; exact HY.out), rfl⟩
set_option maxHeartbeats 2000000 in
set_option maxRecDepth 100000 in
theorem cHas (h : NearG w 89 B g vs n lim f) (x : Int) (q : Bool) (hq : hasB f n x = q) :
    Calls Try.prog 67 #[.pointer (some ⟨B, 0, none⟩), .int .i64 x] w fun e w' => e = .returned (.bool q) ∧ Below w.heap.size w w' := by
  have HA := Lib.hid h
  obtain ⟨c0, c1⟩ := h.self
  have hlt := h.lt
  clear h
  go_enter Try.func67, Try.ntmps67
  go_wp2_with fail
  refine (cContainsFunc (HA.out.below (below_one (Below.refl _ _) _)) x w.heap.size (self_cell (heap_new _ _) 0 _ rfl) q hq).mono ?_
  rintro e w1 ⟨rfl, rfl⟩
  go_wp2
  go_ret
  exact ⟨rfl, below_one (Below.refl _ _) _⟩
end
end Go.Proofs.Ytlljomnpdgmifaa
