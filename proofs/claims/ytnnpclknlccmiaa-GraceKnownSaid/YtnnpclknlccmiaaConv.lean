/-
  queueOf, recordsOf of the program.
-/
import Derived.Test.YtnnpclknlccmiaaAt
set_option linter.unusedVariables false
set_option linter.unusedSimpArgs false
namespace Go.Proofs.Ytnnpclknlccmiaa
open Go Go.RowKit

theorem assertW (a d : Int) : ∀ w, (Instr.typeAssert (.iface 82 (.agg #[.int .i64 a, .int .i64 d])) 20 82 false).run Try.prog w = .ok (.agg #[.int .i64 a, .int .i64 d]) w := by
  intro w
  simp [Instr.typeAssert, run_underlying Try.underlying82]
theorem ifaceW (x : Value) : ∀ w, (Instr.makeInterface 82 x).run Try.prog w = .ok (.iface 82 x) w := by
  intro w
  simp [Instr.makeInterface, run_underlying Try.underlying82]
theorem infoA : (Try.prog.info? 20).map (fun i => (i.zero, i.size, i.bytes)) = some (some .nilIface, 1, 16) := by kernel_rfl
abbrev OwnA (B : Nat) (w : World) (v : Value) (l : List Wt) : Prop := w.ownsRow B 20 1 v l.length (anys l)
theorem anys_one (l : List Wt) : ∀ u ∈ anys l, u.oneCell' = true := by
  intro u hu
  obtain ⟨c, _, rfl⟩ := List.mem_map.1 hu
  rfl
theorem anys_append (a b : List Wt) : anys (a ++ b) = anys a ++ anys b := by simp [anys]
theorem OwnA.nil (B : Nat) (w : World) : OwnA B w (.slice none 0 0) [] := World.ownsRow_nil _ _ _ _
theorem OwnA.form {B : Nat} {w : World} {v : Value} {l : List Wt} (h : OwnA B w v l) : ∃ ao cap, v = .slice ao l.length cap ∧ (l.length ≤ cap ∧ cap ≤ 9223372036854775807) ∧ ∀ i, i < l.length → ∃ b o, ao = some ⟨b, o, none⟩ ∧ w.cell? ⟨b, o + i, none⟩ = some (.iface 82 (.agg #[.int .i64 (wt l i).who, .int .i64 (wt l i).due])) := by
  obtain ⟨hl, ao, cap, hv, hc, hs⟩ := Shows.ofOwns h
  refine ⟨ao, cap, hv, by unfold maxLen at hc; omega, fun i hi => ?_⟩
  obtain ⟨b, o, ha, hx⟩ := hs (by omega)
  refine ⟨b, o, ha, ?_⟩
  have := hx i (by omega)
  rw [this]
  simp [anys, hi, Wt.agg, wt]
theorem OwnA.le {B B' : Nat} {w : World} {v : Value} {l : List Wt} (h : OwnA B w v l) (hB : B' ≤ B) : OwnA B' w v l := by
  refine ⟨h.1, ?_⟩
  rcases h.2 with h | ⟨g, cap, cur, e, hb, hr⟩
  · exact .inl h
  · exact .inr ⟨g, cap, cur, e, Nat.le_trans hB hb, hr⟩
theorem take_wt {l : List Wt} {k : Nat} (h : k < l.length) : l.take (k + 1) = l.take k ++ [wt l k] := by rw [List.take_succ_eq_append_getElem h, wt_at l k h]
theorem len_take {l : List Wt} {k : Nat} (h : k ≤ l.length) : (l.take k).length = k := by rw [List.length_take]; omega
theorem wpList_appendA {ops : Array Oper} {rest : List Oper} {o : Oper} {a : Act} {Q : Exit → Act → World → Prop} {w : World} (hgd : o.guard = none) (s x : Operand)
    (ho : o.op = .call { callee := .builtin .append, args := #[s, x], argTypes := #[73, 73] })
    (B : Nat) (v : Value) (l : List Wt) (y : Wt) (n K : Nat) (w0 : World) (hK : w0.heap.size = K) (hw : w = w0.alloc (.cells #[.iface 82 y.agg] 20)) (hs : a.eval s = v) (hx : a.eval x = .slice (some ⟨K, 0, none⟩) 1 1) (hown : OwnA B w0 v l) (hl : l.length ≤ 1000) (hB : B ≤ w0.heap.size) (hn : l.length + 1 = n)
    (h : ∀ ao cap w', OwnA B w' (.slice ao n cap) (l ++ [y]) → Below B w0 w' → wpList Try.prog ops Q rest (a.put o.dst (.slice ao n cap)) w') :
    wpList Try.prog ops Q (o :: rest) a w := by
  subst hn hw hK
  obtain ⟨i0, hi, hz0, hz1, hz2⟩ := info_parts infoA
  have hb0 : Below B w0 (w0.alloc (.cells #[.iface 82 y.agg] 20)) := (Below.refl _ _).alloc hB _
  refine wpList_append_own_at _ hgd s x 73 ho B 20 i0 .nilIface 1 16 Try.underlying73 hi hz0 hz1 hz2 rfl (by decide) v l.length (anys l) hs (hown.alloc _) ⟨_, 0, none⟩ 1 1 [.iface 82 y.agg] hx (by rfl) (cell_one_new _ _ _) (by intro u hu; simp at hu; subst hu; rfl) (by unfold maxLen; omega) (by omega) (by rw [size_alloc]; omega) ?_
  intro v3 w3 hown3 hg3 hn3 hat3
  have e : (l ++ [y]).length = l.length + 1 := by simp
  have hown4 : OwnA B w3 v3 (l ++ [y]) := by
    unfold OwnA
    rw [e, anys_append]
    exact hown3
  obtain ⟨a', c', rfl, _⟩ := own_shape hown4
  rw [e] at hown4 ⊢
  exact h a' c' w3 hown4 (hb0.grown hg3 (by rw [size_alloc]; omega) (own_ge hown))
set_option maxHeartbeats 1000000 in
set_option maxRecDepth 100000 in
theorem cQueueOf (u : Value) (l : List Wt) (w : World) (hu : OwnA 0 w u l) (hlen : l.length ≤ 256) : Calls Try.prog 40 #[u] w (GivesW w l) := by
  obtain ⟨ao, cap, rfl, hcap, hat⟩ := hu.form
  clear hu
  go_enter Try.func40, Try.ntmps40
  go_wp2
  go_loopw [3, 8, 5] (fun v i x wr => ∃ k : Nat, k ≤ l.length ∧ i = .int .i64 k ∧ Hid (OwnW w.heap.size wr v (l.take k)) ∧ Below w.heap.size w wr) (fun _ i _ _ => l.length - (intOf i).toNat)
  case atStart => exact ⟨0, by omega, rfl, Lib.hid (OwnW.nil _ _), Below.refl _ _⟩
  case round =>
    obtain ⟨k, hk, rfl, HO, hb⟩ := hrel
    obtain ⟨va, vc, rfl, _, _⟩ := own_shape HO.out
    rw [len_take hk] at HO ⊢
    by_cases hlt : k < l.length
    · obtain ⟨b1, o1, rfl, c1⟩ := hat k hlt
      have d1 := cell_keep hb c1
      have HT := Lib.hid (take_wt hlt)
      have HL := Lib.hid (len_take hk)
      have hbz := hb.size
      generalize wt l k = x at d1 HT c1
      obtain ⟨a, d⟩ := x
      dsimp only at d1
      have hta := assertW a d
      clear c1
      go_wp2_with (at_builtin; refine wpList_appendW (by rfl) _ _ (by rfl) w.heap.size _ _ (l.take k) [Wt.mk a d] (by rfl) (by rfl) (HO.out.below (below_one (Below.refl _ _) _)) (lit_one wr a d) (by rw [HL.out]; show k + 1 ≤ 1000; omega) (by rw [size_alloc]; omega) ?_)
      intro a3 c3 w3 hown3 hb3
      have HO3 : Hid (OwnW w.heap.size w3 (.slice a3 (k + 1) c3) (l.take (k + 1))) := Lib.hid (by rw [HT.out]; first | exact hown3 | (rw [List.length_append, HL.out] at hown3; exact hown3))
      have HB3 := Lib.hid ((below_one hb _).trans hb3)
      clear hown3 hb3
      go_wp2
      go_roundw
      case rel => exact ⟨k + 1, by omega, by go_num, HO3, HB3.out⟩
      case measure => simp [intOf]; omega
    · obtain rfl : k = l.length := by omega
      have HO2 : Hid (OwnW w.heap.size wr (.slice va l.length vc) l) := Lib.hid (by have := HO.out; rwa [List.take_length] at this)
      go_wp2
      go_ret
      exact ⟨va, vc, rfl, HO2.out, hb⟩
/-- records of a processor's own are answered -/
def GivesA (w : World) (l : List Wt) (e : Ending) (w' : World) : Prop := ∃ ao cap, e = .returned (.slice ao l.length cap) ∧ OwnA w.heap.size w' (.slice ao l.length cap) l ∧ Below w.heap.size w w'
set_option maxHeartbeats 1000000 in
set_option maxRecDepth 100000 in
theorem cRecordsOf (u : Value) (l : List Wt) (w : World) (hu : ShowW w u l) (hlen : l.length ≤ 256) : Calls Try.prog 41 #[u] w (GivesA w l) := by
  obtain ⟨ao, cap, rfl, hcap, hat⟩ := hu.form
  clear hu
  go_enter Try.func41, Try.ntmps41
  go_wp2
  go_loopw [3, 8, 5] (fun v i x wr => ∃ k : Nat, k ≤ l.length ∧ i = .int .i64 k ∧ Hid (OwnA w.heap.size wr v (l.take k)) ∧ Below w.heap.size w wr) (fun _ i _ _ => l.length - (intOf i).toNat)
  case atStart => exact ⟨0, by omega, rfl, Lib.hid (OwnA.nil _ _), Below.refl _ _⟩
  case round =>
    obtain ⟨k, hk, rfl, HO, hb⟩ := hrel
    obtain ⟨va, vc, rfl, _, _⟩ := own_shape HO.out
    rw [len_take hk] at HO ⊢
    by_cases hlt : k < l.length
    · obtain ⟨b1, o1, rfl, c1, c2⟩ := hat k hlt
      have d1 := cell_keep hb c1
      have d2 := cell_keep hb c2
      have HT := Lib.hid (take_wt hlt)
      have HL := Lib.hid (len_take hk)
      have hbz := hb.size
      generalize wt l k = x at d1 d2 HT c1 c2
      obtain ⟨a, d⟩ := x
      dsimp only at d1 d2
      have hta := ifaceW (.agg #[.int .i64 a, .int .i64 d])
      clear c1 c2
      go_wp2_with (at_builtin; refine wpList_appendA (by rfl) _ _ (by rfl) w.heap.size _ (l.take k) ⟨a, d⟩ (k + 1) (wr.heap.size + 1) _ (size_alloc _ _) rfl (by rfl) (by rfl) (own_below HO.out (below_one (Below.refl _ _) _)) (by rw [HL.out]; omega) (by rw [size_alloc]; omega) (by rw [HL.out]) ?_)
      intro a3 c3 w3 hown3 hb3
      have HO3 : Hid (OwnA w.heap.size w3 (.slice a3 (k + 1) c3) (l.take (k + 1))) := Lib.hid (by rw [HT.out]; exact hown3)
      have HB3 : Hid (Below w.heap.size w w3) := Lib.hid ((below_one hb _).trans hb3)
      clear hown3 hb3
      go_wp2
      go_roundw
      case rel => exact ⟨k + 1, by omega, by go_num, HO3, HB3.out⟩
      case measure => simp [intOf]; omega
    · obtain rfl : k = l.length := by omega
      have HO2 : Hid (OwnA w.heap.size wr (.slice va l.length vc) l) := Lib.hid (by have := HO.out; rwa [List.take_length] at this)
      go_wp2
      go_ret
      exact ⟨va, vc, rfl, HO2.out, hb⟩
end Go.Proofs.Ytnnpclknlccmiaa
