/-
  The small helpers of the document's answers: EqInts, EqBytes, CopyBytes, CopyInts.
-/
import Derived.Test.YtifkkblmcdggmaaScript
import Derived.Lib.SlBytesRow
import Derived.Lib.BufferRead
import Derived.Laws.StructEq
set_option linter.unusedVariables false
set_option linter.unusedSimpArgs false
namespace Go.Proofs.Ytifkkblmcdggmaa
open Go Go.RowKit

theorem below_drewN {B : Nat} {a w : World} (h : Below B a w) (n : Nat) : Below B a (w.drewN n) := ⟨h.os, h.tape, h.output, h.size, h.block⟩
theorem take_eq_succ {α : Type} (a b : List α) (k : Nat) (ha : k < a.length) (hb : k < b.length) (h : a.take k = b.take k) (he : a[k] = b[k]) : a.take (k + 1) = b.take (k + 1) := by
  rw [List.take_succ_eq_append_getElem ha, List.take_succ_eq_append_getElem hb, h, he]
theorem ne_of_at {α : Type} (a b : List α) (k : Nat) (ha : k < a.length) (hb : k < b.length) (he : a[k] ≠ b[k]) : a ≠ b := by
  rintro rfl
  exact he rfl

set_option maxHeartbeats 2000000 in
set_option maxRecDepth 100000 in
theorem cEqInts (u v : Value) (a b : List Int) (w : World) (hu : ShowInts w u a) (hv : ShowInts w v b) :
    Calls Try.prog 22 #[u, v] w fun e w' => e = .returned (.bool (decide (a = b))) ∧ Below w.heap.size w w' := by
  obtain ⟨ao, cap, rfl, hcap, hat⟩ := hu.form
  obtain ⟨bo, cbp, rfl, hcbp, hbt⟩ := hv.form
  clear hu hv
  by_cases hl : a.length = b.length
  · have hl1 : a.length ≤ b.length := by omega
    have hl2 : b.length ≤ a.length := by omega
    have HLE := Lib.hid hl
    have hne : ((a.length : Int) != (b.length : Int)) = false := by simp [hl]
    clear hl
    go_enter Try.func22, Try.ntmps22
    go_wp2
    go_loopw [5] (fun i wr => ∃ k : Nat, k ≤ a.length ∧ i = .int .i64 k ∧ a.take k = b.take k ∧ Below w.heap.size w wr) (fun i _ => a.length - (intOf i).toNat)
    case atStart => exact ⟨0, by omega, rfl, rfl, Below.refl _ _⟩
    case round =>
      obtain ⟨k, hk, rfl, htk, hb⟩ := hrel
      have HT := Lib.hid htk
      clear htk
      by_cases hlt : k < a.length
      · have hlb : k < b.length := by omega
        obtain ⟨b1, o1, rfl, c1⟩ := hat k hlt
        obtain ⟨b2, o2, rfl, c2⟩ := hbt k hlb
        have d1 := (hb.cell (p := ⟨b1, o1 + k, none⟩) (World.block_lt_of_cell? w _ c1)).trans c1
        have d2 := (hb.cell (p := ⟨b2, o2 + k, none⟩) (World.block_lt_of_cell? w _ c2)).trans c2
        clear c1 c2
        have HS : Hid (a[k] = b[k] → a.take (k + 1) = b.take (k + 1)) := Lib.hid (take_eq_succ a b k hlt hlb HT.out)
        have HN : Hid (a[k] ≠ b[k] → a ≠ b) := Lib.hid (ne_of_at a b k hlt hlb)
        generalize a[k] = x at d1 HS HN
        generalize b[k] = y at d2 HS HN
        by_cases hxy : x = y
        · subst hxy
          have HS1 := Lib.hid (HS.out rfl)
          clear HS HN
          go_wp2
          go_quiet (fail)
          go_wp2
          go_roundw
          case rel => exact ⟨k + 1, by omega, by go_num, HS1.out, below_drewN hb _⟩
          case measure => simp [intOf]; omega
        · have HN1 := Lib.hid (HN.out hxy)
          have hne' : (x != y) = true := by simpa using hxy
          clear HS HN
          go_wp2
          go_quiet (fail)
          go_wp2
          go_ret
          exact ⟨ret_bool (by rw [decide_eq_false HN1.out]), below_drewN hb _⟩
      · have hke : k = a.length := by omega
        subst hke
        have HE : Hid (a = b) := Lib.hid (by have := HT.out; rwa [List.take_length, HLE.out, List.take_length] at this)
        go_wp2
        go_ret
        exact ⟨ret_bool (by rw [decide_eq_true HE.out]), hb⟩
  · have hne : ((a.length : Int) != (b.length : Int)) = true := by simp; omega
    have HN : Hid (a ≠ b) := Lib.hid (fun e => hl (by rw [e]))
    go_enter Try.func22, Try.ntmps22
    go_wp2
    go_ret
    exact ⟨ret_bool (by rw [decide_eq_false HN.out]), Below.refl _ _⟩

/-- bytes as a text -/
def strB (l : List Int) : ByteArray := l.foldl (fun r n => r.push (UInt8.ofNat n.toNat)) ByteArray.empty
theorem strB_aux (l : List Int) (r : ByteArray) : (l.foldl (fun r n => r.push (UInt8.ofNat n.toNat)) r).data.toList = r.data.toList ++ l.map fun n => UInt8.ofNat n.toNat := by
  induction l generalizing r with
  | nil => simp
  | cons x l ih => rw [List.foldl_cons, ih]; simp [ByteArray.push]
theorem strB_list (l : List Int) : (strB l).data.toList = l.map fun n => UInt8.ofNat n.toNat := by
  rw [strB, strB_aux]
  rfl
theorem strB_inj {a b : List Int} (ha : Bytey a) (hb : Bytey b) (h : strB a = strB b) : a = b := by
  have h' : a.map (fun n => UInt8.ofNat n.toNat) = b.map fun n => UInt8.ofNat n.toNat := by rw [← strB_list, ← strB_list, h]
  clear h
  induction a generalizing b with
  | nil => cases b with
    | nil => rfl
    | cons y b => simp at h'
  | cons x a ih => cases b with
    | nil => simp at h'
    | cons y b =>
      simp only [List.map_cons, List.cons.injEq] at h'
      have hx := ha x (by simp)
      have hy := hb y (by simp)
      have e : x = y := by
        have h1 := congrArg UInt8.toNat h'.1
        simp only [UInt8.toNat_ofNat'] at h1
        omega
      rw [e, ih (fun z hz => ha z (by simp [hz])) (fun z hz => hb z (by simp [hz])) h'.2]
theorem conv_bytes {w : World} {v : Value} {l : List Int} (h : ShowBytes w v l) : (convert 27 9 v).run Try.prog w = .ok (.string (strB l)) w := by
  obtain ⟨ao, cap, rfl, _, hat⟩ := h.form
  by_cases h0 : ao = none
  · subst h0
    have hl : l = [] := by
      cases l with
      | nil => rfl
      | cons x l => obtain ⟨b, o, e, _⟩ := hat 0 (by simp); cases e
    subst hl
    exact Lib.run_convert_nil_bytes w _ _ _ _ Try.underlying27 Try.underlying5 Try.underlying9
  · obtain ⟨ad, rfl⟩ : ∃ ad, ao = some ad := by
      cases ao with
      | none => exact absurd rfl h0
      | some ad => exact ⟨ad, rfl⟩
    rw [run_convert_bytes_string w _ _ _ _ _ _ Try.underlying27 Try.underlying5 Try.underlying9]
    refine run_bytesToString w ad l.length cap l ?_
    have hl : l.length = (l.map (Value.int .u8)).length := by simp
    rw [hl]
    refine run_loadCells_list w ad (l.map (Value.int .u8)) fun j u hj => ?_
    have hlt : j < l.length := by
      have := (List.getElem?_eq_some_iff.1 hj).1
      simpa using this
    obtain ⟨b, o, e, hc⟩ := hat j hlt
    obtain rfl := Option.some.inj e
    have ha : (⟨b, o, none⟩ : Addr).add j = ⟨b, o + j, none⟩ := by
      by_cases hj0 : j = 0
      · subst hj0; rfl
      · simp [Addr.add, hj0]
    rw [ha, hc]
    simpa [hlt] using hj

set_option maxHeartbeats 1000000 in
theorem cEqBytes (u v : Value) (a b : List Int) (w : World) (hu : ShowBytes w u a) (hv : ShowBytes w v b) (ha : Bytey a) (hb : Bytey b) :
    Calls Try.prog 14 #[u, v] w fun e w' => e = .returned (.bool (decide (a = b))) ∧ w' = w := by
  have h1 := conv_bytes hu
  have h2 := conv_bytes hv
  have hd : ((strB a).toList == (strB b).toList) = decide (a = b) := by
    by_cases h : a = b
    · subst h; simp
    · rw [decide_eq_false h]
      simp only [beq_eq_false_iff_ne, ne_eq]
      intro e
      rw [ByteArray.toList_eq, ByteArray.toList_eq] at e
      exact h (strB_inj ha hb (ByteArray.ext (Array.toList_inj.1 e)))
  have HD := Lib.hid hd
  clear hd
  generalize strB a = s at h1 HD
  generalize strB b = t at h2 HD
  go_enter Try.func14, Try.ntmps14
  go_wp2
  go_ret
  exact ⟨ret_bool HD.out, rfl⟩


set_option maxHeartbeats 1000000 in
/-- append(nil, l..): a copy in memory of its own. -/
theorem cCopyBytes (u : Value) (a : List Int) (w : World) (hu : ShowBytes w u a) (hl : a.length * 1 ≤ 140737488355328) :
    Calls Try.prog 17 #[u] w fun e w' => ∃ v, e = .returned v ∧ OwnBytes w.heap.size w' v a ∧ Below w.heap.size w w' := by
  obtain ⟨i0, hi, hz0, hz1, hz2⟩ := info_parts infoU8
  obtain ⟨ao, cap, rfl, hcap, hat⟩ := hu.form
  cases ao with
  | none =>
    have h0 : a = [] := by
      cases a with
      | nil => rfl
      | cons x l => obtain ⟨b, o, e, _⟩ := hat 0 (by simp); cases e
    subst h0
    simp only [List.length_nil]
    go_enter Try.func17, Try.ntmps17
    go_wp2
    go_ret
    exact ⟨_, rfl, World.ownsRow_nil _ _ _ _, Below.refl _ _⟩
  | some ad =>
    have hnews : ∀ j v, (bytes a)[j]? = some v → w.cell? (ad.add j) = some v := by
      intro j v hj
      have hlt : j < a.length := by
        have := (List.getElem?_eq_some_iff.1 hj).1
        simpa using this
      obtain ⟨b, o, e, hc⟩ := hat j hlt
      obtain rfl := Option.some.inj e
      rw [show (⟨b, o, none⟩ : Addr).add j = ⟨b, o + j, none⟩ by
        by_cases hj0 : j = 0
        · subst hj0; rfl
        · simp [Addr.add, hj0], hc]
      simpa [hlt] using hj
    have hone : ∀ u ∈ bytes a, u.oneCell' = true := by
      intro u hu
      simp at hu
      obtain ⟨y, _, rfl⟩ := hu
      rfl
    go_enter Try.func17, Try.ntmps17
    go_wp2_with (at_builtin; refine wpList_append_own_at (w := w) (by rfl) _ _ _ (by rfl) w.heap.size 5 i0 _ 1 1 Try.underlying27 hi hz0 hz1 hz2 (by rfl) (by decide) _ 0 [] (by rfl) (World.ownsRow_nil _ _ _ _) ad a.length cap (bytes a) (by rfl) (by simp) hnews hone (by unfold maxLen; omega) (by omega) (Nat.le_refl _) ?_)
    intro v w' hown hg _ _
    go_wp2
    go_ret
    refine ⟨_, rfl, ?_, (Below.refl _ w).grown hg (Nat.le_refl _) (fun k hk => by simp [Value.ownBlock] at hk)⟩
    unfold OwnBytes
    simpa using hown

set_option maxHeartbeats 1000000 in
/-- append(nil, l..): a copy in memory of its own. -/
theorem cCopyInts (u : Value) (a : List Int) (w : World) (hu : ShowInts w u a) (hl : a.length * 8 ≤ 140737488355328) :
    Calls Try.prog 21 #[u] w fun e w' => ∃ v, e = .returned v ∧ OwnInts w.heap.size w' v a ∧ Below w.heap.size w w' := by
  obtain ⟨i0, hi, hz0, hz1, hz2⟩ := info_parts infoI
  obtain ⟨ao, cap, rfl, hcap, hat⟩ := hu.form
  cases ao with
  | none =>
    have h0 : a = [] := by
      cases a with
      | nil => rfl
      | cons x l => obtain ⟨b, o, e, _⟩ := hat 0 (by simp); cases e
    subst h0
    simp only [List.length_nil]
    go_enter Try.func21, Try.ntmps21
    go_wp2
    go_ret
    exact ⟨_, rfl, World.ownsRow_nil _ _ _ _, Below.refl _ _⟩
  | some ad =>
    have hnews : ∀ j v, (ints a)[j]? = some v → w.cell? (ad.add j) = some v := by
      intro j v hj
      have hlt : j < a.length := by
        have := (List.getElem?_eq_some_iff.1 hj).1
        simpa using this
      obtain ⟨b, o, e, hc⟩ := hat j hlt
      obtain rfl := Option.some.inj e
      rw [show (⟨b, o, none⟩ : Addr).add j = ⟨b, o + j, none⟩ by
        by_cases hj0 : j = 0
        · subst hj0; rfl
        · simp [Addr.add, hj0], hc]
      simpa [hlt] using hj
    have hone : ∀ u ∈ ints a, u.oneCell' = true := by
      intro u hu
      simp at hu
      obtain ⟨y, _, rfl⟩ := hu
      rfl
    go_enter Try.func21, Try.ntmps21
    go_wp2_with (at_builtin; refine wpList_append_own_at (w := w) (by rfl) _ _ _ (by rfl) w.heap.size 3 i0 _ 1 8 Try.underlying23 hi hz0 hz1 hz2 (by rfl) (by decide) _ 0 [] (by rfl) (World.ownsRow_nil _ _ _ _) ad a.length cap (ints a) (by rfl) (by simp) hnews hone (by unfold maxLen; omega) (by omega) (Nat.le_refl _) ?_)
    intro v w' hown hg _ _
    go_wp2
    go_ret
    refine ⟨_, rfl, ?_, (Below.refl _ w).grown hg (Nat.le_refl _) (fun k hk => by simp [Value.ownBlock] at hk)⟩
    unfold OwnInts
    simpa using hown

/-! two calls are compared -/
theorem fields44 : Try.prog.underlying 44 = some (.struct (Try.prog.fieldsOf 44)) := by kernel_rfl
theorem held44 : Try.prog.stoodInHeld 44 = false := by kernel_rfl
theorem guard44 : Try.prog.eqGuardType Try.prog.depth 44 = false := by kernel_rfl
theorem fieldsOf44 : Try.prog.fieldsOf 44 = #[⟨"Op", 3, 0, false, "", "", 0⟩, ⟨"A", 3, 1, false, "", "", 8⟩, ⟨"B", 3, 2, false, "", "", 16⟩, ⟨"C", 3, 3, false, "", "", 24⟩] := by kernel_rfl
theorem eqin44 (w : World) (a b c d a' b' c' d' : Int) : (Op.equalIn 10000 44 (.agg #[.int .i64 a, .int .i64 b, .int .i64 c, .int .i64 d]) (.agg #[.int .i64 a', .int .i64 b', .int .i64 c', .int .i64 d'])).run Try.prog w = .ok (a == a' && (b == b' && (c == c' && d == d'))) w := by
  rw [show (10000 : Nat) = 9999 + 1 from rfl, run_equalIn_agg _ _ _ _ _ fields44 held44, fieldsOf44]
  have e0 : ∀ x y w, (Op.equalIn 9999 3 (.int .i64 x) (.int .i64 y)).run Try.prog w = .ok (x == y) w := fun x y w => run_equalIn_int w 9998 3 .i64 .i64 x y Try.underlying3
  simp [Op.eqFields, go_sem, e0, part]
  by_cases h1 : a = a' <;> by_cases h2 : b = b' <;> by_cases h3 : c = c' <;> by_cases h4 : d = d' <;> simp [h1, h2, h3, h4]
theorem neq44 (a b c d a' b' c' d' : Int) (w : World) : (binOp .neq 44 (.agg #[.int .i64 a, .int .i64 b, .int .i64 c, .int .i64 d]) (.agg #[.int .i64 a', .int .i64 b', .int .i64 c', .int .i64 d'])).run Try.prog w = .ok (.bool (!(a == a' && (b == b' && (c == c' && d == d'))))) w := by
  rw [run_neq_struct, eqin44]
  rfl
theorem eql44 (a b c d a' b' c' d' : Int) (w : World) : (binOp .eql 44 (.agg #[.int .i64 a, .int .i64 b, .int .i64 c, .int .i64 d]) (.agg #[.int .i64 a', .int .i64 b', .int .i64 c', .int .i64 d'])).run Try.prog w = .ok (.bool (a == a' && (b == b' && (c == c' && d == d')))) w := by
  rw [run_eql_struct, eqin44]
  rfl
theorem eqinIs {w : World} {c d : Cl} {r : Bool} (h : decide (c = d) = r) : (Op.equalIn 10000 44 (.agg #[.int .i64 c.op, .int .i64 c.a, .int .i64 c.b, .int .i64 c.c]) (.agg #[.int .i64 d.op, .int .i64 d.a, .int .i64 d.b, .int .i64 d.c])).run Try.prog w = .ok r w := by
  rw [eqin44, ← h]
  obtain ⟨a, b, c, e⟩ := c
  obtain ⟨a', b', c', e'⟩ := d
  congr 1
  by_cases h1 : a = a' <;> by_cases h2 : b = b' <;> by_cases h3 : c = c' <;> by_cases h4 : e = e' <;> simp [h1, h2, h3, h4]
end Go.Proofs.Ytifkkblmcdggmaa
