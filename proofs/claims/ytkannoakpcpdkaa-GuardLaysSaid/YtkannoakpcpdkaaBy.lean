/-
  What a list of bytes shows in a world; rows of bytes, told by a function; bytes as a text; EqBytes, CopyBytes.
-/
import Derived.Test.YtkannoakpcpdkaaPure
import Derived.Lib.SlBytesRow
import Derived.Lib.BufferRead
set_option linter.unusedVariables false
set_option linter.unusedSimpArgs false
namespace Go.Proofs.Ytkannoakpcpdkaa
open Go Go.RowKit

abbrev bys (l : List Int) : List Value := l.map (Value.int .u8)
def ShowB (w : World) (v : Value) (l : List Int) : Prop := Shows w v l.length 1 (bys l)
theorem ShowB.form {w : World} {v : Value} {l : List Int} (h : ShowB w v l) : ∃ ao cap, v = .slice ao l.length cap ∧ (l.length ≤ cap ∧ cap ≤ 9223372036854775807) ∧ ∀ i, i < l.length → ∃ b o, ao = some ⟨b, o, none⟩ ∧ w.cell? ⟨b, o + i, none⟩ = some (.int .u8 (pk l i)) := by
  obtain ⟨hl, ao, cap, hv, hc, hs⟩ := h
  refine ⟨ao, cap, hv, by unfold maxLen at hc; omega, fun i hi => ?_⟩
  obtain ⟨b, o, ha, hx⟩ := hs (by omega)
  refine ⟨b, o, ha, ?_⟩
  have := hx i (by omega)
  rw [← pk_at l i hi]
  simpa [hi] using this
theorem ShowB.below {w w' : World} {v : Value} {l : List Int} (h : ShowB w v l) (hb : Below w.heap.size w w') : ShowB w' v l := Shows.below h hb
theorem ShowB.nil (w : World) : ShowB w (.slice none 0 0) [] := Shows.nil w 1
theorem lit_b (w : World) (t : TypeId) (l : List Int) (n : Nat) (hn : l.length = n) (hm : n ≤ 10000) : ShowB (w.alloc (.cells (bys l).toArray t)) (.slice (some ⟨w.heap.size, 0, none⟩) n n) l := by
  unfold ShowB
  rw [hn]
  exact lit_shows w t (bys l) n (by simp [hn]) hm
theorem own_b {w : World} {B n : Nat} {t : TypeId} {v : Value} {l : List Int} (h : w.ownsRow B t 1 v n (bys l)) : ShowB w v l := by
  have h1 := Shows.ofOwns h
  have hl : l.length = n := by have := h.1; simpa using this
  unfold ShowB
  rw [hl]
  exact h1
theorem infoB : (Try.prog.info? 5).map (fun i => (i.zero, i.size, i.bytes)) = some (some (.int .u8 0), 1, 1) := by kernel_rfl
theorem bys_one (l : List Int) : ∀ u ∈ bys l, u.oneCell' = true := by
  intro u hu
  obtain ⟨x, _, rfl⟩ := List.mem_map.1 hu
  rfl
theorem bys_at {l : List Int} {i : Nat} (h : i < l.length) : (bys l)[i]? = some (.int .u8 (pk l i)) := by
  rw [← pk_at l i h]
  simp [h]
theorem bys_append (a b : List Int) : bys (a ++ b) = bys a ++ bys b := by simp
abbrev OwnB (B : Nat) (w : World) (v : Value) (l : List Int) : Prop := w.ownsRow B 5 1 v l.length (bys l)
theorem OwnB.shows {B : Nat} {w : World} {v : Value} {l : List Int} (h : OwnB B w v l) : ShowB w v l := own_b h
theorem OwnB.nil (B : Nat) (w : World) : OwnB B w (.slice none 0 0) [] := World.ownsRow_nil _ _ _ _
theorem OwnB.below {B : Nat} {w w' : World} {v : Value} {l : List Int} (h : OwnB B w v l) (hb : Below w.heap.size w w') : OwnB B w' v l := own_below h hb
theorem OwnB.le {B B' : Nat} {w : World} {v : Value} {l : List Int} (h : OwnB B w v l) (hB : B' ≤ B) : OwnB B' w v l := by
  refine ⟨h.1, ?_⟩
  rcases h.2 with h | ⟨g, cap, cur, e, hb, hr⟩
  · exact .inl h
  · exact .inr ⟨g, cap, cur, e, Nat.le_trans hB hb, hr⟩
theorem run_appendB {w : World} {B : Nat} {v u : Value} {l b : List Int} (hown : OwnB B w v l) (hu : ShowB w u b) (hl : l.length + b.length ≤ 10000) (hB : B ≤ w.heap.size) (ty : TypeId) :
    ∃ ao cap w', (Builtin.append_ #[22, 22] ty #[v, u]).run Try.prog w = .ok (.slice ao (l ++ b).length cap) w' ∧ OwnB B w' (.slice ao (l ++ b).length cap) (l ++ b) ∧ Below B w w' ∧ w.grownBy w' v.ownBlock := by
  obtain ⟨i0, hi, hz0, hz1, hz2⟩ := info_parts infoB
  obtain ⟨ao, cap, rfl, hcap, hat⟩ := hu.form
  cases ao with
  | none =>
    have h0 : b = [] := by
      cases b with
      | nil => rfl
      | cons x l => obtain ⟨b, o, e, _⟩ := hat 0 (by simp); cases e
    subst h0
    obtain ⟨va, vc, rfl, hv1, hv2⟩ := own_shape hown
    rw [List.append_nil]
    refine ⟨va, vc, w, ?_, hown, Below.refl _ _, grown_of_below (B := 0) (Below.refl _ _) (Nat.le_refl _)⟩
    simp [Builtin.append_, run_underlying Try.underlying22, sizeOf, typeInfo, hi, Builtin.lenOf, Builtin.firstCells, hv1]
    cases va <;> simp [storeCells, List.forM_nil]
  | some ad =>
    have hnews : ∀ j v, (bys b)[j]? = some v → w.cell? (ad.add j) = some v := by
      intro j v hj
      have hlt : j < b.length := by
        have := (List.getElem?_eq_some_iff.1 hj).1
        simpa using this
      obtain ⟨b1, o, e, c0⟩ := hat j hlt
      obtain rfl := Option.some.inj e
      rw [plain_add, c0, ← hj, bys_at hlt]
    obtain ⟨v', w', hr, hown', hg, _, _⟩ := run_append_own_at (P := Try.prog) w B 22 ty 5 i0 _ 1 1 Try.underlying22 hi hz0 hz1 hz2 rfl (by decide) v l.length (bys l) hown ad b.length cap (bys b) (by simp) hnews (bys_one b) (by unfold maxLen; omega) (by omega) hB
    have hown2 : OwnB B w' v' (l ++ b) := by
      unfold OwnB
      rw [bys_append, List.length_append]
      exact hown'
    obtain ⟨a', c', rfl, _⟩ := own_shape hown2
    exact ⟨a', c', w', hr, hown2, (Below.refl _ w).grown hg hB (own_ge hown), hg⟩
theorem wpList_appendB {ops : Array Oper} {rest : List Oper} {o : Oper} {a : Act} {Q : Exit → Act → World → Prop} {w : World} (hgd : o.guard = none) (s x : Operand)
    (ho : o.op = .call { callee := .builtin .append, args := #[s, x], argTypes := #[22, 22] })
    (B : Nat) (v u : Value) (l b : List Int) (n : Nat) (hs : a.eval s = v) (hx : a.eval x = u) (hown : OwnB B w v l) (hu : ShowB w u b) (hl : l.length + b.length ≤ 10000) (hB : B ≤ w.heap.size) (hn : (l ++ b).length = n)
    (h : ∀ ao cap w', OwnB B w' (.slice ao n cap) (l ++ b) → Below B w w' → wpList Try.prog ops Q rest (a.put o.dst (.slice ao n cap)) w') :
    wpList Try.prog ops Q (o :: rest) a w := by
  subst hn
  refine wpList_plain hgd fun K hK => ?_
  obtain ⟨ao, cap, w', hr, h1, h2, h3⟩ := run_appendB hown hu hl hB o.type
  unfold Oper.wp execOp
  simp only [ho, resolve, invoke, builtin, Sem.run_bind, Sem.run_pure, Result.andThen_ok, List.map_toArray, List.map_cons, List.map_nil, hs, hx, hr]
  exact hK _ _ (h _ _ _ h1 h2)
/-- an append behind which other rows of one's own are known to stay -/
theorem wpList_appendB2 {ops : Array Oper} {rest : List Oper} {o : Oper} {a : Act} {Q : Exit → Act → World → Prop} {w : World} (hgd : o.guard = none) (s x : Operand)
    (ho : o.op = .call { callee := .builtin .append, args := #[s, x], argTypes := #[22, 22] })
    (B : Nat) (v u : Value) (l b : List Int) (n : Nat) (hs : a.eval s = v) (hx : a.eval x = u) (hown : OwnB B w v l) (hu : ShowB w u b) (hl : l.length + b.length ≤ 10000) (hB : B ≤ w.heap.size) (hn : (l ++ b).length = n)
    (h : ∀ ao cap w', OwnB B w' (.slice ao n cap) (l ++ b) → Below B w w' → w.grownBy w' v.ownBlock → wpList Try.prog ops Q rest (a.put o.dst (.slice ao n cap)) w') :
    wpList Try.prog ops Q (o :: rest) a w := by
  subst hn
  refine wpList_plain hgd fun K hK => ?_
  obtain ⟨ao, cap, w', hr, h1, h2, h3⟩ := run_appendB hown hu hl hB o.type
  unfold Oper.wp execOp
  simp only [ho, resolve, invoke, builtin, Sem.run_bind, Sem.run_pure, Result.andThen_ok, List.map_toArray, List.map_cons, List.map_nil, hs, hx, hr]
  exact hK _ _ (h _ _ _ h1 h2 h3)

/-- the first n bytes of a block, told by a function -/
def RowY (w : World) (g n : Nat) (f : Nat → Int) : Prop := ∃ c, w.heap[g]? = some (.cells c 5 (0, 0)) ∧ n ≤ c.size ∧ ∀ i, i < n → c[i]? = some (.int .u8 (f i))
section
variable {S : Nat → Prop} {w w' : World} {g n : Nat} {f f' : Nat → Int}
theorem RowY.lt (h : RowY w g n f) : g < w.heap.size := by
  obtain ⟨c, hb, _⟩ := h
  exact lt_of_block hb
theorem RowY.cell (h : RowY w g n f) {i : Nat} (hi : i < n) : w.cell? ⟨g, i, none⟩ = some (.int .u8 (f i)) := by
  obtain ⟨c, hb, _, hc⟩ := h
  exact self_cell hb i _ (hc i hi)
theorem RowY.free (h : RowY w g n f) (i : Nat) : w.frozen? ⟨g, i, none⟩ = false := by
  obtain ⟨c, hb, _⟩ := h
  exact self_free hb i
theorem RowY.congr (h : RowY w g n f) (hf : ∀ i, i < n → f i = f' i) : RowY w g n f' := by
  obtain ⟨c, hb, hn, hc⟩ := h
  exact ⟨c, hb, hn, fun i hi => by rw [hc i hi, hf i hi]⟩
theorem RowY.set (h : RowY w g n f) {i : Nat} (hi : i < n) (x : Int) : RowY (w.setCell ⟨g, i, none⟩ (.int .u8 x)) g n (turnF f i x) := by
  obtain ⟨c, hb, hn, hc⟩ := h
  refine ⟨_, cells_set hb i _, by simpa using hn, fun j hj => ?_⟩
  unfold turnF
  rw [Array.getElem?_setIfInBounds]
  have hs : i < c.size := (Array.getElem?_eq_some_iff.1 (hc i hi)).1
  by_cases e : j = i
  · subst e
    rw [if_pos rfl, if_pos rfl, if_pos hs]
  · rw [if_neg (fun e2 => e e2.symm), if_neg e]
    exact hc j hj
theorem RowY.kept (h : RowY w g n f) (hk : Kept S w w') (hS : ¬ S g) : RowY w' g n f := by
  obtain ⟨c, hb, hn, hc⟩ := h
  exact ⟨c, (hk.block g (lt_of_block hb) hS).trans hb, hn, hc⟩
theorem RowY.below (h : RowY w g n f) (hb : Below w.heap.size w w') : RowY w' g n f := by
  obtain ⟨c, h1, h2⟩ := h
  exact ⟨c, keep_block h1 hb, h2⟩
theorem RowY.shows (h : RowY w g n f) {cap : Nat} (h1 : n ≤ cap) (h2 : cap ≤ maxLen) : ShowB w (.slice (some ⟨g, 0, none⟩) n cap) (lst n f) := by
  refine ⟨by simp, some ⟨g, 0, none⟩, cap, by rw [len_lst], by rw [len_lst]; exact ⟨h1, h2⟩, fun _ => ⟨g, 0, rfl, fun j hj => ?_⟩⟩
  rw [len_lst] at hj
  have hj' : j < n := by omega
  rw [Nat.zero_add, h.cell hj', bys_at (by rw [len_lst]; exact hj'), pk_lst f hj']
theorem kept_set (w : World) (g i : Nat) (u : Value) : Kept (· = g) w (w.setCell ⟨g, i, none⟩ u) := Kept.setCell (S := (· = g)) (p := ⟨g, i, none⟩) (Kept.refl _ w) rfl u
end
/-- a row of bytes of one's own, not empty, by its block -/
theorem OwnB.row {B : Nat} {w : World} {v : Value} {l : List Int} (h : OwnB B w v l) (hl : 1 ≤ l.length) : ∃ g cap, v = .slice (some ⟨g, 0, none⟩) l.length cap ∧ B ≤ g ∧ l.length ≤ cap ∧ cap ≤ maxLen ∧ RowY w g l.length (pk l) := by
  rcases h.2 with ⟨rfl, h0⟩ | ⟨g, cap, cur, rfl, hb, hg, hc, hm, hs, ht⟩
  · omega
  · refine ⟨g, cap, rfl, hb, hc, hm, cur, hg, by omega, fun i hi => ?_⟩
    have h1 := bys_at hi
    rw [← ht, Nat.mul_one, List.getElem?_take, if_pos hi] at h1
    simpa using h1

/-- bytes as a text -/
def strB (l : List Int) : ByteArray := l.foldl (fun r n => r.push (UInt8.ofNat n.toNat)) ByteArray.empty
theorem strB_aux (l : List Int) (r : ByteArray) : (l.foldl (fun r n => r.push (UInt8.ofNat n.toNat)) r).data.toList = r.data.toList ++ l.map fun n => UInt8.ofNat n.toNat := by
  induction l generalizing r with
  | nil => simp
  | cons x l ih => rw [List.foldl_cons, ih]; simp [ByteArray.push]
theorem strB_list (l : List Int) : (strB l).data.toList = l.map fun n => UInt8.ofNat n.toNat := by
  rw [strB, strB_aux]
  rfl
theorem strB_inj {a b : List Int} (ha : Bytey a) (hb : Bytey b) (h : strB a = strB b) : a = b := by
  have h' : a.map (fun n => UInt8.ofNat n.toNat) = b.map fun n => UInt8.ofNat n.toNat := by rw [← strB_list, ← strB_list, h]
  clear h
  induction a generalizing b with
  | nil => cases b with
    | nil => rfl
    | cons y b => simp at h'
  | cons x a ih => cases b with
    | nil => simp at h'
    | cons y b =>
      simp only [List.map_cons, List.cons.injEq] at h'
      have hx := ha x (by simp)
      have hy := hb y (by simp)
      have e : x = y := by
        have h1 := congrArg UInt8.toNat h'.1
        simp only [UInt8.toNat_ofNat'] at h1
        omega
      rw [e, ih (fun z hz => ha z (by simp [hz])) (fun z hz => hb z (by simp [hz])) h'.2]
theorem conv_bytes {w : World} {v : Value} {l : List Int} (h : ShowB w v l) : (convert 22 9 v).run Try.prog w = .ok (.string (strB l)) w := by
  obtain ⟨ao, cap, rfl, _, hat⟩ := h.form
  by_cases h0 : ao = none
  · subst h0
    have hl : l = [] := by
      cases l with
      | nil => rfl
      | cons x l => obtain ⟨b, o, e, _⟩ := hat 0 (by simp); cases e
    subst hl
    exact Lib.run_convert_nil_bytes w _ _ _ _ Try.underlying22 Try.underlying5 Try.underlying9
  · obtain ⟨ad, rfl⟩ : ∃ ad, ao = some ad := by
      cases ao with
      | none => exact absurd rfl h0
      | some ad => exact ⟨ad, rfl⟩
    rw [run_convert_bytes_string w _ _ _ _ _ _ Try.underlying22 Try.underlying5 Try.underlying9]
    refine run_bytesToString w ad l.length cap l ?_
    have hl : l.length = (l.map (Value.int .u8)).length := by simp
    rw [hl]
    refine run_loadCells_list w ad (l.map (Value.int .u8)) fun j u hj => ?_
    have hlt : j < l.length := by
      have := (List.getElem?_eq_some_iff.1 hj).1
      simpa using this
    obtain ⟨b, o, e, hc⟩ := hat j hlt
    obtain rfl := Option.some.inj e
    rw [plain_add, hc, ← hj]
    exact (bys_at hlt).symm
set_option maxHeartbeats 1000000 in
theorem cEqBytes (u v : Value) (a b : List Int) (w : World) (hu : ShowB w u a) (hv : ShowB w v b) (ha : Bytey a) (hb : Bytey b) :
    Calls Try.prog 11 #[u, v] w fun e w' => e = .returned (.bool (decide (a = b))) ∧ w' = w := by
  have h1 := conv_bytes hu
  have h2 := conv_bytes hv
  have hd : ((strB a).toList == (strB b).toList) = decide (a = b) := by
    by_cases h : a = b
    · subst h; simp
    · rw [decide_eq_false h]
      simp only [beq_eq_false_iff_ne, ne_eq]
      intro e
      rw [ByteArray.toList_eq, ByteArray.toList_eq] at e
      exact h (strB_inj ha hb (ByteArray.ext (Array.toList_inj.1 e)))
  have HD := Lib.hid hd
  clear hd
  generalize strB a = s at h1 HD
  generalize strB b = t at h2 HD
  go_enter Try.func11, Try.ntmps11
  go_wp2
  go_ret
  exact ⟨ret_bool HD.out, rfl⟩
theorem cEqYes (u v : Value) (a b : List Int) (hab : a = b) (w : World) (hu : ShowB w u a) (hv : ShowB w v b) (ha : Bytey a) :
    Calls Try.prog 11 #[u, v] w fun e w' => e = .returned (.bool true) ∧ w' = w := by
  subst hab
  refine (cEqBytes u v a a w hu hv ha ha).mono ?_
  rintro e w' ⟨rfl, rfl⟩
  exact ⟨by rw [decide_eq_true rfl], rfl⟩
set_option maxHeartbeats 1000000 in
/-- append(nil, l..): a copy in memory of its own. -/
theorem cCopyBytes (u : Value) (a : List Int) (w : World) (hu : ShowB w u a) (hl : a.length * 1 ≤ 140737488355328) :
    Calls Try.prog 13 #[u] w fun e w' => ∃ ao cap, e = .returned (.slice ao a.length cap) ∧ ShowB w' (.slice ao a.length cap) a ∧ Below w.heap.size w w' := by
  obtain ⟨i0, hi, hz0, hz1, hz2⟩ := info_parts infoB
  obtain ⟨ao, cap, rfl, hcap, hat⟩ := hu.form
  cases ao with
  | none =>
    have h0 : a = [] := by
      cases a with
      | nil => rfl
      | cons x l => obtain ⟨b, o, e, _⟩ := hat 0 (by simp); cases e
    subst h0
    simp only [List.length_nil]
    go_enter Try.func13, Try.ntmps13
    go_wp2
    go_ret
    exact ⟨_, _, rfl, ShowB.nil _, Below.refl _ _⟩
  | some ad =>
    have hnews : ∀ j v, (bys a)[j]? = some v → w.cell? (ad.add j) = some v := by
      intro j v hj
      have hlt : j < a.length := by
        have := (List.getElem?_eq_some_iff.1 hj).1
        simpa using this
      obtain ⟨b, o, e, hc⟩ := hat j hlt
      obtain rfl := Option.some.inj e
      rw [plain_add, hc, ← hj]
      exact (bys_at hlt).symm
    go_enter Try.func13, Try.ntmps13
    go_wp2_with (at_builtin; refine wpList_append_own_at (w := w) (by rfl) _ _ _ (by rfl) w.heap.size 5 i0 _ 1 1 Try.underlying22 hi hz0 hz1 hz2 (by rfl) (by decide) _ 0 [] (by rfl) (World.ownsRow_nil _ _ _ _) ad a.length cap (bys a) (by rfl) (by simp) hnews (bys_one a) (by unfold maxLen; omega) (by omega) (Nat.le_refl _) ?_)
    intro v w' hown hg _ _
    go_wp2
    go_ret
    have h2 : OwnB w.heap.size w' v a := by
      unfold OwnB
      simpa using hown
    obtain ⟨a', c', rfl, _⟩ := own_shape h2
    exact ⟨_, _, rfl, h2.shows, (Below.refl _ w).grown hg (Nat.le_refl _) (fun k hk => by simp [Value.ownBlock] at hk)⟩
end Go.Proofs.Ytkannoakpcpdkaa
