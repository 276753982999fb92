/-
  Appending what was just made to a row of one's own; what stays.
-/
import Derived.Test.YtifkkblmcdggmaaCheck
import Derived.Deep.RegionHeldLaw
import Derived.Deep.AppendLies
import Derived.Maps.AppendAt
set_option linter.unusedVariables false
set_option linter.unusedSimpArgs false
namespace Go.Proofs.Ytifkkblmcdggmaa
open Go Go.RowKit

theorem size_alloc (w : World) (o : Obj) : (w.alloc o).heap.size = w.heap.size + 1 := Array.size_push _
/-- From w to w' only v's own block has changed, if any; v' lies there, or in new memory. -/
structure Grew (w w' : World) (v v' : Value) : Prop where
  grow : w.grownBy w' v.ownBlock
  own : ∀ k, v'.ownBlock = some k → v.ownBlock = some k ∨ w.heap.size ≤ k
theorem Grew.trans {w w1 w2 : World} {v v1 v2 : Value} (h : Grew w w1 v v1) (k : Grew w1 w2 v1 v2) : Grew w w2 v v2 := by
  refine ⟨⟨k.grow.os.trans h.grow.os, k.grow.tape.trans h.grow.tape, k.grow.output.trans h.grow.output, Nat.le_trans h.grow.size k.grow.size, fun j hj hne => ?_⟩, fun j hj => ?_⟩
  · rw [k.grow.block j (Nat.lt_of_lt_of_le hj h.grow.size) ?_]
    · exact h.grow.block j hj hne
    · intro e
      rcases h.own j e.symm with h1 | h1
      · exact hne h1.symm
      · omega
  · rcases k.own j hj with h1 | h1
    · exact h.own j h1
    · exact .inr (Nat.le_trans h.grow.size h1)
theorem Grew.alloc {w w' : World} {v v' : Value} (h : Grew w w' v v') (o : Obj) : Grew w (w'.alloc o) v v' := by
  refine ⟨⟨h.grow.os, h.grow.tape, h.grow.output, Nat.le_trans h.grow.size (by rw [size_alloc]; omega), fun j hj hne => ?_⟩, h.own⟩
  rw [Below.heap_alloc _ _ _ (Nat.lt_of_lt_of_le hj h.grow.size)]
  exact h.grow.block j hj hne
theorem Grew.refl (w : World) (v : Value) : Grew w w v v := ⟨⟨rfl, rfl, rfl, Nat.le_refl _, fun _ _ _ => rfl⟩, fun _ h => .inl h⟩
theorem Grew.ofAlloc {w w' : World} {v v' : Value} {o : Obj} (h : Grew (w.alloc o) w' v v') : Grew w w' v v' := ((Grew.refl w v).alloc o).trans h
theorem Grew.below {B : Nat} {w w' : World} {v v' : Value} (h : Grew w w' v v') (hB : B ≤ w.heap.size) (hv : ∀ k, v.ownBlock = some k → B ≤ k) : Below B w w' := (Below.refl B w).grown h.grow hB hv
theorem Grew.cell {w w' : World} {v v' : Value} (h : Grew w w' v v') {p : Addr} {u : Value} (hc : w.cell? p = some u) (hne : v.ownBlock ≠ some p.block) : w'.cell? p = some u := h.grow.cell hc (Ne.symm hne)

section
variable {P : Program} {B e size bytes : Nat} {i : TypeInfo} {z : Value}
theorem own_at {v v' : Value} {n : Nat} (h : v'.ownBlock = v.ownBlock ∨ v'.ownBlock = some n) : ∀ k, v'.ownBlock = some k → v.ownBlock = some k ∨ n ≤ k := by
  intro k hk
  rcases h with h | h
  · exact .inl (h.symm.trans hk)
  · rw [h] at hk
    cases hk
    exact .inr (Nat.le_refl _)
/-- 'append(s, x, y ..)': the new elements lie in a block of their own; the row is the call's own. -/
theorem append_new {ops : Array Oper} {rest : List Oper} {o : Oper} {a : Act} {Q : Exit → Act → World → Prop} {w : World} (hgd : o.guard = none) (s x : Operand) (t : TypeId)
    (ho : o.op = .call { callee := .builtin .append, args := #[s, x], argTypes := #[t, t] })
    (ht : P.underlying t = some (.slice e)) (hi : P.info? e = some i) (hz : i.zero = some z) (hsize : i.size = size) (hby : i.bytes = bytes) (hzs : z.cells.size = size) (hsz : 0 < size)
    (v : Value) (n : Nat) (xs : List Value) (hs : a.eval s = v) (hown : w.ownsRow B e size v n xs) (cs : Array Value) (m : Nat) (hx : a.eval x = .slice (some ⟨w.heap.size, 0, none⟩) m m)
    (hl : cs.toList.length = m * size) (h1 : ∀ u ∈ cs.toList, u.oneCell' = true) (h63 : n + m ≤ maxLen) (hbytes : (n + m) * bytes ≤ 140737488355328) (hB : B ≤ w.heap.size)
    (h : ∀ v' w', w'.ownsRow B e size v' (n + m) (xs ++ cs.toList) → Grew w w' v v' → wpList P ops Q rest (a.put o.dst v') w') :
    wpList P ops Q (o :: rest) a (w.alloc (.cells cs e)) := by
  refine wpList_append_own_at (w := w.alloc (.cells cs e)) hgd s x t ho B e i z size bytes ht hi hz hsize hby hzs hsz v n xs hs (hown.alloc _) ⟨w.heap.size, 0, none⟩ m m cs.toList hx hl
    (World.news_of_block (cs := cs) (t := e) (fr := (0, 0)) (heap_new w _)) h1 h63 hbytes (Nat.le_trans hB (by rw [size_alloc]; omega)) ?_
  intro v' w' hown' hgrow _ hat
  exact h v' w' hown' (Grew.ofAlloc ⟨hgrow, own_at hat⟩)
end

/-- What is built of bytes. -/
def OwnBytes (B : Nat) (w : World) (v : Value) (l : List Int) : Prop := w.ownsRow B 5 1 v l.length (bytes l)
theorem infoU8 : (Try.prog.info? 5).map (fun i => (i.zero, i.size, i.bytes)) = some (some (.int .u8 0), 1, 1) := by kernel_rfl
theorem OwnBytes.alloc {B : Nat} {w : World} {v : Value} {l : List Int} (h : OwnBytes B w v l) (o : Obj) : OwnBytes B (w.alloc o) v l := World.ownsRow.alloc h o
theorem OwnBytes.drew {B : Nat} {w : World} {v : Value} {l : List Int} (h : OwnBytes B w v l) : OwnBytes B w.drew v l := h
theorem OwnBytes.lt {B : Nat} {w : World} {v : Value} {l : List Int} (h : OwnBytes B w v l) : ∀ k, v.ownBlock = some k → B ≤ k ∧ k < w.heap.size := World.ownsRow.lt h
theorem OwnBytes.shows {B : Nat} {w : World} {v : Value} {l : List Int} (h : OwnBytes B w v l) : ShowBytes w v l := Shows.ofOwns h
theorem OwnBytes.below {B : Nat} {w w' : World} {v : Value} {l : List Int} (h : OwnBytes B w v l) (hb : Below w.heap.size w w') : OwnBytes B w' v l :=
  World.ownsRow.kept h (grown_of_below hb (row := none)) (by
    cases hv : v.ownBlock with
    | none => exact .inl rfl
    | some k => exact .inr (by simp))
/-- one byte of a number -/
def by8 (x : Int) : Int := x % 256
theorem by8_in {x : Int} (h0 : 0 ≤ x) (h1 : x ≤ 255) : by8 x = x := by
  unfold by8
  omega
theorem bytes_one (news : List Int) : ∀ u ∈ (bytes news).toArray.toList, u.oneCell' = true := by
  intro u hu
  simp at hu
  obtain ⟨y, _, rfl⟩ := hu
  rfl
theorem append_bytes {ops : Array Oper} {rest : List Oper} {o : Oper} {a : Act} {Q : Exit → Act → World → Prop} {w : World} {B : Nat} (hgd : o.guard = none) (s x : Operand)
    (ho : o.op = .call { callee := .builtin .append, args := #[s, x], argTypes := #[27, 27] })
    (v : Value) (l : List Int) (hown : OwnBytes B w v l) (hs : a.eval s = v) (news : List Int) (hx : a.eval x = .slice (some ⟨w.heap.size, 0, none⟩) news.length news.length)
    (hl : l.length ≤ 140737488355328 - 10) (hn : news.length ≤ 10) (hB : B ≤ w.heap.size)
    (h : ∀ v' w', OwnBytes B w' v' (l ++ news) → Grew w w' v v' → wpList Try.prog ops Q rest (a.put o.dst v') w') :
    wpList Try.prog ops Q (o :: rest) a (w.alloc (.cells (bytes news).toArray 5)) := by
  obtain ⟨i0, hi, hz0, hz1, hz2⟩ := info_parts infoU8
  refine append_new hgd s x 27 ho Try.underlying27 hi hz0 hz1 hz2 rfl (by decide) v l.length (bytes l) hs hown (bytes news).toArray news.length hx (by simp) (bytes_one news) (by unfold maxLen; omega) (by omega) hB ?_
  intro v' w' hown' hg
  refine h v' w' ?_ hg
  unfold OwnBytes
  simpa using hown'
theorem heap_new2 (w : World) (o o' : Obj) : ((w.alloc o).alloc o').heap[w.heap.size + 1]? = some o' := by rw [← size_alloc w o]; exact heap_new _ _
/-- the same at a step of a region that draws -/
theorem step_bytes {ops : Array Oper} {o : Oper} {a : Act} {K : Act → World → Prop} {Q : Exit → Act → World → Prop} {E : Prop} {w : World} {B : Nat} (hgd : o.guard = none) (s x : Operand)
    (ho : o.op = .call { callee := .builtin .append, args := #[s, x], argTypes := #[27, 27] })
    (v : Value) (l : List Int) (hown : OwnBytes B w v l) (hs : a.eval s = v) (news : List Int) (g : Nat) (fr : Nat × Nat) (hnew : w.heap[g]? = some (.cells (bytes news).toArray 5 fr)) (hx : a.eval x = .slice (some ⟨g, 0, none⟩) news.length news.length)
    (hl : l.length ≤ 140737488355328 - 10) (hn : 0 < news.length ∧ news.length ≤ 10) (hB : B ≤ w.heap.size)
    (h : ∀ v' w', OwnBytes B w' v' (l ++ news) → Grew w w' v v' → K (a.put o.dst v') w') :
    if Region.wanted o (yielded ops a.tmps) = true then Oper.wp Try.prog o a w K Q else E := by
  obtain ⟨i0, hi, hz0, hz1, hz2⟩ := info_parts infoU8
  refine step_append_lies w hgd s x 27 ho B 5 i0 (.int .u8 0) 1 1 Try.underlying27 hi hz0 hz1 hz2 rfl (by decide) v l.length (bytes l) hs hown ⟨g, 0, none⟩ news.length news.length (bytes news) hx (by simp)
    (World.news_of_block hnew) (by simpa using bytes_one news) hn.1 (by unfold maxLen; omega) (by omega) hB _ rfl ?_
  intro g' cap w' hown' hgrow hat hlt
  refine h _ w' ?_ ⟨hgrow, fun k hk => ?_⟩
  · unfold OwnBytes
    simpa using hown'
  · have e : g' = k := by simpa [Value.ownBlock] using hk
    subst e
    rcases hat with h1 | h1
    · exact .inl h1
    · exact .inr (by omega)

set_option maxHeartbeats 1000000 in
set_option maxRecDepth 100000 in
theorem cAddTwo (B : Nat) (v : Value) (l : List Int) (x : Int) (w : World) (hB : B ≤ w.heap.size) (hown : OwnBytes B w v l) (hl : l.length ≤ 20000) :
    Calls Try.prog 23 #[v, .int .i64 x] w fun e w' => ∃ v', e = .returned v' ∧ OwnBytes B w' v' (l ++ [by8 (x / 256), by8 x]) ∧ Grew w w' v v' := by
  go_enter Try.func23, Try.ntmps23
  go_wp2_with (at_builtin; refine append_bytes (by rfl) _ _ (by rfl) v l hown (by rfl) [by8 (x / 256), by8 x] (by rfl) (by omega) (by simp) hB ?_)
  intro v' w' hown' hb
  go_wp2
  go_ret
  exact ⟨_, rfl, hown', hb⟩

theorem own_ne {w wA : World} {o o' : Obj} {v vA : Value} (hg : Grew ((w.alloc o).alloc o').drew wA v vA) (hne : v.ownBlock ≠ some w.heap.size) : vA.ownBlock ≠ some w.heap.size := by
  intro e
  rcases hg.own _ e with h | h
  · exact hne h
  · have : ((w.alloc o).alloc o').heap.size ≤ w.heap.size := h
    rw [size_alloc, size_alloc] at this
    omega
theorem encC_by8 {c : Cl} (h : okC c = true) : encC c = [by8 c.op, by8 c.a] ++ [by8 (c.b / 256), by8 c.b] ++ [by8 c.c] := by
  obtain ⟨h1, h2, h3, h4⟩ := okC_iff.1 h
  rw [by8_in (x := c.op) (by omega) (by omega), by8_in (x := c.a) (by omega) (by omega), by8_in (x := c.b / 256) (by omega) (by omega), by8_in (x := c.c) (by omega) (by omega)]
  rfl
theorem box_cell (w : World) (cs : Array Value) (t : TypeId) (o' : Obj) (j : Nat) (u : Value) (h : cs[j]? = some u) : ((w.alloc (.cells cs t)).alloc o').drew.cell? ⟨w.heap.size, j, none⟩ = some u := by
  show ((w.alloc (.cells cs t)).alloc o').cell? ⟨w.heap.size, j, none⟩ = some u
  unfold World.cell?
  dsimp only
  rw [Below.heap_alloc _ _ _ (by rw [size_alloc]; omega), heap_new]
  exact h
theorem drew_grew {w w' : World} {v v' : Value} (h : Grew w.drew w' v v') : Grew w w' v v' := ⟨⟨h.grow.os, h.grow.tape, h.grow.output, h.grow.size, h.grow.block⟩, h.own⟩
theorem keep3 {w w' : World} {v v' : Value} {K : Nat} {a b c : Value} (hg : Grew w w' v v') (hne : v.ownBlock ≠ some K) (h : w.cell? ⟨K, 0, none⟩ = some a ∧ w.cell? ⟨K, 1, none⟩ = some b ∧ w.cell? ⟨K, 2, none⟩ = some c) :
    w'.cell? ⟨K, 0, none⟩ = some a ∧ w'.cell? ⟨K, 1, none⟩ = some b ∧ w'.cell? ⟨K, 2, none⟩ = some c :=
  ⟨hg.cell h.1 hne, hg.cell h.2.1 hne, hg.cell h.2.2 hne⟩

set_option maxHeartbeats 4000000 in
set_option maxRecDepth 100000 in
theorem cAddCalls (B : Nat) (v vl : Value) (l : List Int) (L : List Cl) (w : World) (hB : B ≤ w.heap.size) (hown : OwnBytes B w v l) (hl : l.length ≤ 10000) (hL : L.length ≤ 64) (hv : ShowCalls w vl L) (hvb : 0 < L.length → ∀ b, vl.ownBlock = some b → b < B) (hok : ∀ c ∈ L, okC c = true) :
    Calls Try.prog 24 #[v, vl] w fun e w' => ∃ v', e = .returned v' ∧ OwnBytes B w' v' (l ++ encL L) ∧ Grew w w' v v' := by
  obtain ⟨ao, cap, rfl, hcap, hat⟩ := hv.form
  clear hv
  go_enter Try.func24, Try.ntmps24
  go_wp2_with (at_builtin; refine append_bytes (by rfl) _ _ (by rfl) v l hown (by rfl) [(L.length : Int)] (by rfl) (by omega) (by simp) hB ?_)
  intro v1 w1 hown1 hb1
  go_wp2
  go_loopw [0, 15] (fun o i wr => ∃ k : Nat, k ≤ L.length ∧ i = .int .i64 k ∧ OwnBytes B wr o ((l ++ [(L.length : Int)]) ++ (L.take k).flatMap encC) ∧ Grew w wr v o) (fun _ i _ => L.length - (intOf i).toNat)
  case atStart => exact ⟨0, by omega, rfl, by simpa using hown1, hb1⟩
  case round =>
    obtain ⟨k, hk, rfl, hown2, hg2⟩ := hrel
    by_cases hlt : k < L.length
    · obtain ⟨b, o, rfl, c0, c1, c2, c3⟩ := hat k hlt
      have hbB : b < B := hvb (by omega) b rfl
      have hb2 := hg2.below hB (fun k hk => (hown.lt k hk).1)
      have d0 := (hb2.cell (p := ⟨b, o + k * 4, none⟩) hbB).trans c0
      have d1 := (hb2.cell (p := ⟨b, o + k * 4 + 1, none⟩) hbB).trans c1
      have d2 := (hb2.cell (p := ⟨b, o + k * 4 + 2, none⟩) hbB).trans c2
      have d3 := (hb2.cell (p := ⟨b, o + k * 4 + 3, none⟩) hbB).trans c3
      clear c0 c1 c2 c3
      have hlen : (l ++ [(L.length : Int)] ++ (L.take k).flatMap encC).length ≤ 10330 := by
        simp only [List.length_append, flat_encC_length, List.length_take, List.length_cons, List.length_nil]
        omega
      have HT : Hid (l ++ [(L.length : Int)] ++ (L.take (k + 1)).flatMap encC = l ++ [(L.length : Int)] ++ (L.take k).flatMap encC ++ encC L[k]) := Lib.hid (by
        rw [List.take_succ_eq_append_getElem hlt, List.flatMap_append]
        simp)
      have hz2 := hg2.grow.size
      have hnK : u0.ownBlock ≠ some wr.heap.size := fun e => by have := (hown2.lt _ e).2; omega
      generalize l ++ [(L.length : Int)] ++ (L.take k).flatMap encC = lk at hown2 hlen HT
      have HE : Hid (encC L[k] = [by8 L[k].op, by8 L[k].a] ++ [by8 (L[k].b / 256), by8 L[k].b] ++ [by8 L[k].c]) := Lib.hid (encC_by8 (hok _ (List.getElem_mem hlt)))
      generalize L[k] = c at d0 d1 d2 d3 HT HE
      obtain ⟨op, a, bb, cc⟩ := c
      dsimp only at d0 d1 d2 d3
      have hBr : B ≤ wr.heap.size := by omega
      go_wp2_with fail
      go_region_held_law (fun w' => w'.cell? ⟨wr.heap.size, 0, none⟩ = some (.int .i64 op) ∧ w'.cell? ⟨wr.heap.size, 1, none⟩ = some (.int .i64 a) ∧ w'.cell? ⟨wr.heap.size, 2, none⟩ = some (.int .i64 bb))
        (first | go_keep | exact keep3 hgA hnK (by assumption) | exact keep3 hgC (own_ne hgA hnK) (by assumption))
        (first
          | (refine step_bytes (by rfl) _ _ (by rfl) u0 lk ((hown2.alloc _).alloc _).drew (by rfl) [by8 op, by8 a] (wr.heap.size + 1) (0, 0) (heap_new2 _ _ _) (by rfl) (by omega) (by simp) (by simp; omega) ?_; intro vA wA hownA hgA)
          | (go_at_call 23; refine (cAddTwo B vA _ bb wA (by have := hgA.grow.size; simp at this; omega) hownA (by simp; omega)).mono ?_; rintro e wC ⟨vC, rfl, hownC, hgC⟩))
      have e3 : wC.cell? ⟨wr.heap.size, 3, none⟩ = some (.int .i64 cc) := hgC.cell (hgA.cell (box_cell _ _ _ _ _ _ rfl) hnK) (own_ne hgA hnK)
      have hzC : B ≤ wC.heap.size := by
        have h1 := hgA.grow.size
        have h2 := hgC.grow.size
        simp at h1
        omega
      go_wp2_with (at_builtin; refine append_bytes (by rfl) _ _ (by rfl) vC _ hownC (by rfl) [by8 cc] (by rfl) (by simp; omega) (by simp) hzC ?_)
      intro vD wD hownD hgD
      go_wp2
      go_roundw
      case rel =>
        refine ⟨k + 1, by omega, by go_num, ?_, hg2.trans ((Grew.ofAlloc (Grew.ofAlloc (drew_grew hgA))).trans (hgC.trans hgD))⟩
        rw [HT.out, HE.out]
        simpa [List.append_assoc] using hownD
      case measure => simp [intOf]; omega
    · have hke : k = L.length := by omega
      subst hke
      go_wp2
      go_ret
      refine ⟨_, rfl, ?_, hg2⟩
      have := hown2
      rw [List.take_length] at this
      simpa [encL] using this
end Go.Proofs.Ytifkkblmcdggmaa
