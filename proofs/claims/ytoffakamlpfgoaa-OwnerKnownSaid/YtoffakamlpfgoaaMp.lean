/-
  A map whose keys are a slab and an object: looked up, written, deleted, gone through in any order, an element written on the way.
-/
import Derived.Test.YtoffakamlpfgoaaPure
import Derived.Maps.RangeWalk
import Derived.Maps.OwnOps
import Derived.DeepKeys4
set_option linter.unusedVariables false
set_option linter.unusedSimpArgs false
namespace Go.Proofs.Ytoffakamlpfgoaa
open Go Go.RowKit
open Go.ChangeMaps (setBlock)

/-- a key -/
def kv (s i : Int) : Value := .agg #[.int .i64 s, .int .i64 i]
theorem kv_inj {s i x y : Int} (h : kv s i = kv x y) : s = x ∧ i = y := by
  simpa [kv] using h
def wf64 (x : Int) : Prop := (Lit.int .i64 x).wf = true
theorem wf_small {x : Int} (h : -1099511627776 < x ∧ x < 1099511627776) : wf64 x := WalkArith.wf_i64 (by omega)
theorem laidOutP : laidOutB Try.prog = true := by kernel_rfl
theorem rowP : 54 < Try.prog.types.size := of_decide_eq_true (by kernel_rfl)
theorem lawP : Go.Maps.Keyed Try.prog 54 := Go.Maps.Keyed.of_law (deep_law_laid laidOutP (m := 2) (by omega) rowP (by kernel_rfl) (by kernel_rfl))
theorem keyTP : Try.prog.keyType 54 = true := by kernel_rfl
theorem cellsP : Try.prog.cellsOf 54 = 2 := by kernel_rfl
theorem cells1 : Try.prog.cellsOf 3 = 1 := by kernel_rfl
theorem sizeP : ∃ n, Try.prog.types.size = n + 1 := ⟨Try.prog.types.size - 1, by have := rowP; omega⟩
theorem keyP {s i : Int} (hs : wf64 s) (hi : wf64 i) : ∃ l, keyOf Try.prog 54 (kv s i) = some l := by
  obtain ⟨n, hn⟩ := sizeP
  unfold wf64 at hs hi
  refine Option.isSome_iff_exists.1 ?_
  have hf : (kv s i).formed Try.prog 54 = true := by simp [kv, Value.formed, Try.underlying54, cellsP]
  unfold keyOf
  simp only [Try.underlying54, keyTP, hf, Bool.and_self, if_true]
  rw [hn]
  simp [kv, Value.cells, Program.keyLits, Try.underlying54, Try.underlying3, cellsP, cells1, List.range_succ, hs, hi]
/-! ### entries -/
def Ents (es : Array MapEntry) (f : Ow) : Prop :=
  (∀ x ∈ es.toList, ∃ s i, wf64 s ∧ wf64 i ∧ x.key = kv s i ∧ x.val = .int .i64 (f s i) ∧ f s i ≠ 0) ∧ ∀ s i, f s i ≠ 0 → ∃ x ∈ es.toList, x.key = kv s i
theorem Ents.keys {es : Array MapEntry} {f : Ow} (h : Ents es f) : ∀ e ∈ es.toList, ∃ l, keyOf Try.prog 54 e.key = some l := fun x hx => by
  obtain ⟨s, i, h1, h2, h3, _⟩ := h.1 x hx
  rw [h3]
  exact keyP h1 h2
theorem other_key' {es : Array MapEntry} {clock : Nat} (F : MapKept.Stamped es clock) {j i : Nat} {e0 x : MapEntry} (h2 : es.toList[j]? = some e0) (hi : es.toList[i]? = some x) (hne : i ≠ j) : x.key ≠ e0.key := by
  have hn : es.toList.Pairwise (fun x y => x.key ≠ y.key) := ((MapKept.stamped_iff es clock).1 F).2.2
  obtain ⟨hj, ej⟩ := List.getElem?_eq_some_iff.1 h2
  obtain ⟨hi', ei⟩ := List.getElem?_eq_some_iff.1 hi
  rw [← ej, ← ei]
  rcases Nat.lt_or_gt_of_ne hne with h | h
  · exact List.pairwise_iff_getElem.1 hn i j hi' hj h
  · exact fun e1 => List.pairwise_iff_getElem.1 hn j i hj hi' h e1.symm
/-- one entry is written over -/
structure Turned (es es' : Array MapEntry) (e0 : MapEntry) (key val : Value) : Prop where
  born : es'.toList.map (·.born) = es.toList.map (·.born)
  who : ∀ x ∈ es'.toList, x = { e0 with key := key, val := val } ∨ (x ∈ es.toList ∧ x.key ≠ key)
  new : ({ e0 with key := key, val := val } : MapEntry) ∈ es'.toList
  old : ∀ x ∈ es.toList, x.key ≠ key → x ∈ es'.toList
theorem turned_mk {es : Array MapEntry} {clock j : Nat} {e0 : MapEntry} {key : Value} (val : Value) (F : MapKept.Stamped es clock) (h2 : es.toList[j]? = some e0) (h3 : e0.key = key) :
    Turned es (es.modify j (fun e' => { e' with key := key, val := val })) e0 key val ∧ MapKept.Stamped (es.modify j (fun e' => { e' with key := key, val := val })) clock := by
  have hj : es[j]? = some e0 := by simpa using h2
  have hjl : j < es.toList.length := (List.getElem?_eq_some_iff.1 h2).1
  have hlist : (es.modify j (fun e' => { e' with key := key, val := val })).toList = es.toList.set j { e0 with key := key, val := val } := by rw [Array.toList_modify, Go.ChangeMaps.modify_eq_set _ _ _ _ h2]
  refine ⟨⟨?_, ?_, ?_, ?_⟩, MapKept.stamped_modify F _ _ (fun _ _ => rfl) (fun e' _ he' => by rw [hj] at he'; cases he'; exact h3.symm)⟩
  · rw [hlist, List.map_set]
    have e2 : es.toList[j] = e0 := by
      have := List.getElem?_eq_getElem hjl
      rw [h2] at this
      exact (Option.some.inj this).symm
    refine List.ext_getElem (by simp) fun m h1 h4 => ?_
    rw [List.getElem_set]
    split
    · next e => subst e; simp [e2] at *
    · rfl
  · intro x hx
    rw [hlist] at hx
    obtain ⟨i, hi, ex⟩ := List.getElem_of_mem hx
    rw [List.getElem_set] at ex
    split at ex
    · exact Or.inl ex.symm
    · rename_i hne
      have hi' : i < es.toList.length := by simpa using hi
      refine Or.inr ⟨ex ▸ List.getElem_mem hi', ?_⟩
      rw [← h3]
      exact other_key' F h2 (by rw [List.getElem?_eq_getElem hi', ex]) (fun e1 => hne e1.symm)
  · rw [hlist]
    exact List.mem_iff_getElem.2 ⟨j, by simpa using hjl, by simp⟩
  · intro x hx hne
    rw [hlist]
    obtain ⟨i, hi, ex⟩ := List.getElem_of_mem hx
    refine List.mem_iff_getElem.2 ⟨i, by simpa using hi, ?_⟩
    rw [List.getElem_set, if_neg, ex]
    rintro rfl
    rw [List.getElem?_eq_getElem hi, ex] at h2
    cases h2
    exact hne h3
theorem Ents.turn {es es' : Array MapEntry} {f : Ow} {e0 : MapEntry} {s i g : Int} (h : Ents es f) (T : Turned es es' e0 (kv s i) (.int .i64 g)) (hs : wf64 s) (hi : wf64 i) (hg : g ≠ 0) : Ents es' (upd f s i g) := by
  refine ⟨fun x hx => ?_, fun a b hab => ?_⟩
  · rcases T.who x hx with rfl | ⟨h1, h2⟩
    · exact ⟨s, i, hs, hi, rfl, by rw [upd_same], by rw [upd_same]; exact hg⟩
    · obtain ⟨a, b, h3, h4, h5, h6, h7⟩ := h.1 x h1
      have hne : ¬ (a = s ∧ b = i) := fun e => h2 (by rw [h5, e.1, e.2])
      exact ⟨a, b, h3, h4, h5, by rw [upd_other _ _ hne]; exact h6, by rw [upd_other _ _ hne]; exact h7⟩
  · by_cases e : a = s ∧ b = i
    · obtain ⟨rfl, rfl⟩ := e
      exact ⟨_, T.new, rfl⟩
    · rw [upd_other _ _ e] at hab
      obtain ⟨x, hx, hk⟩ := h.2 a b hab
      exact ⟨x, T.old x hx (by rw [hk]; exact fun e2 => e (kv_inj e2)), hk⟩
/-! ### the map -/
/-- Block b is a map that tells f. -/
def MapAt (w : World) (b : Nat) (f : Ow) : Prop := ∃ es clock, w.heap[b]? = some (.map es clock) ∧ MapKept.Stamped es clock ∧ Ents es f
theorem kept_setBlock {w : World} {b : Nat} {es : Array MapEntry} {clock : Nat} (hb : w.heap[b]? = some (.map es clock)) (o : Obj) : Kept (· = b) w (setBlock w b o) :=
  ⟨rfl, rfl, rfl, by simp [setBlock], fun k h1 h2 => Go.ChangeMaps.heap_setBlock_other hb o h2⟩
section
variable {w w' : World} {b : Nat} {f : Ow} {s i g : Int}
theorem MapAt.lt (h : MapAt w b f) : b < w.heap.size := let ⟨_, _, h, _⟩ := h; lt_of_block h
theorem MapAt.of_block (h : MapAt w b f) (e : w'.heap[b]? = w.heap[b]?) : MapAt w' b f := by
  obtain ⟨es, clock, hb, r⟩ := h
  exact ⟨es, clock, e.trans hb, r⟩
theorem MapAt.kept {S : Nat → Prop} (h : MapAt w b f) (hk : Kept S w w') (hn : ¬ S b) : MapAt w' b f := h.of_block (hk.block b h.lt hn)
theorem MapAt.below (h : MapAt w b f) (hb : Below w.heap.size w w') : MapAt w' b f := h.of_block (hb.block b h.lt)
/-- no block of cells -/
theorem MapAt.ne (h : MapAt w b f) {k : Nat} {c : Array Value} {T : TypeId} {fr : Nat × Nat} (hk : w.heap[k]? = some (.cells c T fr)) : k ≠ b := by
  rintro rfl
  obtain ⟨es, clock, hb, _⟩ := h
  rw [hk] at hb
  cases hb
theorem MapAt.nt (h : MapAt w b f) {Ts : List TypeId} : ¬ Typ w Ts b := by
  rintro ⟨c, T, fr, h1, _⟩
  exact h.ne h1 rfl
theorem map_made (w : World) : MapAt (w.alloc (.map #[] 0)) w.heap.size noO :=
  ⟨_, _, heap_new _ _, MapKept.stamped_empty 0, fun x hx => (by simp at hx), fun s i h => absurd rfl h⟩
theorem intZero (w : World) : (zeroValue 3).run Try.prog w = .ok (.int .i64 0) w := by kernel_rfl
theorem MapAt.look (h : MapAt w b f) (hs : wf64 s) (hi : wf64 i) (hg : f s i = g) : (Instr.lookup 45 (.map (some b)) (.agg #[.int .i64 s, .int .i64 i]) false).run Try.prog w = .ok (.int .i64 g) w := by
  subst hg
  obtain ⟨es, clock, hb, F, hE⟩ := h
  obtain ⟨l, hkey⟩ := keyP hs hi
  unfold kv at hkey
  rcases lawP.find w hkey es.toList hE.keys with ⟨h1, h2⟩ | ⟨j, e0, h1, h2, h3⟩
  · have h0 : f s i = 0 := by
      by_cases e : f s i = 0
      · exact e
      · obtain ⟨x, hx, hk⟩ := hE.2 s i e
        exact absurd hk (h2 x hx)
    rw [h0]
    simp [Instr.lookup, run_underlying Try.underlying45, MapKept.run_getObj_map hb, lawP.check w _ hkey, h1, intZero, Result.andThen]
  · obtain ⟨a, c, _, _, h4, h5, _⟩ := hE.1 e0 (List.mem_of_getElem? h2)
    obtain ⟨rfl, rfl⟩ := kv_inj (h4.symm.trans h3)
    simp [Instr.lookup, run_underlying Try.underlying45, MapKept.run_getObj_map hb, lawP.check w _ hkey, h1, h5, Result.andThen]
theorem MapAt.store (h : MapAt w b f) (hs : wf64 s) (hi : wf64 i) (hg : g ≠ 0) :
    ∃ w', (Instr.mapUpdate 45 (.map (some b)) (.agg #[.int .i64 s, .int .i64 i]) (.int .i64 g)).run Try.prog w = .ok () w' ∧ MapAt w' b (upd f s i g) ∧ Kept (· = b) w w' := by
  obtain ⟨es, clock, hb, F, hE⟩ := h
  obtain ⟨l, hkey⟩ := keyP hs hi
  unfold kv at hkey
  rcases lawP.find w hkey es.toList hE.keys with ⟨h1, h2⟩ | ⟨j, e0, h1, h2, h3⟩
  · refine ⟨setBlock w b (.map (es.push ⟨kv s i, .int .i64 g, clock⟩) (clock + 1)), ?_, ⟨_, _, Go.ChangeMaps.heap_setBlock_same hb _, MapKept.stamped_push F h2, ?_, ?_⟩, kept_setBlock hb _⟩
    · simp [Instr.mapUpdate, run_underlying Try.underlying45, MapKept.run_getObj_map hb, lawP.check w false hkey, h1, MapKept.run_setObj_map _ hb, Result.andThen, setBlock, kv]
    · intro x hx
      simp only [Array.toList_push, List.mem_append, List.mem_singleton] at hx
      rcases hx with hx | rfl
      · obtain ⟨a, c, h3, h4, h5, h6, h7⟩ := hE.1 x hx
        have hne : ¬ (a = s ∧ c = i) := fun e => h2 x hx (by rw [h5, e.1, e.2]; rfl)
        exact ⟨a, c, h3, h4, h5, by rw [upd_other _ _ hne]; exact h6, by rw [upd_other _ _ hne]; exact h7⟩
      · exact ⟨s, i, hs, hi, rfl, by rw [upd_same], by rw [upd_same]; exact hg⟩
    · intro a c hac
      by_cases e : a = s ∧ c = i
      · obtain ⟨rfl, rfl⟩ := e
        exact ⟨⟨kv a c, .int .i64 g, clock⟩, by simp, rfl⟩
      · rw [upd_other _ _ e] at hac
        obtain ⟨x, hx, hk⟩ := hE.2 a c hac
        exact ⟨x, by simp [hx], hk⟩
  · have hj : es[j]? = some e0 := by simpa using h2
    obtain ⟨T, F'⟩ := turned_mk (.int .i64 g) F h2 h3
    refine ⟨_, ?_, ⟨_, _, Go.ChangeMaps.heap_setBlock_same hb _, F', hE.turn T hs hi hg⟩, kept_setBlock hb _⟩
    simp [Instr.mapUpdate, run_underlying Try.underlying45, MapKept.run_getObj_map hb, lawP.check w false hkey, h1, hj, h3, lawP.stays w hkey, MapKept.run_setObj_map _ hb, Result.andThen, setBlock]
theorem MapAt.drop (h : MapAt w b f) (hs : wf64 s) (hi : wf64 i) (ty : TypeId) :
    ∃ w', (Builtin.delete_ #[45, 54] ty #[.map (some b), .agg #[.int .i64 s, .int .i64 i]]).run Try.prog w = .ok (.tuple #[]) w' ∧ MapAt w' b (upd f s i 0) ∧ Kept (· = b) w w' := by
  obtain ⟨es, clock, hb, F, hE⟩ := h
  obtain ⟨l, hkey⟩ := keyP hs hi
  unfold kv at hkey
  rcases lawP.find w hkey es.toList hE.keys with ⟨h1, h2⟩ | ⟨j, e0, h1, h2, h3⟩
  · refine ⟨setBlock w b (.map es clock), ?_, ⟨_, _, Go.ChangeMaps.heap_setBlock_same hb _, F, ?_, ?_⟩, kept_setBlock hb _⟩
    · simp [Builtin.delete_, run_underlying Try.underlying45, MapKept.run_getObj_map hb, lawP.check w _ hkey, h1, MapKept.run_setObj_map _ hb, Result.andThen, setBlock]
    · intro x hx
      obtain ⟨a, c, h3, h4, h5, h6, h7⟩ := hE.1 x hx
      have hne : ¬ (a = s ∧ c = i) := fun e => h2 x hx (by rw [h5, e.1, e.2]; rfl)
      exact ⟨a, c, h3, h4, h5, by rw [upd_other _ _ hne]; exact h6, by rw [upd_other _ _ hne]; exact h7⟩
    · intro a c hac
      by_cases e : a = s ∧ c = i
      · rw [e.1, e.2, upd_same] at hac
        exact absurd rfl hac
      · rw [upd_other _ _ e] at hac
        exact hE.2 a c hac
  · have hjl : j < es.toList.length := (List.getElem?_eq_some_iff.1 h2).1
    have hjs : j < es.size := by simpa using hjl
    have hsub : (es.eraseIdxIfInBounds j).toList = es.toList.eraseIdx j := by
      unfold Array.eraseIdxIfInBounds
      rw [dif_pos hjs]
      simp
    have hwho : ∀ x, x ∈ es.toList.eraseIdx j ↔ (x ∈ es.toList ∧ x.key ≠ kv s i) := by
      intro x
      rw [List.mem_eraseIdx_iff_getElem?]
      constructor
      · rintro ⟨m, hne, hm⟩
        refine ⟨List.mem_of_getElem? hm, fun e => other_key' F h2 hm hne ?_⟩
        rw [e, h3]
        rfl
      · rintro ⟨hx, hne⟩
        obtain ⟨m, hm⟩ := List.getElem?_of_mem hx
        refine ⟨m, fun e1 => hne ?_, hm⟩
        rw [e1, h2] at hm
        cases hm
        exact h3
    refine ⟨setBlock w b (.map (es.eraseIdxIfInBounds j) clock), ?_, ⟨_, _, Go.ChangeMaps.heap_setBlock_same hb _, MapKept.stamped_erase F j, ?_, ?_⟩, kept_setBlock hb _⟩
    · simp [Builtin.delete_, run_underlying Try.underlying45, MapKept.run_getObj_map hb, lawP.check w _ hkey, h1, MapKept.run_setObj_map _ hb, Result.andThen, setBlock]
    · intro x hx
      rw [hsub] at hx
      obtain ⟨hx1, hx2⟩ := (hwho x).1 hx
      obtain ⟨a, c, h3, h4, h5, h6, h7⟩ := hE.1 x hx1
      have hne : ¬ (a = s ∧ c = i) := fun e => hx2 (by rw [h5, e.1, e.2])
      exact ⟨a, c, h3, h4, h5, by rw [upd_other _ _ hne]; exact h6, by rw [upd_other _ _ hne]; exact h7⟩
    · intro a c hac
      by_cases e : a = s ∧ c = i
      · rw [e.1, e.2, upd_same] at hac
        exact absurd rfl hac
      · rw [upd_other _ _ e] at hac
        obtain ⟨x, hx, hk⟩ := hE.2 a c hac
        refine ⟨x, ?_, hk⟩
        rw [hsub]
        exact (hwho x).2 ⟨hx, by rw [hk]; exact fun e2 => e (kv_inj e2)⟩
end
/-! ### gone through -/
def cut1 (left : Tst) (s i : Int) : Tst := fun x y => left x y && !(x == s && y == i)
def allL (f : Ow) : Tst := fun x y => f x y != 0
/-- Block b is a map that tells f; block r goes through it, and nothing has been laid into it since; 'left': which are still to come, cnt of them. -/
def RangeAt (w : World) (b r : Nat) (f : Ow) (left : Tst) (cnt : Nat) : Prop :=
  ∃ es clock since seen c0, w.heap[b]? = some (.map es clock) ∧ MapKept.Stamped es clock ∧ Ents es f ∧ w.heap[r]? = some (.mapIter (some b) since seen c0) ∧ (∀ x ∈ es.toList, x.born < since) ∧ (leftOf es seen).size = cnt ∧
    (∀ x ∈ es.toList, ∀ s i, x.key = kv s i → left s i = !seen.contains x.born) ∧ (∀ s i, left s i = true → f s i ≠ 0) ∧ since ≤ c0 ∧ since ≤ clock
section
variable {w w' : World} {b r cnt : Nat} {f : Ow} {left : Tst} {s i g : Int}
theorem RangeAt.map (h : RangeAt w b r f left cnt) : MapAt w b f := by
  obtain ⟨es, clock, since, seen, c0, hb, F, hE, _⟩ := h
  exact ⟨es, clock, hb, F, hE⟩
theorem RangeAt.left_eq (h : RangeAt w b r f left cnt) : w.rangeLeft b r = cnt := by
  obtain ⟨es, clock, since, seen, c0, hb, F, hE, hr, _, hc, _⟩ := h
  simp only [World.rangeLeft, hb, hr]
  exact hc
theorem RangeAt.ne (h : RangeAt w b r f left cnt) : r ≠ b := by
  obtain ⟨es, clock, since, seen, c0, hb, F, hE, hr, _⟩ := h
  rintro rfl
  rw [hb] at hr
  cases hr
theorem RangeAt.lt (h : RangeAt w b r f left cnt) : r < w.heap.size := by
  obtain ⟨es, clock, since, seen, c0, hb, F, hE, hr, _⟩ := h
  exact lt_of_block hr
theorem RangeAt.nc (h : RangeAt w b r f left cnt) {k : Nat} {c : Array Value} {T : TypeId} {fr : Nat × Nat} (hk : w.heap[k]? = some (.cells c T fr)) : k ≠ r ∧ k ≠ b := by
  obtain ⟨es, clock, since, seen, c0, hb, F, hE, hr, _⟩ := h
  constructor
  · rintro rfl
    rw [hk] at hr
    cases hr
  · rintro rfl
    rw [hk] at hb
    cases hb
theorem RangeAt.below (h : RangeAt w b r f left cnt) (hb : Below w.heap.size w w') : RangeAt w' b r f left cnt := by
  have h1 := h.map.lt
  have h2 := h.lt
  obtain ⟨es, clock, since, seen, c0, hbb, F, hE, hr, rest⟩ := h
  exact ⟨es, clock, since, seen, c0, (hb.block b h1).trans hbb, F, hE, (hb.block r h2).trans hr, rest⟩
theorem MapAt.range (h : MapAt w b f) : ∃ w' cnt, (Instr.range 45 (.map (some b))).run Try.prog w = .ok (.pointer (some ⟨w.heap.size, 0, none⟩)) w' ∧ RangeAt w' b w.heap.size f (allL f) cnt ∧ Below w.heap.size w w' ∧ w'.heap.size = w.heap.size + 1 := by
  have hlt := h.lt
  obtain ⟨es, clock, hb, F, hE⟩ := h
  refine ⟨_, _, run_range_map w 45 54 3 b es clock Try.underlying45 hb, ⟨es, clock, clock, #[], clock, (Below.heap_alloc _ _ _ hlt).trans hb, F, hE, heap_new _ _, F.1, rfl, ?_, ?_, Nat.le_refl _, Nat.le_refl _⟩, below_one (Below.refl _ _) _, size_alloc _ _⟩
  · intro x hx s i hk
    obtain ⟨a, c, _, _, h5, _, h7⟩ := hE.1 x hx
    obtain ⟨rfl, rfl⟩ := kv_inj (h5.symm.trans hk)
    simp [allL, h7]
  · intro s i h
    simpa [allL] using h
theorem RangeAt.next (h : RangeAt w b r f left cnt) (ty : TypeId) :
    (cnt = 0 ∧ (∀ s i, left s i = false) ∧ (Instr.next (.pointer (some ⟨r, 0, none⟩)) false ty).run Try.prog w = .ok (.tuple #[.bool false]) w) ∨
    ∃ s i w' cnt', wf64 s ∧ wf64 i ∧ left s i = true ∧ (Instr.next (.pointer (some ⟨r, 0, none⟩)) false ty).run Try.prog w = .ok (.tuple #[.bool true, .agg #[.int .i64 s, .int .i64 i], .int .i64 (f s i)]) w' ∧
      RangeAt w' b r f (cut1 left s i) cnt' ∧ cnt' < cnt ∧ Kept (· = r) w w' ∧ (Instr.entry (.pointer (some ⟨r, 0, none⟩))).run Try.prog w' = .ok (.tuple #[.agg #[.int .i64 s, .int .i64 i], .int .i64 (f s i)]) w' := by
  have hne := h.ne
  obtain ⟨es, clock, since, seen, c0, hb, F, hE, hr, hold, rfl, hl1, hl2, hsc, hsk⟩ := h
  rcases run_next_at (P := Try.prog) w ty r b since c0 seen es clock hr hb hold hsc with ⟨h0, hrun⟩ | ⟨e, he, w1, hal, hrun⟩
  · refine Or.inl ⟨h0, fun s i => ?_, hrun⟩
    cases hk : left s i
    · rfl
    · obtain ⟨x, hx, hxk⟩ := hE.2 s i (hl2 s i hk)
      rw [hl1 x hx s i hxk, all_seen es seen h0 x hx] at hk
      cases hk
  · obtain ⟨hem, hes⟩ := mem_left he
    obtain ⟨s, i, hws, hwi, hek, hev, hen⟩ := hE.1 e hem
    have hr1 : w1.heap[r]? = some (.mapIter (some b) since seen c0) := by rcases hal with rfl | rfl <;> exact hr
    have hb1 : w1.heap[b]? = some (.map es clock) := by rcases hal with rfl | rfl <;> exact hb
    have hset : (setBlock w1 r (.mapIter (some b) since (seen.push e.born) clock)).heap[r]? = some (.mapIter (some b) since (seen.push e.born) clock) := by
      unfold setBlock
      dsimp only
      rw [Array.getElem?_setIfInBounds, if_pos rfl, if_pos (lt_of_block hr1)]
    have hoth : ∀ k, k ≠ r → (setBlock w1 r (.mapIter (some b) since (seen.push e.born) clock)).heap[k]? = w1.heap[k]? := fun k hk => by
      unfold setBlock
      dsimp only
      rw [Array.getElem?_setIfInBounds, if_neg (fun e1 => hk e1.symm)]
    have hb' := (hoth b (fun e1 => hne e1.symm)).trans hb1
    have hst := (MapKept.stamped_iff es clock).1 F
    rw [hek, hev] at hrun
    refine Or.inr ⟨s, i, _, _, hws, hwi, by rw [hl1 e hem s i hek, hes]; rfl, hrun,
      ⟨es, clock, since, seen.push e.born, clock, hb', F, hE, hset, hold, rfl, fun x hx a c hxk => ?_, fun a c hac => hl2 a c (by simp [cut1] at hac; exact hac.1), hsk, hsk⟩, left_shrinks es seen e he, ?_, ?_⟩
    · show (left a c && !(a == s && c == i)) = _
      rw [hl1 x hx a c hxk, contains_push]
      by_cases hxe : x.born = e.born
      · obtain rfl := born_inj hst.2.1 hx hem hxe
        obtain ⟨rfl, rfl⟩ := kv_inj (hxk.symm.trans hek)
        simp
      · have h1 : (x.born == e.born) = false := by simp [hxe]
        have h2 : (a == s && c == i) = false := by
          rw [Bool.eq_false_iff]
          intro e2
          simp only [Bool.and_eq_true, beq_iff_eq] at e2
          refine hxe (congrArg MapEntry.born (entry_eq_of_key hst.2.2 hx hem ?_))
          rw [hxk, hek, e2.1, e2.2]
        rw [h1, h2]
        simp
    · rcases hal with rfl | rfl <;> exact ⟨rfl, rfl, rfl, by simp [setBlock], fun k _ hk => hoth k hk⟩
    · have := run_entry_at (P := Try.prog) _ r b since seen es clock e hset hb' hem hst.2.1
      rw [hek, hev] at this
      exact this
/-- An element that is there is written on the way. -/
theorem RangeAt.store (h : RangeAt w b r f left cnt) (hs : wf64 s) (hi : wf64 i) (hf : f s i ≠ 0) (hg : g ≠ 0) :
    ∃ w', (Instr.mapUpdate 45 (.map (some b)) (.agg #[.int .i64 s, .int .i64 i]) (.int .i64 g)).run Try.prog w = .ok () w' ∧ RangeAt w' b r (upd f s i g) left cnt ∧ Kept (· = b) w w' := by
  have hne := h.ne
  obtain ⟨es, clock, since, seen, c0, hb, F, hE, hr, hold, rfl, hl1, hl2, hsc, hsk⟩ := h
  obtain ⟨l, hkey⟩ := keyP hs hi
  unfold kv at hkey
  rcases lawP.find w hkey es.toList hE.keys with ⟨h1, h2⟩ | ⟨j, e0, h1, h2, h3⟩
  · obtain ⟨x, hx, hk⟩ := hE.2 s i hf
    exact absurd hk (h2 x hx)
  · have hj : es[j]? = some e0 := by simpa using h2
    have hm0 := List.mem_of_getElem? h2
    obtain ⟨T, F'⟩ := turned_mk (.int .i64 g) F h2 h3
    have hborn : ∀ x ∈ (es.modify j (fun e' => { e' with key := .agg #[.int .i64 s, .int .i64 i], val := .int .i64 g })).toList, x.born < since := fun x hx => by
      rcases T.who x hx with rfl | ⟨h4, _⟩
      · exact hold e0 hm0
      · exact hold x h4
    refine ⟨_, ?_, ⟨_, clock, since, seen, c0, Go.ChangeMaps.heap_setBlock_same hb _, F', hE.turn T hs hi hg, (Go.ChangeMaps.heap_setBlock_other hb _ hne).trans hr, hborn, ?_, ?_, ?_, hsc, hsk⟩, kept_setBlock hb _⟩
    · simp [Instr.mapUpdate, run_underlying Try.underlying45, MapKept.run_getObj_map hb, lawP.check w false hkey, h1, hj, h3, lawP.stays w hkey, MapKept.run_setObj_map _ hb, Result.andThen, setBlock]
    · have e1 : ∀ a : Array MapEntry, (leftOf a seen).size = ((a.toList.map (·.born)).filter fun n => !seen.contains n).length := fun a => by
        unfold leftOf
        rw [List.filter_map, List.length_map, ← Array.length_toList, Array.toList_filter]
        rfl
      rw [e1, e1, T.born]
    · intro x hx a c hk
      rcases T.who x hx with rfl | ⟨h4, _⟩
      · exact hl1 e0 hm0 a c (h3.trans hk)
      · exact hl1 x h4 a c hk
    · intro a c hac
      by_cases e : a = s ∧ c = i
      · rw [e.1, e.2, upd_same]
        exact hg
      · rw [upd_other _ _ e]
        exact hl2 a c hac
end
/-! ### at the operations -/
section
variable {w : World} {ops : Array Oper} {rest : List Oper} {o : Oper} {a : Act} {Q : Exit → Act → World → Prop}
theorem wpList_rangeAt (hg : o.guard = none) (m : Operand) (hop : o.op = Op.range 45 m) {b : Nat} {f : Ow} (hm : a.eval m = .map (some b)) (h : MapAt w b f)
    (hK : ∀ w' cnt, RangeAt w' b w.heap.size f (allL f) cnt → Below w.heap.size w w' → w'.heap.size = w.heap.size + 1 → wpList Try.prog ops Q rest (a.put o.dst (.pointer (some ⟨w.heap.size, 0, none⟩))) w') : wpList Try.prog ops Q (o :: rest) a w := by
  refine wpList_plain hg fun K' hK' => ?_
  obtain ⟨w', cnt, hrun, r1, r2, r3⟩ := h.range
  unfold Oper.wp
  simp [execOp, hop, hm, hrun, Result.andThen]
  exact hK' _ _ (hK w' cnt r1 r2 r3)
theorem wpList_nextAt (hg : o.guard = none) (it : Operand) (hop : o.op = Op.next it false) {b r cnt : Nat} {f : Ow} {left : Tst} (hit : a.eval it = .pointer (some ⟨r, 0, none⟩)) (h : RangeAt w b r f left cnt)
    (hDone : cnt = 0 → (∀ s i, left s i = false) → wpList Try.prog ops Q rest (a.put o.dst (.tuple #[.bool false])) w)
    (hMore : ∀ s i w' cnt', wf64 s → wf64 i → left s i = true → RangeAt w' b r f (cut1 left s i) cnt' → cnt' < cnt → Kept (· = r) w w' →
      (Instr.entry (.pointer (some ⟨r, 0, none⟩))).run Try.prog w' = .ok (.tuple #[.agg #[.int .i64 s, .int .i64 i], .int .i64 (f s i)]) w' → wpList Try.prog ops Q rest (a.put o.dst (.tuple #[.bool true, .agg #[.int .i64 s, .int .i64 i], .int .i64 (f s i)])) w') : wpList Try.prog ops Q (o :: rest) a w := by
  refine wpList_plain hg fun K' hK' => ?_
  unfold Oper.wp
  rcases h.next o.type with ⟨h0, hl, hrun⟩ | ⟨s, i, w', cnt', h1, h2, h3, hrun, h4, h5, h6, h7⟩
  · simp [execOp, hop, hit, hrun, Result.andThen]
    exact hK' _ _ (hDone h0 hl)
  · simp [execOp, hop, hit, hrun, Result.andThen]
    exact hK' _ _ (hMore s i w' cnt' h1 h2 h3 h4 h5 h6 h7)
theorem step_drop {K : Act → World → Prop} {E : Prop} (hgd : o.guard = none) (m x : Operand) (hop : o.op = Op.call { callee := Callee.builtin Builtin.delete, args := #[m, x], argTypes := #[45, 54] }) {b : Nat} {f : Ow} (hm : a.eval m = .map (some b)) (h : MapAt w b f) {s i : Int} (hx : a.eval x = .agg #[.int .i64 s, .int .i64 i]) (hs : wf64 s) (hi : wf64 i)
    (hK : ∀ w1, MapAt w1 b (upd f s i 0) → Kept (· = b) w w1 → K (a.put o.dst (.tuple #[])) w1) :
    if Region.wanted o (yielded ops a.tmps) = true then Oper.wp Try.prog o a w K Q else E := by
  have hw : Region.wanted o (yielded ops a.tmps) = true := by simp [Region.wanted, hgd]
  rw [if_pos hw]
  obtain ⟨w1, hrun, h1, h2⟩ := h.drop hs hi o.type
  unfold Oper.wp
  simp [execOp, hop, resolve, invoke, builtin, hm, hx, hrun, Result.andThen]
  exact hK w1 h1 h2
end
end Go.Proofs.Ytoffakamlpfgoaa
