/-
  What a list shows in a world; small laws on worlds; what stays when only some blocks change; two lists of numbers compared; Bring; rows of one's own.
-/
import Derived.Test.YtnnfmlbgoplnaaaRows
import Derived.WalkKit
import Derived.ProofKit
import Derived.OpenShut
import Derived.Below
import Derived.Outline
import Derived.Lib.Hide
import Derived.Laws.Rows
import Derived.WalkLawsBesides
import Derived.OwnWalk
import Derived.Laws.OwnMore
import Derived.Laws.AppendOwn
import Derived.Deep.QuietTactic
import Derived.BigQuiet
import Derived.WalkSmall
import Derived.BigCall
import Derived.Deep.RegionHeld3
import Derived.Deep.Slices
import Derived.Deep.OwnRows
import Derived.Deep.RegionHeldLaw
import Derived.Deep.RegionLaw
import Derived.Deep.AppendLies
import Derived.Maps.AppendAt
import Derived.Lib.SliceRun
import Derived.Laws.MakeOwn
import Derived.Laws.StructEq
import Derived.Deep.MidRow
set_option linter.unusedVariables false
set_option linter.unusedSimpArgs false
namespace Go.Proofs.Ytnnfmlbgoplnaaa
open Go Go.RowKit

theorem size_alloc (w : World) (o : Obj) : (w.alloc o).heap.size = w.heap.size + 1 := Array.size_push _
theorem heap_new (w : World) (o : Obj) : (w.alloc o).heap[w.heap.size]? = some o := Array.getElem?_push_size
theorem below_one {w wr : World} (hb : Below w.heap.size w wr) (o : Obj) : Below w.heap.size w (wr.alloc o) := hb.alloc hb.size o
theorem below_then {w wr w' : World} (hb : Below w.heap.size w wr) (h : Below wr.heap.size wr w') : Below w.heap.size w w' := hb.trans (h.mono hb.size)
theorem below_drewN {B : Nat} {a w : World} (h : Below B a w) (n : Nat) : Below B a (w.drewN n) := ⟨h.os, h.tape, h.output, h.size, h.block⟩
theorem cell_keep {w w' : World} {p : Addr} {u : Value} (hb : Below w.heap.size w w') (h : w.cell? p = some u) : w'.cell? p = some u := (hb.cell (World.block_lt_of_cell? w _ h)).trans h
theorem ret_int {a b : Int} (h : a = b) : Ending.returned (.int .i64 a) = .returned (.int .i64 b) := by rw [h]
theorem ret_bool {a b : Bool} (h : a = b) : Ending.returned (.bool a) = .returned (.bool b) := by rw [h]
/-- A slice of n elements of k cells each shows these cells. -/
def Shows (w : World) (v : Value) (n k : Nat) (xs : List Value) : Prop :=
  xs.length = n * k ∧ ∃ ao cap, v = .slice ao n cap ∧ (n ≤ cap ∧ cap ≤ maxLen) ∧ (0 < n → ∃ b o, ao = some ⟨b, o, none⟩ ∧ ∀ j, j < n * k → w.cell? ⟨b, o + j, none⟩ = xs[j]?)
theorem Shows.nil (w : World) (k : Nat) : Shows w (.slice none 0 0) 0 k [] := ⟨by simp, none, 0, rfl, ⟨Nat.le_refl _, Nat.zero_le _⟩, fun h => absurd h (Nat.lt_irrefl _)⟩
theorem Shows.keeps {w w' : World} {v : Value} {n k : Nat} {xs : List Value} (h : Shows w v n k xs) (hk : ∀ p u, w.cell? p = some u → w'.cell? p = some u) : Shows w' v n k xs := by
  obtain ⟨hl, ao, cap, hv, hc, hs⟩ := h
  refine ⟨hl, ao, cap, hv, hc, fun hn => ?_⟩
  obtain ⟨b, o, ha, hx⟩ := hs hn
  refine ⟨b, o, ha, fun j hj => ?_⟩
  have h1 := hx j hj
  have h2 : xs[j]? = some (xs[j]'(by omega)) := List.getElem?_eq_getElem (by omega)
  rw [h2] at h1
  rw [h2, hk _ _ h1]
theorem Shows.below {w w' : World} {v : Value} {n k : Nat} {xs : List Value} (h : Shows w v n k xs) (hb : Below w.heap.size w w') : Shows w' v n k xs :=
  h.keeps fun p u hp => by rw [hb.cell (World.block_lt_of_cell? w p hp), hp]
theorem Shows.ofOwns {w : World} {B n k : Nat} {e : TypeId} {v : Value} {xs : List Value} (h : w.ownsRow B e k v n xs) : Shows w v n k xs := by
  refine ⟨h.1, ?_⟩
  rcases h.2 with ⟨rfl, rfl⟩ | ⟨g, cap, cur, rfl, hb, hg, hc, hm, _⟩
  · exact ⟨none, 0, rfl, ⟨Nat.le_refl _, Nat.zero_le _⟩, fun h => absurd h (Nat.lt_irrefl _)⟩
  · refine ⟨_, cap, rfl, ⟨hc, hm⟩, fun hn => ⟨g, 0, rfl, fun j hj => ?_⟩⟩
    rw [Nat.zero_add]
    exact h.cellAt j hj
theorem info_parts {P : Program} {t : TypeId} {z : Value} {s b : Nat} (h : (P.info? t).map (fun i => (i.zero, i.size, i.bytes)) = some (some z, s, b)) : ∃ i, P.info? t = some i ∧ i.zero = some z ∧ i.size = s ∧ i.bytes = b := by
  cases hi : P.info? t with
  | none => rw [hi] at h; simp at h
  | some i =>
    rw [hi] at h
    simp at h
    exact ⟨i, rfl, h.1, h.2.1, h.2.2⟩
theorem lt_of_block {w : World} {K : Nat} {o : Obj} (h : w.heap[K]? = some o) : K < w.heap.size := (Array.getElem?_eq_some_iff.1 h).1
theorem self_free {w : World} {K : Nat} {cs : Array Value} {t : TypeId} (h : w.heap[K]? = some (.cells cs t (0, 0))) (j : Nat) : w.frozen? ⟨K, j, none⟩ = false := by
  unfold World.frozen?
  dsimp only
  rw [h]
  simp
theorem self_cell {w : World} {K : Nat} {cs : Array Value} {t : TypeId} {fr : Nat × Nat} (h : w.heap[K]? = some (.cells cs t fr)) (j : Nat) (u : Value) (hu : cs[j]? = some u) : w.cell? ⟨K, j, none⟩ = some u := by
  unfold World.cell?
  dsimp only
  rw [h]
  exact hu
theorem heap_low2 (w : World) (o o' : Obj) : ((w.alloc o).alloc o').heap[w.heap.size]? = some o := by
  rw [Below.heap_alloc _ _ _ (by rw [size_alloc]; omega)]
  exact heap_new w o
theorem heap_new2 (w : World) (o o' : Obj) : ((w.alloc o).alloc o').heap[w.heap.size + 1]? = some o' := by rw [← size_alloc w o]; exact heap_new _ _
theorem cells_set {w : World} {K : Nat} {cs : Array Value} {t : TypeId} (h : w.heap[K]? = some (.cells cs t (0, 0))) (j : Nat) (u : Value) : (w.setCell ⟨K, j, none⟩ u).heap[K]? = some (.cells (cs.setIfInBounds j u) t (0, 0)) := by
  have hlt := lt_of_block h
  have h' : w.heap[K] = .cells cs t (0, 0) := by simpa [Array.getElem?_eq_getElem hlt] using h
  show (w.heap.modify K _)[K]? = _
  rw [Array.getElem?_eq_getElem (by simpa using hlt), Array.getElem_modify_self, h']
  rfl
theorem take_eq_succ {α : Type} (a b : List α) (k : Nat) (ha : k < a.length) (hb : k < b.length) (h : a.take k = b.take k) (he : a[k] = b[k]) : a.take (k + 1) = b.take (k + 1) := by
  rw [List.take_succ_eq_append_getElem ha, List.take_succ_eq_append_getElem hb, h, he]
theorem ne_of_at {α : Type} (a b : List α) (k : Nat) (ha : k < a.length) (hb : k < b.length) (he : a[k] ≠ b[k]) : a ≠ b := by
  rintro rfl
  exact he rfl
theorem own_ge {w : World} {B n : Nat} {t : TypeId} {k : Nat} {v : Value} {xs : List Value} (h : w.ownsRow B t k v n xs) : ∀ j, v.ownBlock = some j → B ≤ j := by
  intro j ej
  rcases h.2 with ⟨rfl, _⟩ | ⟨g, cap, cur, rfl, hb, _, _⟩
  · simp [Value.ownBlock] at ej
  · obtain rfl : g = j := by simpa [Value.ownBlock] using ej
    exact hb
theorem grown_of_below {B : Nat} {w w' : World} {row : Option Nat} (h : Below w.heap.size w w') (hB : B ≤ B) : w.grownBy w' row := ⟨h.os, h.tape, h.output, h.size, fun k hk _ => h.block k hk⟩
theorem plain_add (b o j : Nat) : (⟨b, o, none⟩ : Addr).add j = ⟨b, o + j, none⟩ := by
  by_cases h0 : j = 0
  · subst h0; rfl
  · simp [Addr.add, h0]
theorem own_below {W W' : World} {B n size : Nat} {e : TypeId} {v : Value} {xs : List Value} (h : W.ownsRow B e size v n xs) (hb : Below W.heap.size W W') : W'.ownsRow B e size v n xs := by
  refine h.kept (grown_of_below (B := 0) (row := none) hb (Nat.le_refl _)) ?_
  cases hv : v.ownBlock with
  | none => exact .inl rfl
  | some k => exact .inr (by simp)
theorem own_ne {w : World} {Bs j n k : Nat} {T T' : TypeId} {v : Value} {xs : List Value} {c : Array Value} {fr : Nat × Nat} (h : w.ownsRow Bs T k v n xs) (hb : w.heap[j]? = some (.cells c T' fr)) (hT : T ≠ T') : v.ownBlock ≠ some j := by
  rcases h.2 with ⟨rfl, _⟩ | ⟨g, cap, cur, rfl, _, hg, _⟩
  · simp [Value.ownBlock]
  · intro e
    obtain rfl : g = j := by simpa [Value.ownBlock] using e
    rw [hg] at hb
    cases hb
    exact hT rfl
theorem own_shape {w : World} {B n k : Nat} {t : TypeId} {v : Value} {xs : List Value} (h : w.ownsRow B t k v n xs) : ∃ a c, v = .slice a n c ∧ n ≤ c ∧ c ≤ 9223372036854775807 := by
  rcases h.2 with ⟨rfl, rfl⟩ | ⟨g, cap, cur, rfl, hb, hg, hc, hm, _⟩
  · exact ⟨none, 0, rfl, Nat.le_refl _, by omega⟩
  · exact ⟨_, cap, rfl, hc, by unfold maxLen at hm; omega⟩
theorem size_drewN (w : World) (n : Nat) : (w.drewN n).heap.size = w.heap.size := rfl
/-- Only these blocks change. -/
structure Kept (S : Nat → Prop) (w w' : World) : Prop where
  os : w'.os = w.os
  tape : w'.tape = w.tape
  output : w'.output = w.output
  size : w.heap.size ≤ w'.heap.size
  block : ∀ k, k < w.heap.size → ¬ S k → w'.heap[k]? = w.heap[k]?
section
variable {S T : Nat → Prop} {w w' w'' : World}
theorem Kept.refl (S : Nat → Prop) (w : World) : Kept S w w := ⟨rfl, rfl, rfl, Nat.le_refl _, fun _ _ _ => rfl⟩
theorem Kept.trans (h : Kept S w w') (k : Kept S w' w'') : Kept S w w'' :=
  ⟨k.os.trans h.os, k.tape.trans h.tape, k.output.trans h.output, Nat.le_trans h.size k.size, fun i hi hn => (k.block i (Nat.lt_of_lt_of_le hi h.size) hn).trans (h.block i hi hn)⟩
theorem Kept.drew (h : Kept S w w') : Kept S w w'.drew := ⟨h.os, h.tape, h.output, h.size, h.block⟩
theorem Kept.drewN (h : Kept S w w') (n : Nat) : Kept S w (w'.drewN n) := ⟨h.os, h.tape, h.output, h.size, h.block⟩
theorem Kept.alloc (h : Kept S w w') (o : Obj) : Kept S w (w'.alloc o) :=
  ⟨h.os, h.tape, h.output, Nat.le_trans h.size (by rw [size_alloc]; omega), fun i hi hn => (Below.heap_alloc _ _ _ (Nat.lt_of_lt_of_le hi h.size)).trans (h.block i hi hn)⟩
theorem Kept.setCell (h : Kept S w w') {p : Addr} (hp : S p.block) (u : Value) : Kept S w (w'.setCell p u) := by
  have hb := (Below.refl 0 w').setCell (p := p) (Nat.zero_le _) u
  exact ⟨hb.os.trans h.os, hb.tape.trans h.tape, hb.output.trans h.output, Nat.le_trans h.size hb.size, fun i hi hn => (Below.heap_setCell w' _ u i (fun e => hn (e ▸ hp))).trans (h.block i hi hn)⟩
theorem Kept.mono (h : Kept S w w') (hS : ∀ k, S k → T k) : Kept T w w' := ⟨h.os, h.tape, h.output, h.size, fun i hi hn => h.block i hi (fun hs => hn (hS i hs))⟩
theorem Kept.ofBelow (h : Below w.heap.size w w') : Kept S w w' := ⟨h.os, h.tape, h.output, h.size, fun i hi _ => h.block i hi⟩
theorem Kept.below {B : Nat} (h : Kept S w w') (hB : B ≤ w.heap.size) (hS : ∀ k, S k → B ≤ k) : Below B w w' :=
  ⟨h.os, h.tape, h.output, h.size, fun i hi => h.block i (Nat.lt_of_lt_of_le hi hB) (fun hs => by have := hS i hs; omega)⟩
/-- what was new and changed since is still new -/
theorem below_kept {W w w' : World} (hb : Below W.heap.size W w) (h : Kept S w w') (hS : ∀ k, S k → W.heap.size ≤ k) : Below W.heap.size W w' := hb.trans (h.below hb.size hS)
theorem row_kept {b : Nat} {t : TypeId} {n : Nat} {f : Nat → Value} (h : w.rowIs b t n f) (hk : Kept S w w') (hn : ¬ S b) : w'.rowIs b t n f := h.of_block (hk.block b h.lt hn)
theorem cell_kept {p : Addr} {u : Value} (h : w.cell? p = some u) (hk : Kept S w w') (hn : ¬ S p.block) : w'.cell? p = some u := (World.cell?_of_block (w := w) (hk.block _ (World.block_lt_of_cell? w _ h) hn)).trans h
end


theorem keep_block {W W' : World} {K : Nat} {o : Obj} (h : W.heap[K]? = some o) (hb : Below W.heap.size W W') : W'.heap[K]? = some o := (hb.block _ (lt_of_block h)).trans h
abbrev nms (l : List Int) : List Value := l.map (Value.int .i64)
def ShowI (w : World) (v : Value) (l : List Int) : Prop := Shows w v l.length 1 (nms l)
def pk (l : List Int) (i : Nat) : Int := l.getD i 0
theorem pk_at (l : List Int) (i : Nat) (h : i < l.length) : l[i] = pk l i := by simp [pk, h]
theorem ShowI.form {w : World} {v : Value} {l : List Int} (h : ShowI w v l) : ∃ ao cap, v = .slice ao l.length cap ∧ (l.length ≤ cap ∧ cap ≤ 9223372036854775807) ∧ ∀ i, i < l.length → ∃ b o, ao = some ⟨b, o, none⟩ ∧ w.cell? ⟨b, o + i, none⟩ = some (.int .i64 (pk l i)) := by
  obtain ⟨hl, ao, cap, hv, hc, hs⟩ := h
  refine ⟨ao, cap, hv, by unfold maxLen at hc; omega, fun i hi => ?_⟩
  obtain ⟨b, o, ha, hx⟩ := hs (by omega)
  refine ⟨b, o, ha, ?_⟩
  have := hx i (by omega)
  rw [← pk_at l i hi]
  simpa [hi] using this
theorem ShowI.below {w w' : World} {v : Value} {l : List Int} (h : ShowI w v l) (hb : Below w.heap.size w w') : ShowI w' v l := Shows.below h hb
theorem ShowI.nil (w : World) : ShowI w (.slice none 0 0) [] := Shows.nil w 1
/-- a block whose cells are listed -/
theorem lit_shows (w : World) (t : TypeId) (xs : List Value) (n : Nat) (hn : xs.length = n) (hm : n ≤ 10000) : Shows (w.alloc (.cells xs.toArray t)) (.slice (some ⟨w.heap.size, 0, none⟩) n n) n 1 xs := by
  refine ⟨by omega, _, n, rfl, by unfold maxLen; omega, fun _ => ⟨_, 0, rfl, fun j hj => ?_⟩⟩
  have hb : (w.alloc (.cells xs.toArray t)).heap[w.heap.size]? = some (.cells xs.toArray t) := heap_new _ _
  unfold World.cell?
  dsimp only
  rw [hb]
  simp
theorem lit_i (w : World) (t : TypeId) (l : List Int) (n : Nat) (hn : l.length = n) (hm : n ≤ 10000) : ShowI (w.alloc (.cells (nms l).toArray t)) (.slice (some ⟨w.heap.size, 0, none⟩) n n) l := by
  unfold ShowI
  rw [hn]
  exact lit_shows w t (nms l) n (by simp [hn]) hm
theorem own_i {w : World} {B n : Nat} {t : TypeId} {v : Value} {l : List Int} (h : w.ownsRow B t 1 v n (nms l)) : ShowI w v l := by
  have h1 := Shows.ofOwns h
  have hl : l.length = n := by have := h.1; simpa using this
  unfold ShowI
  rw [hl]
  exact h1
theorem infoI : (Try.prog.info? 3).map (fun i => (i.zero, i.size, i.bytes)) = some (some (.int .i64 0), 1, 8) := by kernel_rfl
set_option maxHeartbeats 2000000 in
set_option maxRecDepth 100000 in
theorem cEqInts (u v : Value) (a b : List Int) (w : World) (hu : ShowI w u a) (hv : ShowI w v b) :
    Calls Try.prog 28 #[u, v] w fun e w' => e = .returned (.bool (decide (a = b))) ∧ Below w.heap.size w w' := by
  obtain ⟨ao, cap, rfl, hcap, hat⟩ := hu.form
  obtain ⟨bo, cbp, rfl, hcbp, hbt⟩ := hv.form
  clear hu hv
  by_cases hl : a.length = b.length
  · have hl1 : a.length ≤ b.length := by omega
    have hl2 : b.length ≤ a.length := by omega
    have HLE := Lib.hid hl
    have hne : ((a.length : Int) != (b.length : Int)) = false := by simp [hl]
    clear hl
    go_enter Try.func28, Try.ntmps28
    go_wp2
    go_loopw [5] (fun i wr => ∃ k : Nat, k ≤ a.length ∧ i = .int .i64 k ∧ a.take k = b.take k ∧ Below w.heap.size w wr) (fun i _ => a.length - (intOf i).toNat)
    case atStart => exact ⟨0, by omega, rfl, rfl, Below.refl _ _⟩
    case round =>
      obtain ⟨k, hk, rfl, htk, hb⟩ := hrel
      have HT := Lib.hid htk
      clear htk
      by_cases hlt : k < a.length
      · have hlb : k < b.length := by omega
        obtain ⟨b1, o1, rfl, c1⟩ := hat k hlt
        obtain ⟨b2, o2, rfl, c2⟩ := hbt k hlb
        rw [← pk_at a k hlt] at c1
        rw [← pk_at b k hlb] at c2
        have d1 := (hb.cell (p := ⟨b1, o1 + k, none⟩) (World.block_lt_of_cell? w _ c1)).trans c1
        have d2 := (hb.cell (p := ⟨b2, o2 + k, none⟩) (World.block_lt_of_cell? w _ c2)).trans c2
        clear c1 c2
        have HS : Hid (a[k] = b[k] → a.take (k + 1) = b.take (k + 1)) := Lib.hid (take_eq_succ a b k hlt hlb HT.out)
        have HN : Hid (a[k] ≠ b[k] → a ≠ b) := Lib.hid (ne_of_at a b k hlt hlb)
        generalize a[k] = x at d1 HS HN
        generalize b[k] = y at d2 HS HN
        by_cases hxy : x = y
        · subst hxy
          have HS1 := Lib.hid (HS.out rfl)
          clear HS HN
          go_wp2
          go_quiet (fail)
          go_wp2
          go_roundw
          case rel => exact ⟨k + 1, by omega, by go_num, HS1.out, below_drewN hb _⟩
          case measure => simp [intOf]; omega
        · have HN1 := Lib.hid (HN.out hxy)
          have hne' : (x != y) = true := by simpa using hxy
          clear HS HN
          go_wp2
          go_quiet (fail)
          go_wp2
          go_ret
          exact ⟨ret_bool (by rw [decide_eq_false HN1.out]), below_drewN hb _⟩
      · have hke : k = a.length := by omega
        subst hke
        have HE : Hid (a = b) := Lib.hid (by have := HT.out; rwa [List.take_length, HLE.out, List.take_length] at this)
        go_wp2
        go_ret
        exact ⟨ret_bool (by rw [decide_eq_true HE.out]), hb⟩
  · have hne : ((a.length : Int) != (b.length : Int)) = true := by simp; omega
    have HN : Hid (a ≠ b) := Lib.hid (fun e => hl (by rw [e]))
    go_enter Try.func28, Try.ntmps28
    go_wp2
    go_ret
    exact ⟨ret_bool (by rw [decide_eq_false HN.out]), Below.refl _ _⟩

/-- blocks of these types -/
def Typ (w : World) (Ts : List TypeId) (k : Nat) : Prop := ∃ c T fr, w.heap[k]? = some (.cells c T fr) ∧ T ∈ Ts
theorem Typ.ne {w : World} {Ts : List TypeId} {k j : Nat} {c : Array Value} {T : TypeId} {fr : Nat × Nat} (h : Typ w Ts k) (hb : w.heap[j]? = some (.cells c T fr)) (hT : T ∉ Ts) : k ≠ j := by
  rintro rfl
  obtain ⟨c', T', fr', h1, h2⟩ := h
  rw [hb] at h1
  cases h1
  exact hT h2
theorem Typ.lt {w : World} {Ts : List TypeId} {k : Nat} (h : Typ w Ts k) : k < w.heap.size := by
  obtain ⟨c', T', fr', h1, h2⟩ := h
  exact lt_of_block h1
theorem row_kept2 {S : Nat → Prop} {w w' : World} {Ts : List TypeId} {b n : Nat} {T : TypeId} {f : Nat → Value} (h : w.rowIs b T n f) (hk : Kept S w w') (hS : ∀ k, S k → Typ w Ts k) (hT : T ∉ Ts) : w'.rowIs b T n f :=
  row_kept h hk (fun e => by obtain ⟨c, hb, _⟩ := h; exact (hS b e).ne hb hT rfl)
theorem own_kept2 {S : Nat → Prop} {w w' : World} {Ts : List TypeId} {B n k : Nat} {T : TypeId} {v : Value} {xs : List Value} (h : w.ownsRow B T k v n xs) (hk : Kept S w w') (hS : ∀ k, S k → Typ w Ts k) (hT : T ∉ Ts) : w'.ownsRow B T k v n xs := by
  refine ⟨h.1, ?_⟩
  rcases h.2 with e | ⟨r, c, cur, rfl, hb, hg, h1⟩
  · exact .inl e
  · exact .inr ⟨r, c, cur, rfl, hb, (hk.block r (lt_of_block hg) (fun e => (hS r e).ne hg hT rfl)).trans hg, h1⟩
section
end

section
variable {S T : Nat → Prop} {w w' w'' : World}
end


def bring (x : Int) (n : Nat) : Nat := (x % n).toNat
theorem bring_lt (x : Int) (n : Nat) (h1 : 1 ≤ n) : bring x n < n := by
  have := Int.emod_lt_of_pos x (b := (n : Int)) (by omega)
  have := Int.emod_nonneg x (b := (n : Int)) (by omega)
  unfold bring
  omega
theorem bring_int (x : Int) (n : Nat) (h1 : 1 ≤ n) : (bring x n : Int) = x % n := by
  have := Int.emod_nonneg x (b := (n : Int)) (by omega)
  unfold bring
  omega
/-- from the remainder that Go takes -/
theorem emod_of_tmod (x : Int) (n : Nat) (h1 : 1 ≤ n) : x % n = if x.tmod n < 0 then x.tmod n + n else x.tmod n := by
  have hl : x.tmod n < n := Int.tmod_lt_of_pos _ (by omega)
  have hg : -(n : Int) < x.tmod n := by
    have := Int.tmod_lt_of_pos (-x) (b := (n : Int)) (by omega)
    rw [Int.neg_tmod] at this
    omega
  have he : x = x.tmod n + n * (x.tdiv n) := (Int.tmod_add_mul_tdiv x n).symm
  have h2 : x % n = (x.tmod n) % n := by
    conv => lhs; rw [he]
    rw [Int.add_mul_emod_self_left]
  rw [h2]
  split
  · rw [← Int.add_emod_right, Int.emod_eq_of_lt (by omega) (by omega)]
  · rw [Int.emod_eq_of_lt (by omega) (by omega)]
theorem tmod_range (x : Int) (n : Nat) (h1 : 1 ≤ n) : x.tmod n < n ∧ -(n : Int) < x.tmod n := by
  refine ⟨Int.tmod_lt_of_pos _ (by omega), ?_⟩
  have := Int.tmod_lt_of_pos (-x) (b := (n : Int)) (by omega)
  rw [Int.neg_tmod] at this
  omega
set_option maxHeartbeats 1000000 in
theorem cBring (x : Int) (n : Nat) (w : World) (h1 : 1 ≤ n) (h2 : n ≤ 1099511627776) :
    Calls Try.prog 55 #[.int .i64 x, .int .i64 n] w fun e w' => e = .returned (.int .i64 (bring x n)) ∧ w' = w := by
  obtain ⟨hl, hg⟩ := tmod_range x n h1
  have HB : Hid ((bring x n : Int) = if x.tmod n < 0 then x.tmod n + n else x.tmod n) := Lib.hid (by rw [bring_int x n h1, emod_of_tmod x n h1])
  by_cases hx : 0 ≤ x
  · have h0 : 0 ≤ x % n := Int.emod_nonneg _ (by omega)
    have h3 : x % n < n := Int.emod_lt_of_pos _ (by omega)
    have HB2 : Hid ((bring x n : Int) = x % n) := Lib.hid (bring_int x n h1)
    clear hl hg HB
    go_enter Try.func55, Try.ntmps55
    go_wp2
    go_ret
    exact ⟨(ret_int HB2.out).symm, rfl⟩
  · by_cases h4 : x.tmod n < 0
    · have HB2 : Hid ((bring x n : Int) = x.tmod n + n) := Lib.hid (by rw [HB.out, if_pos h4])
      clear HB
      go_enter Try.func55, Try.ntmps55
      go_wp2
      go_ret
      exact ⟨(ret_int HB2.out).symm, rfl⟩
    · have HB2 : Hid ((bring x n : Int) = x.tmod n) := Lib.hid (by rw [HB.out, if_neg h4])
      clear HB
      go_enter Try.func55, Try.ntmps55
      go_wp2
      go_ret
      exact ⟨(ret_int HB2.out).symm, rfl⟩

section
variable {w : World} {v : Value}
end

theorem nms_one (l : List Int) : ∀ u ∈ nms l, u.oneCell' = true := by
  intro u hu
  obtain ⟨x, _, rfl⟩ := List.mem_map.1 hu
  rfl
theorem nms_at {l : List Int} {i : Nat} (h : i < l.length) : (nms l)[i]? = some (.int .i64 (pk l i)) := by
  rw [← pk_at l i h]
  simp [h]
theorem nms_append (a b : List Int) : nms (a ++ b) = nms a ++ nms b := by simp
/-- a row of one's own -/
abbrev OwnI (B : Nat) (w : World) (v : Value) (l : List Int) : Prop := w.ownsRow B 3 1 v l.length (nms l)
theorem OwnI.shows {B : Nat} {w : World} {v : Value} {l : List Int} (h : OwnI B w v l) : ShowI w v l := own_i h
theorem OwnI.nil (B : Nat) (w : World) : OwnI B w (.slice none 0 0) [] := World.ownsRow_nil _ _ _ _
theorem OwnI.below {B : Nat} {w w' : World} {v : Value} {l : List Int} (h : OwnI B w v l) (hb : Below w.heap.size w w') : OwnI B w' v l := own_below h hb
theorem OwnI.le {B B' : Nat} {w : World} {v : Value} {l : List Int} (h : OwnI B w v l) (hB : B' ≤ B) : OwnI B' w v l := by
  refine ⟨h.1, ?_⟩
  rcases h.2 with h | ⟨g, cap, cur, e, hb, hr⟩
  · exact .inl h
  · exact .inr ⟨g, cap, cur, e, Nat.le_trans hB hb, hr⟩
theorem run_appendI {w : World} {B : Nat} {v u : Value} {l b : List Int} (hown : OwnI B w v l) (hu : ShowI w u b) (hl : l.length + b.length ≤ 1000) (hB : B ≤ w.heap.size) (ty : TypeId) :
    ∃ ao cap w', (Builtin.append_ #[30, 30] ty #[v, u]).run Try.prog w = .ok (.slice ao (l ++ b).length cap) w' ∧ OwnI B w' (.slice ao (l ++ b).length cap) (l ++ b) ∧ Below B w w' ∧ w.grownBy w' v.ownBlock := by
  obtain ⟨i0, hi, hz0, hz1, hz2⟩ := info_parts infoI
  obtain ⟨ao, cap, rfl, hcap, hat⟩ := hu.form
  cases ao with
  | none =>
    have h0 : b = [] := by
      cases b with
      | nil => rfl
      | cons x l => obtain ⟨b, o, e, _⟩ := hat 0 (by simp); cases e
    subst h0
    obtain ⟨va, vc, rfl, hv1, hv2⟩ := own_shape hown
    rw [List.append_nil]
    refine ⟨va, vc, w, ?_, hown, Below.refl _ _, grown_of_below (B := 0) (Below.refl _ _) (Nat.le_refl _)⟩
    simp [Builtin.append_, run_underlying Try.underlying30, sizeOf, typeInfo, hi, Builtin.lenOf, Builtin.firstCells, hv1]
    cases va <;> simp [storeCells, List.forM_nil]
  | some ad =>
    have hnews : ∀ j v, (nms b)[j]? = some v → w.cell? (ad.add j) = some v := by
      intro j v hj
      have hlt : j < b.length := by
        have := (List.getElem?_eq_some_iff.1 hj).1
        simpa using this
      obtain ⟨b1, o, e, c0⟩ := hat j hlt
      obtain rfl := Option.some.inj e
      rw [plain_add, c0, ← hj, nms_at hlt]
    obtain ⟨v', w', hr, hown', hg, _, _⟩ := run_append_own_at (P := Try.prog) w B 30 ty 3 i0 _ 1 8 Try.underlying30 hi hz0 hz1 hz2 rfl (by decide) v l.length (nms l) hown ad b.length cap (nms b) (by simp) hnews (nms_one b) (by unfold maxLen; omega) (by omega) hB
    have hown2 : OwnI B w' v' (l ++ b) := by
      unfold OwnI
      rw [nms_append, List.length_append]
      exact hown'
    obtain ⟨a', c', rfl, _⟩ := own_shape hown2
    exact ⟨a', c', w', hr, hown2, (Below.refl _ w).grown hg hB (own_ge hown), hg⟩
theorem wpList_appendI {ops : Array Oper} {rest : List Oper} {o : Oper} {a : Act} {Q : Exit → Act → World → Prop} {w : World} (hgd : o.guard = none) (s x : Operand)
    (ho : o.op = .call { callee := .builtin .append, args := #[s, x], argTypes := #[30, 30] })
    (B : Nat) (v u : Value) (l b : List Int) (n : Nat) (hs : a.eval s = v) (hx : a.eval x = u) (hown : OwnI B w v l) (hu : ShowI w u b) (hl : l.length + b.length ≤ 1000) (hB : B ≤ w.heap.size) (hn : (l ++ b).length = n)
    (h : ∀ ao cap w', OwnI B w' (.slice ao n cap) (l ++ b) → Below B w w' → wpList Try.prog ops Q rest (a.put o.dst (.slice ao n cap)) w') :
    wpList Try.prog ops Q (o :: rest) a w := by
  subst hn
  refine wpList_plain hgd fun K hK => ?_
  obtain ⟨ao, cap, w', hr, h1, h2, h3⟩ := run_appendI hown hu hl hB o.type
  unfold Oper.wp execOp
  simp only [ho, resolve, invoke, builtin, Sem.run_bind, Sem.run_pure, Result.andThen_ok, List.map_toArray, List.map_cons, List.map_nil, hs, hx, hr]
  exact hK _ _ (h _ _ _ h1 h2)
theorem wpList_appendI2 {ops : Array Oper} {rest : List Oper} {o : Oper} {a : Act} {Q : Exit → Act → World → Prop} {w : World} (hgd : o.guard = none) (s x : Operand)
    (ho : o.op = .call { callee := .builtin .append, args := #[s, x], argTypes := #[30, 30] })
    (B : Nat) (v u : Value) (l b : List Int) (n : Nat) (hs : a.eval s = v) (hx : a.eval x = u) (hown : OwnI B w v l) (hu : ShowI w u b) (hl : l.length + b.length ≤ 1000) (hB : B ≤ w.heap.size) (hn : (l ++ b).length = n)
    (h : ∀ ao cap w', OwnI B w' (.slice ao n cap) (l ++ b) → Below B w w' → w.grownBy w' v.ownBlock → wpList Try.prog ops Q rest (a.put o.dst (.slice ao n cap)) w') :
    wpList Try.prog ops Q (o :: rest) a w := by
  subst hn
  refine wpList_plain hgd fun K hK => ?_
  obtain ⟨ao, cap, w', hr, h1, h2, h3⟩ := run_appendI hown hu hl hB o.type
  unfold Oper.wp execOp
  simp only [ho, resolve, invoke, builtin, Sem.run_bind, Sem.run_pure, Result.andThen_ok, List.map_toArray, List.map_cons, List.map_nil, hs, hx, hr]
  exact hK _ _ (h _ _ _ h1 h2 h3)
/-- another row stays, when one of one's own is appended to -/
theorem other_stays {w w' : World} {B n k : Nat} {t : TypeId} {v u : Value} {xs : List Value} (h : w.ownsRow B t k v n xs) (hg : w.grownBy w' u.ownBlock) (hu : ∀ j, u.ownBlock = some j → j < B) : w'.ownsRow B t k v n xs := by
  refine h.kept hg ?_
  cases hv : v.ownBlock with
  | none => exact .inl rfl
  | some j =>
    refine .inr (fun e => ?_)
    have h1 := own_ge h j hv
    have h2 := hu j e.symm
    omega
theorem own_lt {w : World} {B n k : Nat} {t : TypeId} {v : Value} {xs : List Value} (h : w.ownsRow B t k v n xs) : ∀ j, v.ownBlock = some j → j < w.heap.size := fun j e => (World.ownsRow.lt h j e).2


theorem cBringN (x m : Int) (n : Nat) (hm : m = n) (h : 1 ≤ n ∧ n ≤ 10000) (w : World) : Calls Try.prog 55 #[.int .i64 x, .int .i64 m] w fun e w' => e = .returned (.int .i64 (bring x n)) ∧ w' = w := by
  subst hm
  exact cBring x n w (by omega) (by omega)
theorem box_kept {S : Nat → Prop} {w w' : World} {K : Nat} {Ts : List TypeId} {x : Array Value} {T : TypeId} (hb : w.heap[K]? = some (.cells x T (0, 0))) (hk : Kept S w w') (hS : ∀ k, S k → Typ w Ts k) (hT : T ∉ Ts) : w'.heap[K]? = some (.cells x T (0, 0)) :=
  (hk.block K (lt_of_block hb) (fun e => (hS K e).ne hb hT rfl)).trans hb
section
variable {S : Nat → Prop} {w w' : World} {T : TypeId} {k g cap n : Nat} {f f' : Nat → Value}
end
section
end

/-- only blocks of these types change -/
def KT (Ts : List TypeId) (w w' : World) : Prop := ∃ S : Nat → Prop, Kept S w w' ∧ ∀ k, S k → Typ w Ts k
section
variable {W w w' : World}
theorem KT.ofBelow {Ts : List TypeId} (h : Below w.heap.size w w') : KT Ts w w' := ⟨fun _ => False, Kept.ofBelow h, fun _ e => e.elim⟩
theorem KT.row {Ts : List TypeId} (h : KT Ts w w') {b n : Nat} {T : TypeId} {f : Nat → Value} (hr : w.rowIs b T n f) (hT : T ∉ Ts) : w'.rowIs b T n f := by
  obtain ⟨S, hk, hS⟩ := h
  exact row_kept2 hr hk hS hT
theorem cEqYes (u v : Value) (l m : List Int) (hlm : l = m) (w : World) (hu : ShowI w u l) (hv : ShowI w v m) :
    Calls Try.prog 28 #[u, v] w fun e w' => e = .returned (.bool true) ∧ Below w.heap.size w w' := by
  refine (cEqInts u v l m w hu hv).mono ?_
  rintro e w' ⟨rfl, hb⟩
  exact ⟨by rw [decide_eq_true hlm], hb⟩
end

theorem run_zero {t : TypeId} {Z : Array Value} {s b : Nat} (h : (Try.prog.info? t).map (fun i => (i.zero, i.size, i.bytes)) = some (some (.agg Z), s, b)) (w : World) : (zeroValue t).run Try.prog w = .ok (.agg Z) w := by
  obtain ⟨i, hi, hz, _, _⟩ := info_parts h
  simp [zeroValue, typeInfo, go_sem, hi, hz]
section
theorem bring_small {z n : Nat} (h : z < n) : bring (z : Int) n = z := by
  unfold bring
  rw [Int.emod_eq_of_lt (by omega) (by omega)]
  omega
end

theorem infoN : (Try.prog.info? 115).map (fun i => (i.zero, i.size, i.bytes)) = some (some (.agg (Array.replicate 16 (.int .i64 0))), 16, 128) := by kernel_rfl
theorem makeN : ∃ Z : Array Value, (∀ w : World, (zeroValue 115).run Try.prog w = .ok (.agg Z) w) ∧ ∀ w : World, (w.alloc (.cells Z 115)).rowIs w.heap.size 115 16 (fun _ => .int .i64 0) :=
  ⟨_, run_zero infoN, fun w => ⟨_, heap_new _ _, by simp, fun i hi => by simp [hi]⟩⟩
section
variable {W w w' : World}
theorem row_typ {b n : Nat} {T : TypeId} {f : Nat → Value} (h : w.rowIs b T n f) : ∀ k, k = b → Typ w [T] k := by
  rintro k rfl
  obtain ⟨c, hb, _⟩ := h
  exact ⟨c, _, _, hb, by simp⟩
end

section
end
/-- where x is in l, from the left; l's length if nowhere -/
theorem not_take_succ {l : List Int} {k : Nat} {x : Int} (hk : k < l.length) (h : x ∉ l.take k) (he : l[k] ≠ x) : x ∉ l.take (k + 1) := by
  rw [List.take_succ_eq_append_getElem hk, List.mem_append]
  rintro (h1 | h1)
  · exact h h1
  · exact he (List.mem_singleton.1 h1).symm
set_option maxHeartbeats 2000000 in
set_option maxRecDepth 100000 in
theorem cIndex (u : Value) (l : List Int) (x : Int) (w : World) (hu : ShowI w u l) :
    Calls Try.prog 94 #[u, .int .i64 x] w fun e w' => (∃ y : Int, e = .returned (.int .i64 y) ∧ (0 ≤ y ↔ x ∈ l)) ∧ w' = w := by
  obtain ⟨ao, cap, rfl, hcap, hat⟩ := hu.form
  clear hu
  go_enter Try.func94, Try.ntmps94
  go_wp2
  go_loopw [8] (fun i wr => ∃ k : Nat, k ≤ l.length ∧ i = .int .i64 k ∧ x ∉ l.take k ∧ wr = w) (fun i _ => l.length - (intOf i).toNat)
  case atStart => exact ⟨0, by omega, rfl, by simp, rfl⟩
  case round =>
    obtain ⟨k, hk, rfl, hnot, rfl⟩ := hrel
    have HN := Lib.hid hnot
    clear hnot
    by_cases hlt : k < l.length
    · obtain ⟨b1, o1, rfl, c1⟩ := hat k hlt
      rw [← pk_at l k hlt] at c1
      have HT : Hid (l[k] = x → x ∈ l) := Lib.hid (fun e => e ▸ List.getElem_mem hlt)
      have HF : Hid (l[k] ≠ x → x ∉ l.take (k + 1)) := Lib.hid (fun e => not_take_succ hlt HN.out e)
      generalize l[k] = y at c1 HT HF
      by_cases hxy : y = x
      · have HT1 := Lib.hid (HT.out hxy)
        have hq : (x == y) = true := by rw [beq_iff_eq]; exact hxy.symm
        clear HT HF HN
        go_wp2
        go_ret
        exact ⟨⟨_, rfl, fun _ => HT1.out, fun _ => by omega⟩, rfl⟩
      · have HF1 := Lib.hid (HF.out hxy)
        have hq : (x == y) = false := by rw [beq_eq_false_iff_ne]; exact fun e => hxy e.symm
        clear HT HF HN
        go_wp2
        go_roundw
        case rel => exact ⟨k + 1, by omega, by go_num, HF1.out, trivial⟩
        case measure => simp [intOf]; omega
    · obtain rfl : k = l.length := by omega
      go_wp2
      go_ret
      exact ⟨⟨_, rfl, fun e => by omega, fun e => absurd (by rw [List.take_length]; exact e) HN.out⟩, rfl⟩
set_option maxHeartbeats 1000000 in
theorem cContains (u : Value) (l : List Int) (x : Int) (q : Bool) (hq : decide (x ∈ l) = q) (w : World) (hu : ShowI w u l) :
    Calls Try.prog 84 #[u, .int .i64 x] w fun e w' => e = .returned (.bool q) ∧ w' = w := by
  have HQ := Lib.hid hq
  clear hq
  go_enter Try.func84, Try.ntmps84
  go_wp2_with fail
  refine (cIndex u l x w hu).mono ?_
  rintro e w1 ⟨⟨y, rfl, hy⟩, rfl⟩
  have HY := Lib.hid hy
  clear hy
  go_wp2
  go_ret
  exact ⟨ret_bool (by rw [← HQ.out]; exact decide_eq_decide.2 HY.out), rfl⟩
section
end
theorem run_copyI {w : World} {u : Value} {l : List Int} (hu : ShowI w u l) (hl : l.length ≤ 17592186044416) (ty : TypeId) :
    ∃ ao cap w', (Builtin.append_ #[30, 30] ty #[.slice none 0 0, u]).run Try.prog w = .ok (.slice ao l.length cap) w' ∧ w'.ownsRow w.heap.size 3 1 (.slice ao l.length cap) l.length (nms l) ∧ Below w.heap.size w w' := by
  obtain ⟨i0, hi, hz0, hz1, hz2⟩ := info_parts infoI
  obtain ⟨ao, cap, rfl, hcap, hat⟩ := hu.form
  cases ao with
  | none =>
    have h0 : l = [] := by
      cases l with
      | nil => rfl
      | cons x l => obtain ⟨b, o, e, _⟩ := hat 0 (by simp); cases e
    subst h0
    refine ⟨none, 0, w, ?_, World.ownsRow_nil _ _ _ _, Below.refl _ _⟩
    simp [Builtin.append_, run_underlying Try.underlying30, sizeOf, typeInfo, hi, Builtin.lenOf, Builtin.firstCells]
  | some ad =>
    have hnews : ∀ j v, (nms l)[j]? = some v → w.cell? (ad.add j) = some v := by
      intro j v hj
      have hlt : j < l.length := by
        have := (List.getElem?_eq_some_iff.1 hj).1
        simpa using this
      obtain ⟨b, o, e, c0⟩ := hat j hlt
      obtain rfl := Option.some.inj e
      rw [plain_add, c0, ← hj, nms_at hlt]
    obtain ⟨v', w', hr, hown, hg, _, _⟩ := run_append_own_at (P := Try.prog) w w.heap.size 30 ty 3 i0 _ 1 8 Try.underlying30 hi hz0 hz1 hz2 rfl (by decide) (.slice none 0 0) 0 [] (World.ownsRow_nil _ _ _ _) ad l.length cap (nms l) (by simp) hnews (nms_one l) (by unfold maxLen; omega) (by omega) (Nat.le_refl _)
    have hown' : w'.ownsRow w.heap.size 3 1 v' l.length (nms l) := by simpa using hown
    obtain ⟨a', c', rfl, _⟩ := own_shape hown'
    exact ⟨a', c', w', hr, hown', (Below.refl _ w).grown hg (Nat.le_refl _) (fun k hk => by simp [Value.ownBlock] at hk)⟩
theorem wpList_copyI {ops : Array Oper} {rest : List Oper} {o : Oper} {a : Act} {Q : Exit → Act → World → Prop} {w : World} (hgd : o.guard = none) (s x : Operand)
    (ho : o.op = .call { callee := .builtin .append, args := #[s, x], argTypes := #[30, 30] })
    (hs : a.eval s = .slice none 0 0) (u : Value) (l : List Int) (hu : ShowI w u l) (hx : a.eval x = u) (hl : l.length ≤ 17592186044416)
    (h : ∀ ao cap w', w'.ownsRow w.heap.size 3 1 (.slice ao l.length cap) l.length (nms l) → Below w.heap.size w w' → wpList Try.prog ops Q rest (a.put o.dst (.slice ao l.length cap)) w') :
    wpList Try.prog ops Q (o :: rest) a w := by
  refine wpList_plain hgd fun K hK => ?_
  obtain ⟨ao, cap, w', hr, h1, h2⟩ := run_copyI hu hl o.type
  unfold Oper.wp execOp
  simp only [ho, resolve, invoke, builtin, Sem.run_bind, Sem.run_pure, Result.andThen_ok, List.map_toArray, List.map_cons, List.map_nil, hs, hx, hr]
  exact hK _ _ (h _ _ _ h1 h2)
end Go.Proofs.Ytnnfmlbgoplnaaa
