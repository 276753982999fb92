/-
  What a list shows in a world; small laws on worlds; what stays when only some blocks change; Bring; rows of one's own.
-/
import Derived.Test.YtpaanlamjncajaaRows
import Derived.WalkKit
import Derived.ProofKit
import Derived.OpenShut
import Derived.Below
import Derived.Outline
import Derived.Lib.Hide
import Derived.Laws.Rows
import Derived.WalkLawsBesides
import Derived.OwnWalk
import Derived.Laws.OwnMore
import Derived.Laws.AppendOwn
import Derived.Deep.QuietTactic
import Derived.BigQuiet
import Derived.WalkSmall
import Derived.BigCall
import Derived.Deep.RegionHeld3
import Derived.Deep.Slices
import Derived.Deep.OwnRows
import Derived.Deep.RegionHeldLaw
import Derived.Deep.RegionLaw
import Derived.Deep.AppendLies
import Derived.Maps.AppendAt
import Derived.Lib.SliceRun
import Derived.Laws.MakeOwn
import Derived.Laws.StructEq
import Derived.Deep.MidRow
set_option linter.unusedVariables false
set_option linter.unusedSimpArgs false
namespace Go.Proofs.Ytpaanlamjncajaa
open Go Go.RowKit

theorem size_alloc (w : World) (o : Obj) : (w.alloc o).heap.size = w.heap.size + 1 := Array.size_push _
theorem heap_new (w : World) (o : Obj) : (w.alloc o).heap[w.heap.size]? = some o := Array.getElem?_push_size
theorem below_one {w wr : World} (hb : Below w.heap.size w wr) (o : Obj) : Below w.heap.size w (wr.alloc o) := hb.alloc hb.size o
theorem below_then {w wr w' : World} (hb : Below w.heap.size w wr) (h : Below wr.heap.size wr w') : Below w.heap.size w w' := hb.trans (h.mono hb.size)
theorem below_drewN {B : Nat} {a w : World} (h : Below B a w) (n : Nat) : Below B a (w.drewN n) := ⟨h.os, h.tape, h.output, h.size, h.block⟩
theorem cell_keep {w w' : World} {p : Addr} {u : Value} (hb : Below w.heap.size w w') (h : w.cell? p = some u) : w'.cell? p = some u := (hb.cell (World.block_lt_of_cell? w _ h)).trans h
theorem ret_int {a b : Int} (h : a = b) : Ending.returned (.int .i64 a) = .returned (.int .i64 b) := by rw [h]
theorem ret_bool {a b : Bool} (h : a = b) : Ending.returned (.bool a) = .returned (.bool b) := by rw [h]
/-- A slice of n elements of k cells each shows these cells. -/
def Shows (w : World) (v : Value) (n k : Nat) (xs : List Value) : Prop :=
  xs.length = n * k ∧ ∃ ao cap, v = .slice ao n cap ∧ (n ≤ cap ∧ cap ≤ maxLen) ∧ (0 < n → ∃ b o, ao = some ⟨b, o, none⟩ ∧ ∀ j, j < n * k → w.cell? ⟨b, o + j, none⟩ = xs[j]?)
theorem Shows.nil (w : World) (k : Nat) : Shows w (.slice none 0 0) 0 k [] := ⟨by simp, none, 0, rfl, ⟨Nat.le_refl _, Nat.zero_le _⟩, fun h => absurd h (Nat.lt_irrefl _)⟩
theorem Shows.keeps {w w' : World} {v : Value} {n k : Nat} {xs : List Value} (h : Shows w v n k xs) (hk : ∀ p u, w.cell? p = some u → w'.cell? p = some u) : Shows w' v n k xs := by
  obtain ⟨hl, ao, cap, hv, hc, hs⟩ := h
  refine ⟨hl, ao, cap, hv, hc, fun hn => ?_⟩
  obtain ⟨b, o, ha, hx⟩ := hs hn
  refine ⟨b, o, ha, fun j hj => ?_⟩
  have h1 := hx j hj
  have h2 : xs[j]? = some (xs[j]'(by omega)) := List.getElem?_eq_getElem (by omega)
  rw [h2] at h1
  rw [h2, hk _ _ h1]
theorem Shows.below {w w' : World} {v : Value} {n k : Nat} {xs : List Value} (h : Shows w v n k xs) (hb : Below w.heap.size w w') : Shows w' v n k xs :=
  h.keeps fun p u hp => by rw [hb.cell (World.block_lt_of_cell? w p hp), hp]
theorem Shows.ofOwns {w : World} {B n k : Nat} {e : TypeId} {v : Value} {xs : List Value} (h : w.ownsRow B e k v n xs) : Shows w v n k xs := by
  refine ⟨h.1, ?_⟩
  rcases h.2 with ⟨rfl, rfl⟩ | ⟨g, cap, cur, rfl, hb, hg, hc, hm, _⟩
  · exact ⟨none, 0, rfl, ⟨Nat.le_refl _, Nat.zero_le _⟩, fun h => absurd h (Nat.lt_irrefl _)⟩
  · refine ⟨_, cap, rfl, ⟨hc, hm⟩, fun hn => ⟨g, 0, rfl, fun j hj => ?_⟩⟩
    rw [Nat.zero_add]
    exact h.cellAt j hj
theorem info_parts {P : Program} {t : TypeId} {z : Value} {s b : Nat} (h : (P.info? t).map (fun i => (i.zero, i.size, i.bytes)) = some (some z, s, b)) : ∃ i, P.info? t = some i ∧ i.zero = some z ∧ i.size = s ∧ i.bytes = b := by
  cases hi : P.info? t with
  | none => rw [hi] at h; simp at h
  | some i =>
    rw [hi] at h
    simp at h
    exact ⟨i, rfl, h.1, h.2.1, h.2.2⟩
theorem lt_of_block {w : World} {K : Nat} {o : Obj} (h : w.heap[K]? = some o) : K < w.heap.size := (Array.getElem?_eq_some_iff.1 h).1
theorem self_free {w : World} {K : Nat} {cs : Array Value} {t : TypeId} (h : w.heap[K]? = some (.cells cs t (0, 0))) (j : Nat) : w.frozen? ⟨K, j, none⟩ = false := by
  unfold World.frozen?
  dsimp only
  rw [h]
  simp
theorem self_cell {w : World} {K : Nat} {cs : Array Value} {t : TypeId} {fr : Nat × Nat} (h : w.heap[K]? = some (.cells cs t fr)) (j : Nat) (u : Value) (hu : cs[j]? = some u) : w.cell? ⟨K, j, none⟩ = some u := by
  unfold World.cell?
  dsimp only
  rw [h]
  exact hu
theorem heap_low2 (w : World) (o o' : Obj) : ((w.alloc o).alloc o').heap[w.heap.size]? = some o := by
  rw [Below.heap_alloc _ _ _ (by rw [size_alloc]; omega)]
  exact heap_new w o
theorem heap_new2 (w : World) (o o' : Obj) : ((w.alloc o).alloc o').heap[w.heap.size + 1]? = some o' := by rw [← size_alloc w o]; exact heap_new _ _
theorem cells_set {w : World} {K : Nat} {cs : Array Value} {t : TypeId} (h : w.heap[K]? = some (.cells cs t (0, 0))) (j : Nat) (u : Value) : (w.setCell ⟨K, j, none⟩ u).heap[K]? = some (.cells (cs.setIfInBounds j u) t (0, 0)) := by
  have hlt := lt_of_block h
  have h' : w.heap[K] = .cells cs t (0, 0) := by simpa [Array.getElem?_eq_getElem hlt] using h
  show (w.heap.modify K _)[K]? = _
  rw [Array.getElem?_eq_getElem (by simpa using hlt), Array.getElem_modify_self, h']
  rfl
theorem take_eq_succ {α : Type} (a b : List α) (k : Nat) (ha : k < a.length) (hb : k < b.length) (h : a.take k = b.take k) (he : a[k] = b[k]) : a.take (k + 1) = b.take (k + 1) := by
  rw [List.take_succ_eq_append_getElem ha, List.take_succ_eq_append_getElem hb, h, he]
theorem ne_of_at {α : Type} (a b : List α) (k : Nat) (ha : k < a.length) (hb : k < b.length) (he : a[k] ≠ b[k]) : a ≠ b := by
  rintro rfl
  exact he rfl
theorem own_ge {w : World} {B n : Nat} {t : TypeId} {k : Nat} {v : Value} {xs : List Value} (h : w.ownsRow B t k v n xs) : ∀ j, v.ownBlock = some j → B ≤ j := by
  intro j ej
  rcases h.2 with ⟨rfl, _⟩ | ⟨g, cap, cur, rfl, hb, _, _⟩
  · simp [Value.ownBlock] at ej
  · obtain rfl : g = j := by simpa [Value.ownBlock] using ej
    exact hb
theorem grown_of_below {B : Nat} {w w' : World} {row : Option Nat} (h : Below w.heap.size w w') (hB : B ≤ B) : w.grownBy w' row := ⟨h.os, h.tape, h.output, h.size, fun k hk _ => h.block k hk⟩
theorem plain_add (b o j : Nat) : (⟨b, o, none⟩ : Addr).add j = ⟨b, o + j, none⟩ := by
  by_cases h0 : j = 0
  · subst h0; rfl
  · simp [Addr.add, h0]
theorem own_below {W W' : World} {B n size : Nat} {e : TypeId} {v : Value} {xs : List Value} (h : W.ownsRow B e size v n xs) (hb : Below W.heap.size W W') : W'.ownsRow B e size v n xs := by
  refine h.kept (grown_of_below (B := 0) (row := none) hb (Nat.le_refl _)) ?_
  cases hv : v.ownBlock with
  | none => exact .inl rfl
  | some k => exact .inr (by simp)
theorem own_ne {w : World} {Bs j n k : Nat} {T T' : TypeId} {v : Value} {xs : List Value} {c : Array Value} {fr : Nat × Nat} (h : w.ownsRow Bs T k v n xs) (hb : w.heap[j]? = some (.cells c T' fr)) (hT : T ≠ T') : v.ownBlock ≠ some j := by
  rcases h.2 with ⟨rfl, _⟩ | ⟨g, cap, cur, rfl, _, hg, _⟩
  · simp [Value.ownBlock]
  · intro e
    obtain rfl : g = j := by simpa [Value.ownBlock] using e
    rw [hg] at hb
    cases hb
    exact hT rfl
theorem own_shape {w : World} {B n k : Nat} {t : TypeId} {v : Value} {xs : List Value} (h : w.ownsRow B t k v n xs) : ∃ a c, v = .slice a n c ∧ n ≤ c ∧ c ≤ 9223372036854775807 := by
  rcases h.2 with ⟨rfl, rfl⟩ | ⟨g, cap, cur, rfl, hb, hg, hc, hm, _⟩
  · exact ⟨none, 0, rfl, Nat.le_refl _, by omega⟩
  · exact ⟨_, cap, rfl, hc, by unfold maxLen at hm; omega⟩
theorem size_drewN (w : World) (n : Nat) : (w.drewN n).heap.size = w.heap.size := rfl
/-- Only these blocks change. -/
structure Kept (S : Nat → Prop) (w w' : World) : Prop where
  os : w'.os = w.os
  tape : w'.tape = w.tape
  output : w'.output = w.output
  size : w.heap.size ≤ w'.heap.size
  block : ∀ k, k < w.heap.size → ¬ S k → w'.heap[k]? = w.heap[k]?
section
variable {S T : Nat → Prop} {w w' w'' : World}
theorem Kept.refl (S : Nat → Prop) (w : World) : Kept S w w := ⟨rfl, rfl, rfl, Nat.le_refl _, fun _ _ _ => rfl⟩
theorem Kept.trans (h : Kept S w w') (k : Kept S w' w'') : Kept S w w'' :=
  ⟨k.os.trans h.os, k.tape.trans h.tape, k.output.trans h.output, Nat.le_trans h.size k.size, fun i hi hn => (k.block i (Nat.lt_of_lt_of_le hi h.size) hn).trans (h.block i hi hn)⟩
theorem Kept.drew (h : Kept S w w') : Kept S w w'.drew := ⟨h.os, h.tape, h.output, h.size, h.block⟩
theorem Kept.drewN (h : Kept S w w') (n : Nat) : Kept S w (w'.drewN n) := ⟨h.os, h.tape, h.output, h.size, h.block⟩
theorem Kept.alloc (h : Kept S w w') (o : Obj) : Kept S w (w'.alloc o) :=
  ⟨h.os, h.tape, h.output, Nat.le_trans h.size (by rw [size_alloc]; omega), fun i hi hn => (Below.heap_alloc _ _ _ (Nat.lt_of_lt_of_le hi h.size)).trans (h.block i hi hn)⟩
theorem Kept.setCell (h : Kept S w w') {p : Addr} (hp : S p.block) (u : Value) : Kept S w (w'.setCell p u) := by
  have hb := (Below.refl 0 w').setCell (p := p) (Nat.zero_le _) u
  exact ⟨hb.os.trans h.os, hb.tape.trans h.tape, hb.output.trans h.output, Nat.le_trans h.size hb.size, fun i hi hn => (Below.heap_setCell w' _ u i (fun e => hn (e ▸ hp))).trans (h.block i hi hn)⟩
theorem Kept.mono (h : Kept S w w') (hS : ∀ k, S k → T k) : Kept T w w' := ⟨h.os, h.tape, h.output, h.size, fun i hi hn => h.block i hi (fun hs => hn (hS i hs))⟩
theorem Kept.ofBelow (h : Below w.heap.size w w') : Kept S w w' := ⟨h.os, h.tape, h.output, h.size, fun i hi _ => h.block i hi⟩
theorem Kept.below {B : Nat} (h : Kept S w w') (hB : B ≤ w.heap.size) (hS : ∀ k, S k → B ≤ k) : Below B w w' :=
  ⟨h.os, h.tape, h.output, h.size, fun i hi => h.block i (Nat.lt_of_lt_of_le hi hB) (fun hs => by have := hS i hs; omega)⟩
/-- what was new and changed since is still new -/
theorem below_kept {W w w' : World} (hb : Below W.heap.size W w) (h : Kept S w w') (hS : ∀ k, S k → W.heap.size ≤ k) : Below W.heap.size W w' := hb.trans (h.below hb.size hS)
theorem row_kept {b : Nat} {t : TypeId} {n : Nat} {f : Nat → Value} (h : w.rowIs b t n f) (hk : Kept S w w') (hn : ¬ S b) : w'.rowIs b t n f := h.of_block (hk.block b h.lt hn)
theorem cell_kept {p : Addr} {u : Value} (h : w.cell? p = some u) (hk : Kept S w w') (hn : ¬ S p.block) : w'.cell? p = some u := (World.cell?_of_block (w := w) (hk.block _ (World.block_lt_of_cell? w _ h) hn)).trans h
end


theorem keep_block {W W' : World} {K : Nat} {o : Obj} (h : W.heap[K]? = some o) (hb : Below W.heap.size W W') : W'.heap[K]? = some o := (hb.block _ (lt_of_block h)).trans h
abbrev nms (l : List Int) : List Value := l.map (Value.int .i64)
def ShowI (w : World) (v : Value) (l : List Int) : Prop := Shows w v l.length 1 (nms l)
def pk (l : List Int) (i : Nat) : Int := l.getD i 0
theorem pk_at (l : List Int) (i : Nat) (h : i < l.length) : l[i] = pk l i := by simp [pk, h]
theorem ShowI.form {w : World} {v : Value} {l : List Int} (h : ShowI w v l) : ∃ ao cap, v = .slice ao l.length cap ∧ (l.length ≤ cap ∧ cap ≤ 9223372036854775807) ∧ ∀ i, i < l.length → ∃ b o, ao = some ⟨b, o, none⟩ ∧ w.cell? ⟨b, o + i, none⟩ = some (.int .i64 (pk l i)) := by
  obtain ⟨hl, ao, cap, hv, hc, hs⟩ := h
  refine ⟨ao, cap, hv, by unfold maxLen at hc; omega, fun i hi => ?_⟩
  obtain ⟨b, o, ha, hx⟩ := hs (by omega)
  refine ⟨b, o, ha, ?_⟩
  have := hx i (by omega)
  rw [← pk_at l i hi]
  simpa [hi] using this
theorem ShowI.below {w w' : World} {v : Value} {l : List Int} (h : ShowI w v l) (hb : Below w.heap.size w w') : ShowI w' v l := Shows.below h hb
theorem ShowI.nil (w : World) : ShowI w (.slice none 0 0) [] := Shows.nil w 1
/-- a block whose cells are listed -/
theorem lit_shows (w : World) (t : TypeId) (xs : List Value) (n : Nat) (hn : xs.length = n) (hm : n ≤ 10000) : Shows (w.alloc (.cells xs.toArray t)) (.slice (some ⟨w.heap.size, 0, none⟩) n n) n 1 xs := by
  refine ⟨by omega, _, n, rfl, by unfold maxLen; omega, fun _ => ⟨_, 0, rfl, fun j hj => ?_⟩⟩
  have hb : (w.alloc (.cells xs.toArray t)).heap[w.heap.size]? = some (.cells xs.toArray t) := heap_new _ _
  unfold World.cell?
  dsimp only
  rw [hb]
  simp
theorem lit_i (w : World) (t : TypeId) (l : List Int) (n : Nat) (hn : l.length = n) (hm : n ≤ 10000) : ShowI (w.alloc (.cells (nms l).toArray t)) (.slice (some ⟨w.heap.size, 0, none⟩) n n) l := by
  unfold ShowI
  rw [hn]
  exact lit_shows w t (nms l) n (by simp [hn]) hm
theorem own_i {w : World} {B n : Nat} {t : TypeId} {v : Value} {l : List Int} (h : w.ownsRow B t 1 v n (nms l)) : ShowI w v l := by
  have h1 := Shows.ofOwns h
  have hl : l.length = n := by have := h.1; simpa using this
  unfold ShowI
  rw [hl]
  exact h1
theorem infoI : (Try.prog.info? 3).map (fun i => (i.zero, i.size, i.bytes)) = some (some (.int .i64 0), 1, 8) := by kernel_rfl
/-- blocks of these types -/
def Typ (w : World) (Ts : List TypeId) (k : Nat) : Prop := ∃ c T fr, w.heap[k]? = some (.cells c T fr) ∧ T ∈ Ts
theorem Typ.ne {w : World} {Ts : List TypeId} {k j : Nat} {c : Array Value} {T : TypeId} {fr : Nat × Nat} (h : Typ w Ts k) (hb : w.heap[j]? = some (.cells c T fr)) (hT : T ∉ Ts) : k ≠ j := by
  rintro rfl
  obtain ⟨c', T', fr', h1, h2⟩ := h
  rw [hb] at h1
  cases h1
  exact hT h2
theorem Typ.lt {w : World} {Ts : List TypeId} {k : Nat} (h : Typ w Ts k) : k < w.heap.size := by
  obtain ⟨c', T', fr', h1, h2⟩ := h
  exact lt_of_block h1
theorem row_kept2 {S : Nat → Prop} {w w' : World} {Ts : List TypeId} {b n : Nat} {T : TypeId} {f : Nat → Value} (h : w.rowIs b T n f) (hk : Kept S w w') (hS : ∀ k, S k → Typ w Ts k) (hT : T ∉ Ts) : w'.rowIs b T n f :=
  row_kept h hk (fun e => by obtain ⟨c, hb, _⟩ := h; exact (hS b e).ne hb hT rfl)
theorem own_kept2 {S : Nat → Prop} {w w' : World} {Ts : List TypeId} {B n k : Nat} {T : TypeId} {v : Value} {xs : List Value} (h : w.ownsRow B T k v n xs) (hk : Kept S w w') (hS : ∀ k, S k → Typ w Ts k) (hT : T ∉ Ts) : w'.ownsRow B T k v n xs := by
  refine ⟨h.1, ?_⟩
  rcases h.2 with e | ⟨r, c, cur, rfl, hb, hg, h1⟩
  · exact .inl e
  · exact .inr ⟨r, c, cur, rfl, hb, (hk.block r (lt_of_block hg) (fun e => (hS r e).ne hg hT rfl)).trans hg, h1⟩
section
end

section
variable {S T : Nat → Prop} {w w' w'' : World}
end


def bring (x : Int) (n : Nat) : Nat := (x % n).toNat
theorem bring_lt (x : Int) (n : Nat) (h1 : 1 ≤ n) : bring x n < n := by
  have := Int.emod_lt_of_pos x (b := (n : Int)) (by omega)
  have := Int.emod_nonneg x (b := (n : Int)) (by omega)
  unfold bring
  omega
theorem bring_int (x : Int) (n : Nat) (h1 : 1 ≤ n) : (bring x n : Int) = x % n := by
  have := Int.emod_nonneg x (b := (n : Int)) (by omega)
  unfold bring
  omega
/-- from the remainder that Go takes -/
theorem emod_of_tmod (x : Int) (n : Nat) (h1 : 1 ≤ n) : x % n = if x.tmod n < 0 then x.tmod n + n else x.tmod n := by
  have hl : x.tmod n < n := Int.tmod_lt_of_pos _ (by omega)
  have hg : -(n : Int) < x.tmod n := by
    have := Int.tmod_lt_of_pos (-x) (b := (n : Int)) (by omega)
    rw [Int.neg_tmod] at this
    omega
  have he : x = x.tmod n + n * (x.tdiv n) := (Int.tmod_add_mul_tdiv x n).symm
  have h2 : x % n = (x.tmod n) % n := by
    conv => lhs; rw [he]
    rw [Int.add_mul_emod_self_left]
  rw [h2]
  split
  · rw [← Int.add_emod_right, Int.emod_eq_of_lt (by omega) (by omega)]
  · rw [Int.emod_eq_of_lt (by omega) (by omega)]
theorem tmod_range (x : Int) (n : Nat) (h1 : 1 ≤ n) : x.tmod n < n ∧ -(n : Int) < x.tmod n := by
  refine ⟨Int.tmod_lt_of_pos _ (by omega), ?_⟩
  have := Int.tmod_lt_of_pos (-x) (b := (n : Int)) (by omega)
  rw [Int.neg_tmod] at this
  omega
set_option maxHeartbeats 1000000 in
theorem cBring (x : Int) (n : Nat) (w : World) (h1 : 1 ≤ n) (h2 : n ≤ 1099511627776) :
    Calls Try.prog 25 #[.int .i64 x, .int .i64 n] w fun e w' => e = .returned (.int .i64 (bring x n)) ∧ w' = w := by
  obtain ⟨hl, hg⟩ := tmod_range x n h1
  have HB : Hid ((bring x n : Int) = if x.tmod n < 0 then x.tmod n + n else x.tmod n) := Lib.hid (by rw [bring_int x n h1, emod_of_tmod x n h1])
  by_cases hx : 0 ≤ x
  · have h0 : 0 ≤ x % n := Int.emod_nonneg _ (by omega)
    have h3 : x % n < n := Int.emod_lt_of_pos _ (by omega)
    have HB2 : Hid ((bring x n : Int) = x % n) := Lib.hid (bring_int x n h1)
    clear hl hg HB
    go_enter Try.func25, Try.ntmps25
    go_wp2
    go_ret
    exact ⟨(ret_int HB2.out).symm, rfl⟩
  · by_cases h4 : x.tmod n < 0
    · have HB2 : Hid ((bring x n : Int) = x.tmod n + n) := Lib.hid (by rw [HB.out, if_pos h4])
      clear HB
      go_enter Try.func25, Try.ntmps25
      go_wp2
      go_ret
      exact ⟨(ret_int HB2.out).symm, rfl⟩
    · have HB2 : Hid ((bring x n : Int) = x.tmod n) := Lib.hid (by rw [HB.out, if_neg h4])
      clear HB
      go_enter Try.func25, Try.ntmps25
      go_wp2
      go_ret
      exact ⟨(ret_int HB2.out).symm, rfl⟩

section
variable {w : World} {v : Value}
end

theorem nms_one (l : List Int) : ∀ u ∈ nms l, u.oneCell' = true := by
  intro u hu
  obtain ⟨x, _, rfl⟩ := List.mem_map.1 hu
  rfl
theorem nms_at {l : List Int} {i : Nat} (h : i < l.length) : (nms l)[i]? = some (.int .i64 (pk l i)) := by
  rw [← pk_at l i h]
  simp [h]
theorem nms_append (a b : List Int) : nms (a ++ b) = nms a ++ nms b := by simp
/-- another row stays, when one of one's own is appended to -/
theorem other_stays {w w' : World} {B n k : Nat} {t : TypeId} {v u : Value} {xs : List Value} (h : w.ownsRow B t k v n xs) (hg : w.grownBy w' u.ownBlock) (hu : ∀ j, u.ownBlock = some j → j < B) : w'.ownsRow B t k v n xs := by
  refine h.kept hg ?_
  cases hv : v.ownBlock with
  | none => exact .inl rfl
  | some j =>
    refine .inr (fun e => ?_)
    have h1 := own_ge h j hv
    have h2 := hu j e.symm
    omega
theorem own_lt {w : World} {B n k : Nat} {t : TypeId} {v : Value} {xs : List Value} (h : w.ownsRow B t k v n xs) : ∀ j, v.ownBlock = some j → j < w.heap.size := fun j e => (World.ownsRow.lt h j e).2


theorem cBringN (x m : Int) (n : Nat) (hm : m = n) (h : 1 ≤ n ∧ n ≤ 10000) (w : World) : Calls Try.prog 25 #[.int .i64 x, .int .i64 m] w fun e w' => e = .returned (.int .i64 (bring x n)) ∧ w' = w := by
  subst hm
  exact cBring x n w (by omega) (by omega)
theorem box_kept {S : Nat → Prop} {w w' : World} {K : Nat} {Ts : List TypeId} {x : Array Value} {T : TypeId} (hb : w.heap[K]? = some (.cells x T (0, 0))) (hk : Kept S w w') (hS : ∀ k, S k → Typ w Ts k) (hT : T ∉ Ts) : w'.heap[K]? = some (.cells x T (0, 0)) :=
  (hk.block K (lt_of_block hb) (fun e => (hS K e).ne hb hT rfl)).trans hb
section
variable {S : Nat → Prop} {w w' : World} {T : TypeId} {k g cap n : Nat} {f f' : Nat → Value}
end
section
end

/-- only blocks of these types change -/
def KT (Ts : List TypeId) (w w' : World) : Prop := ∃ S : Nat → Prop, Kept S w w' ∧ ∀ k, S k → Typ w Ts k
section
variable {W w w' : World}
theorem KT.ofBelow {Ts : List TypeId} (h : Below w.heap.size w w') : KT Ts w w' := ⟨fun _ => False, Kept.ofBelow h, fun _ e => e.elim⟩
theorem KT.row {Ts : List TypeId} (h : KT Ts w w') {b n : Nat} {T : TypeId} {f : Nat → Value} (hr : w.rowIs b T n f) (hT : T ∉ Ts) : w'.rowIs b T n f := by
  obtain ⟨S, hk, hS⟩ := h
  exact row_kept2 hr hk hS hT
end

theorem run_zero {t : TypeId} {Z : Array Value} {s b : Nat} (h : (Try.prog.info? t).map (fun i => (i.zero, i.size, i.bytes)) = some (some (.agg Z), s, b)) (w : World) : (zeroValue t).run Try.prog w = .ok (.agg Z) w := by
  obtain ⟨i, hi, hz, _, _⟩ := info_parts h
  simp [zeroValue, typeInfo, go_sem, hi, hz]
section
theorem bring_small {z n : Nat} (h : z < n) : bring (z : Int) n = z := by
  unfold bring
  rw [Int.emod_eq_of_lt (by omega) (by omega)]
  omega
end

section
variable {W w w' : World}
theorem row_typ {b n : Nat} {T : TypeId} {f : Nat → Value} (h : w.rowIs b T n f) : ∀ k, k = b → Typ w [T] k := by
  rintro k rfl
  obtain ⟨c, hb, _⟩ := h
  exact ⟨c, _, _, hb, by simp⟩
end

section
end
section
end
end Go.Proofs.Ytpaanlamjncajaa
