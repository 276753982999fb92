/-
  What a list of bools, of numbers shows in a world; small laws on worlds.
-/
import Derived.Test.YtkbehjkfeoffmaaRows
import Derived.WalkKit
import Derived.ProofKit
import Derived.OpenShut
import Derived.Below
import Derived.Outline
import Derived.Lib.Hide
import Derived.Laws.Rows
import Derived.WalkLawsBesides
import Derived.OwnWalk
import Derived.Laws.OwnMore
import Derived.Laws.AppendOwn
import Derived.Deep.QuietTactic
import Derived.BigQuiet
import Derived.WalkSmall
import Derived.BigCall
import Derived.Deep.RegionHeld3
import Derived.Deep.Slices
import Derived.Deep.OwnRows
import Derived.Deep.RegionHeldLaw
import Derived.Deep.AppendLies
import Derived.Maps.AppendAt
import Derived.Lib.SliceRun
set_option linter.unusedVariables false
set_option linter.unusedSimpArgs false
namespace Go.Proofs.Ytkbehjkfeoffmaa
open Go Go.RowKit

theorem size_alloc (w : World) (o : Obj) : (w.alloc o).heap.size = w.heap.size + 1 := Array.size_push _
theorem heap_new (w : World) (o : Obj) : (w.alloc o).heap[w.heap.size]? = some o := Array.getElem?_push_size
theorem below_one {w wr : World} (hb : Below w.heap.size w wr) (o : Obj) : Below w.heap.size w (wr.alloc o) := hb.alloc hb.size o
theorem below_then {w wr w' : World} (hb : Below w.heap.size w wr) (h : Below wr.heap.size wr w') : Below w.heap.size w w' := hb.trans (h.mono hb.size)
theorem below_drewN {B : Nat} {a w : World} (h : Below B a w) (n : Nat) : Below B a (w.drewN n) := ⟨h.os, h.tape, h.output, h.size, h.block⟩
theorem cell_keep {w w' : World} {p : Addr} {u : Value} (hb : Below w.heap.size w w') (h : w.cell? p = some u) : w'.cell? p = some u := (hb.cell (World.block_lt_of_cell? w _ h)).trans h
theorem ret_int {a b : Int} (h : a = b) : Ending.returned (.int .i64 a) = .returned (.int .i64 b) := by rw [h]
theorem ret_bool {a b : Bool} (h : a = b) : Ending.returned (.bool a) = .returned (.bool b) := by rw [h]
/-- What Pick and Next answer. -/
def pairOf : Option Nat → Value
  | none => .tuple #[.int .i64 0, .bool false]
  | some c => .tuple #[.int .i64 c, .bool true]
theorem ret_pair {a b : Option Nat} (h : a = b) : Ending.returned (pairOf a) = .returned (pairOf b) := by rw [h]

/-- A slice of n elements of k cells each shows these cells. -/
def Shows (w : World) (v : Value) (n k : Nat) (xs : List Value) : Prop :=
  xs.length = n * k ∧ ∃ ao cap, v = .slice ao n cap ∧ (n ≤ cap ∧ cap ≤ maxLen) ∧ (0 < n → ∃ b o, ao = some ⟨b, o, none⟩ ∧ ∀ j, j < n * k → w.cell? ⟨b, o + j, none⟩ = xs[j]?)
theorem Shows.nil (w : World) (k : Nat) : Shows w (.slice none 0 0) 0 k [] := ⟨by simp, none, 0, rfl, ⟨Nat.le_refl _, Nat.zero_le _⟩, fun h => absurd h (Nat.lt_irrefl _)⟩
theorem Shows.keeps {w w' : World} {v : Value} {n k : Nat} {xs : List Value} (h : Shows w v n k xs) (hk : ∀ p u, w.cell? p = some u → w'.cell? p = some u) : Shows w' v n k xs := by
  obtain ⟨hl, ao, cap, hv, hc, hs⟩ := h
  refine ⟨hl, ao, cap, hv, hc, fun hn => ?_⟩
  obtain ⟨b, o, ha, hx⟩ := hs hn
  refine ⟨b, o, ha, fun j hj => ?_⟩
  have h1 := hx j hj
  have h2 : xs[j]? = some (xs[j]'(by omega)) := List.getElem?_eq_getElem (by omega)
  rw [h2] at h1
  rw [h2, hk _ _ h1]
theorem Shows.below {w w' : World} {v : Value} {n k : Nat} {xs : List Value} (h : Shows w v n k xs) (hb : Below w.heap.size w w') : Shows w' v n k xs :=
  h.keeps fun p u hp => by rw [hb.cell (World.block_lt_of_cell? w p hp), hp]
theorem Shows.ofOwns {w : World} {B n k : Nat} {e : TypeId} {v : Value} {xs : List Value} (h : w.ownsRow B e k v n xs) : Shows w v n k xs := by
  refine ⟨h.1, ?_⟩
  rcases h.2 with ⟨rfl, rfl⟩ | ⟨g, cap, cur, rfl, hb, hg, hc, hm, _⟩
  · exact ⟨none, 0, rfl, ⟨Nat.le_refl _, Nat.zero_le _⟩, fun h => absurd h (Nat.lt_irrefl _)⟩
  · refine ⟨_, cap, rfl, ⟨hc, hm⟩, fun hn => ⟨g, 0, rfl, fun j hj => ?_⟩⟩
    rw [Nat.zero_add]
    exact h.cellAt j hj
abbrev bls (l : List Bool) : List Value := l.map Value.bool
abbrev nms (l : List Int) : List Value := l.map (Value.int .i64)
def ShowB (w : World) (v : Value) (l : List Bool) : Prop := Shows w v l.length 1 (bls l)
def ShowI (w : World) (v : Value) (l : List Int) : Prop := Shows w v l.length 1 (nms l)
/-- the element at i -/
def run (l : List Bool) (i : Nat) : Bool := l.getD i false
def pk (l : List Int) (i : Nat) : Int := l.getD i 0
theorem run_at (l : List Bool) (i : Nat) (h : i < l.length) : l[i] = run l i := by simp [run, h]
theorem pk_at (l : List Int) (i : Nat) (h : i < l.length) : l[i] = pk l i := by simp [pk, h]
theorem ShowB.form {w : World} {v : Value} {l : List Bool} (h : ShowB w v l) : ∃ ao cap, v = .slice ao l.length cap ∧ (l.length ≤ cap ∧ cap ≤ 9223372036854775807) ∧ ∀ i, i < l.length → ∃ b o, ao = some ⟨b, o, none⟩ ∧ w.cell? ⟨b, o + i, none⟩ = some (.bool (run l i)) := by
  obtain ⟨hl, ao, cap, hv, hc, hs⟩ := h
  refine ⟨ao, cap, hv, by unfold maxLen at hc; omega, fun i hi => ?_⟩
  obtain ⟨b, o, ha, hx⟩ := hs (by omega)
  refine ⟨b, o, ha, ?_⟩
  have := hx i (by omega)
  rw [← run_at l i hi]
  simpa [hi] using this
theorem ShowI.form {w : World} {v : Value} {l : List Int} (h : ShowI w v l) : ∃ ao cap, v = .slice ao l.length cap ∧ (l.length ≤ cap ∧ cap ≤ 9223372036854775807) ∧ ∀ i, i < l.length → ∃ b o, ao = some ⟨b, o, none⟩ ∧ w.cell? ⟨b, o + i, none⟩ = some (.int .i64 (pk l i)) := by
  obtain ⟨hl, ao, cap, hv, hc, hs⟩ := h
  refine ⟨ao, cap, hv, by unfold maxLen at hc; omega, fun i hi => ?_⟩
  obtain ⟨b, o, ha, hx⟩ := hs (by omega)
  refine ⟨b, o, ha, ?_⟩
  have := hx i (by omega)
  rw [← pk_at l i hi]
  simpa [hi] using this
theorem ShowB.below {w w' : World} {v : Value} {l : List Bool} (h : ShowB w v l) (hb : Below w.heap.size w w') : ShowB w' v l := Shows.below h hb
theorem ShowI.below {w w' : World} {v : Value} {l : List Int} (h : ShowI w v l) (hb : Below w.heap.size w w') : ShowI w' v l := Shows.below h hb
theorem ShowB.nil (w : World) : ShowB w (.slice none 0 0) [] := Shows.nil w 1
theorem ShowI.nil (w : World) : ShowI w (.slice none 0 0) [] := Shows.nil w 1
/-- the first n of them -/
theorem Shows.first {w : World} {ao : Option Addr} {n cap m : Nat} {xs : List Value} (h : Shows w (.slice ao n cap) n 1 xs) (hm : m ≤ n) : Shows w (.slice ao m cap) m 1 (xs.take m) := by
  obtain ⟨hl, ao', cap', hv, hc, hs⟩ := h
  cases hv
  refine ⟨by simp; omega, ao, cap, rfl, by omega, fun hn => ?_⟩
  obtain ⟨b, o, ha, hx⟩ := hs (by omega)
  refine ⟨b, o, ha, fun j hj => ?_⟩
  rw [hx j (by omega), List.getElem?_take, if_pos (by omega)]
theorem ShowB.first {w : World} {ao : Option Addr} {cap m : Nat} {l : List Bool} (h : ShowB w (.slice ao l.length cap) l) (hm : m ≤ l.length) : ShowB w (.slice ao m cap) (l.take m) := by
  unfold ShowB
  rw [List.length_take, Nat.min_eq_left hm]
  simpa [bls, List.map_take] using Shows.first h hm
theorem ShowI.first {w : World} {ao : Option Addr} {cap m : Nat} {l : List Int} (h : ShowI w (.slice ao l.length cap) l) (hm : m ≤ l.length) : ShowI w (.slice ao m cap) (l.take m) := by
  unfold ShowI
  rw [List.length_take, Nat.min_eq_left hm]
  simpa [nms, List.map_take] using Shows.first h hm
/-- a block whose cells are listed -/
theorem lit_shows (w : World) (t : TypeId) (xs : List Value) (n : Nat) (hn : xs.length = n) (hm : n ≤ 10000) : Shows (w.alloc (.cells xs.toArray t)) (.slice (some ⟨w.heap.size, 0, none⟩) n n) n 1 xs := by
  refine ⟨by omega, _, n, rfl, by unfold maxLen; omega, fun _ => ⟨_, 0, rfl, fun j hj => ?_⟩⟩
  have hb : (w.alloc (.cells xs.toArray t)).heap[w.heap.size]? = some (.cells xs.toArray t) := heap_new _ _
  unfold World.cell?
  dsimp only
  rw [hb]
  simp
theorem lit_b (w : World) (t : TypeId) (l : List Bool) (n : Nat) (hn : l.length = n) (hm : n ≤ 10000) : ShowB (w.alloc (.cells (bls l).toArray t)) (.slice (some ⟨w.heap.size, 0, none⟩) n n) l := by
  unfold ShowB
  rw [hn]
  exact lit_shows w t (bls l) n (by simp [hn]) hm
theorem lit_i (w : World) (t : TypeId) (l : List Int) (n : Nat) (hn : l.length = n) (hm : n ≤ 10000) : ShowI (w.alloc (.cells (nms l).toArray t)) (.slice (some ⟨w.heap.size, 0, none⟩) n n) l := by
  unfold ShowI
  rw [hn]
  exact lit_shows w t (nms l) n (by simp [hn]) hm
/-- a row of bools -/
theorem row_b {w : World} {b n : Nat} {t : TypeId} {l : List Bool} (h : w.rowIs b t n (fun i => .bool (run l i))) (hl : l.length = n) (hn : n ≤ 10000) : ShowB w (.slice (some ⟨b, 0, none⟩) n n) l := by
  subst hl
  refine ⟨by simp, _, l.length, rfl, by unfold maxLen; omega, fun _ => ⟨b, 0, rfl, fun j hj => ?_⟩⟩
  have hj' : j < l.length := by omega
  rw [Nat.zero_add, h.cell hj', ← run_at l j hj']
  simp [hj']
theorem own_i {w : World} {B n : Nat} {t : TypeId} {v : Value} {l : List Int} (h : w.ownsRow B t 1 v n (nms l)) : ShowI w v l := by
  have h1 := Shows.ofOwns h
  have hl : l.length = n := by have := h.1; simpa using this
  unfold ShowI
  rw [hl]
  exact h1
theorem info_parts {P : Program} {t : TypeId} {z : Value} {s b : Nat} (h : (P.info? t).map (fun i => (i.zero, i.size, i.bytes)) = some (some z, s, b)) : ∃ i, P.info? t = some i ∧ i.zero = some z ∧ i.size = s ∧ i.bytes = b := by
  cases hi : P.info? t with
  | none => rw [hi] at h; simp at h
  | some i =>
    rw [hi] at h
    simp at h
    exact ⟨i, rfl, h.1, h.2.1, h.2.2⟩
theorem infoI : (Try.prog.info? 3).map (fun i => (i.zero, i.size, i.bytes)) = some (some (.int .i64 0), 1, 8) := by kernel_rfl

/-- a number brought to be from 0 to below n -/
def bring (x : Int) (n : Nat) : Nat := (x % n).toNat
theorem bring_lt (x : Int) (n : Nat) (h1 : 1 ≤ n) : bring x n < n := by
  have := Int.emod_lt_of_pos x (b := (n : Int)) (by omega)
  have := Int.emod_nonneg x (b := (n : Int)) (by omega)
  unfold bring
  omega
theorem bring_int (x : Int) (n : Nat) (h1 : 1 ≤ n) : (bring x n : Int) = x % n := by
  have := Int.emod_nonneg x (b := (n : Int)) (by omega)
  unfold bring
  omega
/-- from the remainder that Go takes -/
theorem emod_of_tmod (x : Int) (n : Nat) (h1 : 1 ≤ n) : x % n = if x.tmod n < 0 then x.tmod n + n else x.tmod n := by
  have hl : x.tmod n < n := Int.tmod_lt_of_pos _ (by omega)
  have hg : -(n : Int) < x.tmod n := by
    have := Int.tmod_lt_of_pos (-x) (b := (n : Int)) (by omega)
    rw [Int.neg_tmod] at this
    omega
  have he : x = x.tmod n + n * (x.tdiv n) := (Int.tmod_add_mul_tdiv x n).symm
  have h2 : x % n = (x.tmod n) % n := by
    conv => lhs; rw [he]
    rw [Int.add_mul_emod_self_left]
  rw [h2]
  split
  · rw [← Int.add_emod_right, Int.emod_eq_of_lt (by omega) (by omega)]
  · rw [Int.emod_eq_of_lt (by omega) (by omega)]
theorem tmod_range (x : Int) (n : Nat) (h1 : 1 ≤ n) : x.tmod n < n ∧ -(n : Int) < x.tmod n := by
  refine ⟨Int.tmod_lt_of_pos _ (by omega), ?_⟩
  have := Int.tmod_lt_of_pos (-x) (b := (n : Int)) (by omega)
  rw [Int.neg_tmod] at this
  omega
set_option maxHeartbeats 1000000 in
theorem cBring (x : Int) (n : Nat) (w : World) (h1 : 1 ≤ n) (h2 : n ≤ 1099511627776) :
    Calls Try.prog 18 #[.int .i64 x, .int .i64 n] w fun e w' => e = .returned (.int .i64 (bring x n)) ∧ w' = w := by
  obtain ⟨hl, hg⟩ := tmod_range x n h1
  have HB : Hid ((bring x n : Int) = if x.tmod n < 0 then x.tmod n + n else x.tmod n) := Lib.hid (by rw [bring_int x n h1, emod_of_tmod x n h1])
  by_cases hx : 0 ≤ x
  · have h0 : 0 ≤ x % n := Int.emod_nonneg _ (by omega)
    have h3 : x % n < n := Int.emod_lt_of_pos _ (by omega)
    have HB2 : Hid ((bring x n : Int) = x % n) := Lib.hid (bring_int x n h1)
    clear hl hg HB
    go_enter Try.func18, Try.ntmps18
    go_wp2
    go_ret
    exact ⟨(ret_int HB2.out).symm, rfl⟩
  · by_cases h4 : x.tmod n < 0
    · have HB2 : Hid ((bring x n : Int) = x.tmod n + n) := Lib.hid (by rw [HB.out, if_pos h4])
      clear HB
      go_enter Try.func18, Try.ntmps18
      go_wp2
      go_ret
      exact ⟨(ret_int HB2.out).symm, rfl⟩
    · have HB2 : Hid ((bring x n : Int) = x.tmod n) := Lib.hid (by rw [HB.out, if_neg h4])
      clear HB
      go_enter Try.func18, Try.ntmps18
      go_wp2
      go_ret
      exact ⟨(ret_int HB2.out).symm, rfl⟩
set_option maxHeartbeats 1000000 in
theorem cTells (c : Int) (i : Bool) (x : Int) (w : World) :
    Calls Try.prog 20 #[.int .i64 c, .bool i, .int .i64 x] w fun e w' => e = .returned (.bool (decide (c = x) && i)) ∧ w' = w := by
  by_cases h : c = x
  · subst h
    go_enter Try.func20, Try.ntmps20
    go_wp2
    all_goals go_ret
    all_goals (refine ⟨ret_bool ?_, rfl⟩; simp [*])
  · have hne : (c == x) = false := by simpa using h
    have HN := Lib.hid h
    clear h
    go_enter Try.func20, Try.ntmps20
    go_wp2
    all_goals go_ret
    all_goals (refine ⟨ret_bool ?_, rfl⟩; simp [HN.out])
end Go.Proofs.Ytkbehjkfeoffmaa
