/-
  Lists of calls, three numbers each; Bring.
-/
import Derived.Test.YtnnpclknlccmiaaRn
import Derived.WalkKit
import Derived.ProofKit
import Derived.OpenShut
import Derived.Below
import Derived.Outline
import Derived.Lib.Hide
import Derived.Laws.Rows
import Derived.WalkLawsBesides
import Derived.OwnWalk
import Derived.Laws.OwnMore
import Derived.Laws.AppendOwn
import Derived.Deep.QuietTactic
import Derived.BigQuiet
import Derived.WalkSmall
import Derived.BigCall
import Derived.Deep.RegionHeld3
import Derived.Deep.Slices
import Derived.Deep.OwnRows
import Derived.Deep.RegionHeldLaw
import Derived.Deep.RegionLaw
import Derived.Deep.AppendLies
import Derived.Maps.AppendAt
import Derived.Lib.SliceRun
import Derived.Laws.MakeOwn
set_option linter.unusedVariables false
set_option linter.unusedSimpArgs false
namespace Go.Proofs.Ytnnpclknlccmiaa
open Go Go.RowKit

structure Pg where
  kind : Int
  order : Int
  cache : Int
  deriving DecidableEq, Inhabited
def pz : Pg := ⟨0, 0, 0⟩
def pg (l : List Pg) (i : Nat) : Pg := l.getD i pz
theorem pg_at (l : List Pg) (i : Nat) (h : i < l.length) : l[i] = pg l i := by simp [pg, h]
def Pg.cells (x : Pg) : List Value := [.int .i64 x.kind, .int .i64 x.order, .int .i64 x.cache]
def Pg.agg (x : Pg) : Value := .agg #[.int .i64 x.kind, .int .i64 x.order, .int .i64 x.cache]
abbrev pgs (l : List Pg) : List Value := l.flatMap Pg.cells
def ShowP (w : World) (v : Value) (l : List Pg) : Prop := Shows w v l.length 3 (pgs l)
theorem pgs_length (l : List Pg) : (pgs l).length = l.length * 3 := by
  induction l with
  | nil => rfl
  | cons c r ih => simp only [pgs, List.flatMap_cons, List.length_append, List.length_cons] at *; simp only [ih, Pg.cells, List.length_cons, List.length_nil]; omega
theorem pgs_at (l : List Pg) (i j : Nat) (hi : i < l.length) (hj : j < 3) : (pgs l)[i * 3 + j]? = some (l[i].cells[j]'(by simpa [Pg.cells] using hj)) := by
  induction l generalizing i with
  | nil => simp at hi
  | cons c r ih =>
    cases i with
    | zero =>
      simp only [pgs, List.flatMap_cons, Nat.zero_mul, Nat.zero_add]
      rw [List.getElem?_append_left (by simpa [Pg.cells] using hj)]
      simp [Pg.cells, hj]
    | succ i =>
      simp only [pgs, List.flatMap_cons]
      rw [List.getElem?_append_right (by simp [Pg.cells]; omega)]
      have := ih i (by simpa using hi)
      simp only [pgs] at this
      have e : (i + 1) * 3 + j - c.cells.length = i * 3 + j := by simp [Pg.cells]; omega
      rw [e, this]
      simp
theorem ShowP.form {w : World} {v : Value} {l : List Pg} (h : ShowP w v l) : ∃ ao cap, v = .slice ao l.length cap ∧ (l.length ≤ cap ∧ cap ≤ 9223372036854775807) ∧
    ∀ i, i < l.length → ∃ b o, ao = some ⟨b, o, none⟩ ∧ w.cell? ⟨b, o + i * 3, none⟩ = some (.int .i64 (pg l i).kind) ∧ w.cell? ⟨b, o + i * 3 + 1, none⟩ = some (.int .i64 (pg l i).order) ∧ w.cell? ⟨b, o + i * 3 + 2, none⟩ = some (.int .i64 (pg l i).cache) := by
  obtain ⟨hl, ao, cap, hv, hc, hs⟩ := h
  refine ⟨ao, cap, hv, by unfold maxLen at hc; omega, fun i hi => ?_⟩
  obtain ⟨b, o, ha, hx⟩ := hs (by omega)
  rw [← pg_at l i hi]
  refine ⟨b, o, ha, ?_, ?_, ?_⟩
  · have := hx (i * 3 + 0) (by omega); rw [pgs_at l i 0 hi (by omega)] at this; exact this
  · have := hx (i * 3 + 1) (by omega); rw [pgs_at l i 1 hi (by omega)] at this; exact this
  · have := hx (i * 3 + 2) (by omega); rw [pgs_at l i 2 hi (by omega)] at this; exact this
theorem ShowP.below {w w' : World} {v : Value} {l : List Pg} (h : ShowP w v l) (hb : Below w.heap.size w w') : ShowP w' v l := Shows.below h hb
theorem ShowP.nil (w : World) : ShowP w (.slice none 0 0) [] := Shows.nil w 3
/-- a block whose cells are a table's -/
theorem lit_p (w : World) (t : TypeId) (l : List Pg) (n : Nat) (hn : l.length = n) (hm : n ≤ 10000) : ShowP (w.alloc (.cells (pgs l).toArray t)) (.slice (some ⟨w.heap.size, 0, none⟩) n n) l := by
  unfold ShowP
  rw [hn]
  refine ⟨by rw [pgs_length]; omega, _, n, rfl, by unfold maxLen; omega, fun _ => ⟨_, 0, rfl, fun j hj => ?_⟩⟩
  have hb : (w.alloc (.cells (pgs l).toArray t)).heap[w.heap.size]? = some (.cells (pgs l).toArray t) := heap_new _ _
  unfold World.cell?
  dsimp only
  rw [hb]
  simp
section
variable {S T : Nat → Prop} {w w' w'' : World}
end


def bring (x : Int) (n : Nat) : Nat := (x % n).toNat
theorem bring_lt (x : Int) (n : Nat) (h1 : 1 ≤ n) : bring x n < n := by
  have := Int.emod_lt_of_pos x (b := (n : Int)) (by omega)
  have := Int.emod_nonneg x (b := (n : Int)) (by omega)
  unfold bring
  omega
theorem bring_int (x : Int) (n : Nat) (h1 : 1 ≤ n) : (bring x n : Int) = x % n := by
  have := Int.emod_nonneg x (b := (n : Int)) (by omega)
  unfold bring
  omega
/-- from the remainder that Go takes -/
theorem emod_of_tmod (x : Int) (n : Nat) (h1 : 1 ≤ n) : x % n = if x.tmod n < 0 then x.tmod n + n else x.tmod n := by
  have hl : x.tmod n < n := Int.tmod_lt_of_pos _ (by omega)
  have hg : -(n : Int) < x.tmod n := by
    have := Int.tmod_lt_of_pos (-x) (b := (n : Int)) (by omega)
    rw [Int.neg_tmod] at this
    omega
  have he : x = x.tmod n + n * (x.tdiv n) := (Int.tmod_add_mul_tdiv x n).symm
  have h2 : x % n = (x.tmod n) % n := by
    conv => lhs; rw [he]
    rw [Int.add_mul_emod_self_left]
  rw [h2]
  split
  · rw [← Int.add_emod_right, Int.emod_eq_of_lt (by omega) (by omega)]
  · rw [Int.emod_eq_of_lt (by omega) (by omega)]
theorem tmod_range (x : Int) (n : Nat) (h1 : 1 ≤ n) : x.tmod n < n ∧ -(n : Int) < x.tmod n := by
  refine ⟨Int.tmod_lt_of_pos _ (by omega), ?_⟩
  have := Int.tmod_lt_of_pos (-x) (b := (n : Int)) (by omega)
  rw [Int.neg_tmod] at this
  omega
set_option maxHeartbeats 1000000 in
theorem cBring (x : Int) (n : Nat) (w : World) (h1 : 1 ≤ n) (h2 : n ≤ 1099511627776) :
    Calls Try.prog 22 #[.int .i64 x, .int .i64 n] w fun e w' => e = .returned (.int .i64 (bring x n)) ∧ w' = w := by
  obtain ⟨hl, hg⟩ := tmod_range x n h1
  have HB : Hid ((bring x n : Int) = if x.tmod n < 0 then x.tmod n + n else x.tmod n) := Lib.hid (by rw [bring_int x n h1, emod_of_tmod x n h1])
  by_cases hx : 0 ≤ x
  · have h0 : 0 ≤ x % n := Int.emod_nonneg _ (by omega)
    have h3 : x % n < n := Int.emod_lt_of_pos _ (by omega)
    have HB2 : Hid ((bring x n : Int) = x % n) := Lib.hid (bring_int x n h1)
    clear hl hg HB
    go_enter Try.func22, Try.ntmps22
    go_wp2
    go_ret
    exact ⟨(ret_int HB2.out).symm, rfl⟩
  · by_cases h4 : x.tmod n < 0
    · have HB2 : Hid ((bring x n : Int) = x.tmod n + n) := Lib.hid (by rw [HB.out, if_pos h4])
      clear HB
      go_enter Try.func22, Try.ntmps22
      go_wp2
      go_ret
      exact ⟨(ret_int HB2.out).symm, rfl⟩
    · have HB2 : Hid ((bring x n : Int) = x.tmod n) := Lib.hid (by rw [HB.out, if_neg h4])
      clear HB
      go_enter Try.func22, Try.ntmps22
      go_wp2
      go_ret
      exact ⟨(ret_int HB2.out).symm, rfl⟩

section
variable {w : World} {v : Value}
end
/-! ### a list of calls that grows -/
theorem pgs_snoc (l : List Pg) (x : Pg) : pgs (l ++ [x]) = pgs l ++ x.cells := by simp [pgs]
theorem new3 (w : World) (a b c : Value) (t : TypeId) : ∀ j u, [a, b, c][j]? = some u → (w.alloc (.cells #[a, b, c] t)).cell? ((⟨w.heap.size, 0, none⟩ : Addr).add j) = some u := by
  intro j u hj
  rw [plain_add, Nat.zero_add]
  exact self_cell (heap_new w _) j u (by
    have : (#[a, b, c] : Array Value)[j]? = [a, b, c][j]? := by simp
    rw [this]; exact hj)
/-- a row of calls of one's own, as many as N -/
def Dos (w : World) (b : Nat) (v : Value) (N : Nat) : Prop := ∃ l : List Pg, l.length = N ∧ w.ownsRow b 32 3 v N (pgs l)
theorem Dos.below {w w' : World} {b N : Nat} {v : Value} (h : Dos w b v N) (hb : Below w.heap.size w w') : Dos w' b v N := by
  obtain ⟨l, h1, h2⟩ := h
  exact ⟨l, h1, own_below h2 hb⟩
theorem Dos.shows {w : World} {b N : Nat} {v : Value} (h : Dos w b v N) : ∃ l, ShowP w v l := by
  obtain ⟨l, h1, h2⟩ := h
  have := Shows.ofOwns h2
  exact ⟨l, by unfold ShowP; rw [h1]; exact this⟩
theorem Dos.more {w : World} {b N : Nat} {v : Value} {l : List Pg} {x y z : Int} (hl : l.length = N) (h : w.ownsRow b 32 3 v (N + 1) (pgs l ++ [.int .i64 x, .int .i64 y, .int .i64 z])) : Dos w b v (N + 1) :=
  ⟨l ++ [⟨x, y, z⟩], by simp [hl], by rw [pgs_snoc]; exact h⟩
theorem Dos.many {w : World} {b N : Nat} {v : Value} {l m : List Pg} (hl : l.length = N) {k : Nat} (hm : m.length = k) (h : w.ownsRow b 32 3 v (N + k) (pgs l ++ pgs m)) : Dos w b v (N + k) :=
  ⟨l ++ m, by simp [hl, hm], by rw [show pgs (l ++ m) = pgs l ++ pgs m by simp [pgs]]; exact h⟩
theorem pgs_one (l : List Pg) : ∀ u ∈ pgs l, u.oneCell' = true := by
  intro u hu
  obtain ⟨c, _, hc⟩ := List.mem_flatMap.1 hu
  simp only [Pg.cells, List.mem_cons, List.mem_nil_iff, or_false] at hc
  rcases hc with rfl | rfl | rfl <;> rfl
theorem infoD : (Try.prog.info? 32).map (fun i => (i.zero, i.size, i.bytes)) = some (some (.agg #[.int .i64 0, .int .i64 0, .int .i64 0]), 3, 24) := by kernel_rfl
end Go.Proofs.Ytnnpclknlccmiaa
