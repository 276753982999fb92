/-
  What a list of pages shows in a world; small laws on worlds; two pages are compared.
-/
import Derived.Test.YtpohfecbogppkaaPure
import Derived.WalkKit
import Derived.ProofKit
import Derived.OpenShut
import Derived.Below
import Derived.Outline
import Derived.Lib.Hide
import Derived.Laws.Rows
import Derived.WalkLawsBesides
import Derived.OwnWalk
import Derived.Laws.OwnMore
import Derived.Laws.AppendOwn
import Derived.Deep.QuietTactic
import Derived.BigQuiet
import Derived.WalkSmall
import Derived.BigCall
import Derived.Deep.RegionHeld3
import Derived.Deep.Slices
import Derived.Deep.OwnRows
import Derived.Deep.RegionHeldLaw
import Derived.Deep.AppendLies
import Derived.Maps.AppendAt
import Derived.Lib.SliceRun
import Derived.Laws.StructEq
set_option linter.unusedVariables false
set_option linter.unusedSimpArgs false
namespace Go.Proofs.Ytpohfecbogppkaa
open Go Go.RowKit

theorem size_alloc (w : World) (o : Obj) : (w.alloc o).heap.size = w.heap.size + 1 := Array.size_push _
theorem heap_new (w : World) (o : Obj) : (w.alloc o).heap[w.heap.size]? = some o := Array.getElem?_push_size
theorem below_one {w wr : World} (hb : Below w.heap.size w wr) (o : Obj) : Below w.heap.size w (wr.alloc o) := hb.alloc hb.size o
theorem below_then {w wr w' : World} (hb : Below w.heap.size w wr) (h : Below wr.heap.size wr w') : Below w.heap.size w w' := hb.trans (h.mono hb.size)
theorem below_drewN {B : Nat} {a w : World} (h : Below B a w) (n : Nat) : Below B a (w.drewN n) := ⟨h.os, h.tape, h.output, h.size, h.block⟩
theorem cell_keep {w w' : World} {p : Addr} {u : Value} (hb : Below w.heap.size w w') (h : w.cell? p = some u) : w'.cell? p = some u := (hb.cell (World.block_lt_of_cell? w _ h)).trans h
theorem ret_int {a b : Int} (h : a = b) : Ending.returned (.int .i64 a) = .returned (.int .i64 b) := by rw [h]
theorem ret_bool {a b : Bool} (h : a = b) : Ending.returned (.bool a) = .returned (.bool b) := by rw [h]
/-- A slice of n elements of k cells each shows these cells. -/
def Shows (w : World) (v : Value) (n k : Nat) (xs : List Value) : Prop :=
  xs.length = n * k ∧ ∃ ao cap, v = .slice ao n cap ∧ (n ≤ cap ∧ cap ≤ maxLen) ∧ (0 < n → ∃ b o, ao = some ⟨b, o, none⟩ ∧ ∀ j, j < n * k → w.cell? ⟨b, o + j, none⟩ = xs[j]?)
theorem Shows.nil (w : World) (k : Nat) : Shows w (.slice none 0 0) 0 k [] := ⟨by simp, none, 0, rfl, ⟨Nat.le_refl _, Nat.zero_le _⟩, fun h => absurd h (Nat.lt_irrefl _)⟩
theorem Shows.keeps {w w' : World} {v : Value} {n k : Nat} {xs : List Value} (h : Shows w v n k xs) (hk : ∀ p u, w.cell? p = some u → w'.cell? p = some u) : Shows w' v n k xs := by
  obtain ⟨hl, ao, cap, hv, hc, hs⟩ := h
  refine ⟨hl, ao, cap, hv, hc, fun hn => ?_⟩
  obtain ⟨b, o, ha, hx⟩ := hs hn
  refine ⟨b, o, ha, fun j hj => ?_⟩
  have h1 := hx j hj
  have h2 : xs[j]? = some (xs[j]'(by omega)) := List.getElem?_eq_getElem (by omega)
  rw [h2] at h1
  rw [h2, hk _ _ h1]
theorem Shows.below {w w' : World} {v : Value} {n k : Nat} {xs : List Value} (h : Shows w v n k xs) (hb : Below w.heap.size w w') : Shows w' v n k xs :=
  h.keeps fun p u hp => by rw [hb.cell (World.block_lt_of_cell? w p hp), hp]
theorem Shows.ofOwns {w : World} {B n k : Nat} {e : TypeId} {v : Value} {xs : List Value} (h : w.ownsRow B e k v n xs) : Shows w v n k xs := by
  refine ⟨h.1, ?_⟩
  rcases h.2 with ⟨rfl, rfl⟩ | ⟨g, cap, cur, rfl, hb, hg, hc, hm, _⟩
  · exact ⟨none, 0, rfl, ⟨Nat.le_refl _, Nat.zero_le _⟩, fun h => absurd h (Nat.lt_irrefl _)⟩
  · refine ⟨_, cap, rfl, ⟨hc, hm⟩, fun hn => ⟨g, 0, rfl, fun j hj => ?_⟩⟩
    rw [Nat.zero_add]
    exact h.cellAt j hj
def Pg.cells (x : Pg) : List Value := [.int .i64 x.kind, .int .i64 x.order, .int .i64 x.cache]
def Pg.agg (x : Pg) : Value := .agg #[.int .i64 x.kind, .int .i64 x.order, .int .i64 x.cache]
abbrev pgs (l : List Pg) : List Value := l.flatMap Pg.cells
def ShowP (w : World) (v : Value) (l : List Pg) : Prop := Shows w v l.length 3 (pgs l)
theorem pgs_length (l : List Pg) : (pgs l).length = l.length * 3 := by
  induction l with
  | nil => rfl
  | cons c r ih => simp only [pgs, List.flatMap_cons, List.length_append, List.length_cons] at *; simp only [ih, Pg.cells, List.length_cons, List.length_nil]; omega
theorem pgs_at (l : List Pg) (i j : Nat) (hi : i < l.length) (hj : j < 3) : (pgs l)[i * 3 + j]? = some (l[i].cells[j]'(by simpa [Pg.cells] using hj)) := by
  induction l generalizing i with
  | nil => simp at hi
  | cons c r ih =>
    cases i with
    | zero =>
      simp only [pgs, List.flatMap_cons, Nat.zero_mul, Nat.zero_add]
      rw [List.getElem?_append_left (by simpa [Pg.cells] using hj)]
      simp [Pg.cells, hj]
    | succ i =>
      simp only [pgs, List.flatMap_cons]
      rw [List.getElem?_append_right (by simp [Pg.cells]; omega)]
      have := ih i (by simpa using hi)
      simp only [pgs] at this
      have e : (i + 1) * 3 + j - c.cells.length = i * 3 + j := by simp [Pg.cells]; omega
      rw [e, this]
      simp
theorem ShowP.form {w : World} {v : Value} {l : List Pg} (h : ShowP w v l) : ∃ ao cap, v = .slice ao l.length cap ∧ (l.length ≤ cap ∧ cap ≤ 9223372036854775807) ∧
    ∀ i, i < l.length → ∃ b o, ao = some ⟨b, o, none⟩ ∧ w.cell? ⟨b, o + i * 3, none⟩ = some (.int .i64 (pg l i).kind) ∧ w.cell? ⟨b, o + i * 3 + 1, none⟩ = some (.int .i64 (pg l i).order) ∧ w.cell? ⟨b, o + i * 3 + 2, none⟩ = some (.int .i64 (pg l i).cache) := by
  obtain ⟨hl, ao, cap, hv, hc, hs⟩ := h
  refine ⟨ao, cap, hv, by unfold maxLen at hc; omega, fun i hi => ?_⟩
  obtain ⟨b, o, ha, hx⟩ := hs (by omega)
  rw [← pg_at l i hi]
  refine ⟨b, o, ha, ?_, ?_, ?_⟩
  · have := hx (i * 3 + 0) (by omega); rw [pgs_at l i 0 hi (by omega)] at this; exact this
  · have := hx (i * 3 + 1) (by omega); rw [pgs_at l i 1 hi (by omega)] at this; exact this
  · have := hx (i * 3 + 2) (by omega); rw [pgs_at l i 2 hi (by omega)] at this; exact this
theorem ShowP.below {w w' : World} {v : Value} {l : List Pg} (h : ShowP w v l) (hb : Below w.heap.size w w') : ShowP w' v l := Shows.below h hb
theorem ShowP.nil (w : World) : ShowP w (.slice none 0 0) [] := Shows.nil w 3
theorem pgs_take (l : List Pg) (m : Nat) : pgs (l.take m) = (pgs l).take (m * 3) := by
  induction l generalizing m with
  | nil => simp
  | cons c r ih =>
    cases m with
    | zero => simp
    | succ m =>
      simp only [List.take_succ_cons, pgs, List.flatMap_cons] at *
      rw [ih, show (m + 1) * 3 = c.cells.length + m * 3 by simp [Pg.cells]; omega, List.take_length_add_append]
/-- the first m of them -/
theorem ShowP.first {w : World} {ao : Option Addr} {cap m : Nat} {l : List Pg} (h : ShowP w (.slice ao l.length cap) l) (hm : m ≤ l.length) : ShowP w (.slice ao m cap) (l.take m) := by
  unfold ShowP
  rw [List.length_take, Nat.min_eq_left hm, pgs_take]
  obtain ⟨hl, ao', cap', hv, hc, hs⟩ := h
  cases hv
  refine ⟨by rw [List.length_take, pgs_length]; omega, ao, cap, rfl, by omega, fun hn => ?_⟩
  obtain ⟨b, o, ha, hx⟩ := hs (by omega)
  refine ⟨b, o, ha, fun j hj => ?_⟩
  rw [hx j (by omega), List.getElem?_take, if_pos (by omega)]
/-- a block whose cells are a table's -/
theorem lit_p (w : World) (t : TypeId) (l : List Pg) (n : Nat) (hn : l.length = n) (hm : n ≤ 10000) : ShowP (w.alloc (.cells (pgs l).toArray t)) (.slice (some ⟨w.heap.size, 0, none⟩) n n) l := by
  unfold ShowP
  rw [hn]
  refine ⟨by rw [pgs_length]; omega, _, n, rfl, by unfold maxLen; omega, fun _ => ⟨_, 0, rfl, fun j hj => ?_⟩⟩
  have hb : (w.alloc (.cells (pgs l).toArray t)).heap[w.heap.size]? = some (.cells (pgs l).toArray t) := heap_new _ _
  unfold World.cell?
  dsimp only
  rw [hb]
  simp
theorem info_parts {P : Program} {t : TypeId} {z : Value} {s b : Nat} (h : (P.info? t).map (fun i => (i.zero, i.size, i.bytes)) = some (some z, s, b)) : ∃ i, P.info? t = some i ∧ i.zero = some z ∧ i.size = s ∧ i.bytes = b := by
  cases hi : P.info? t with
  | none => rw [hi] at h; simp at h
  | some i =>
    rw [hi] at h
    simp at h
    exact ⟨i, rfl, h.1, h.2.1, h.2.2⟩
theorem infoP : (Try.prog.info? 51).map (fun i => (i.zero, i.size, i.bytes)) = some (some (.agg #[.int .i64 0, .int .i64 0, .int .i64 0]), 3, 24) := by kernel_rfl

/-! two pages are compared -/
theorem fieldsP : Try.prog.underlying 51 = some (.struct (Try.prog.fieldsOf 51)) := by kernel_rfl
theorem heldP : Try.prog.stoodInHeld 51 = false := by kernel_rfl
theorem guardP : Try.prog.eqGuardType Try.prog.depth 51 = false := by kernel_rfl
theorem fieldsOfP : Try.prog.fieldsOf 51 = #[⟨"Kind", 3, 0, false, "", "", 0⟩, ⟨"Order", 3, 1, false, "", "", 8⟩, ⟨"Cache", 3, 2, false, "", "", 16⟩] := by kernel_rfl
theorem eqinP (w : World) (a b c a' b' c' : Int) : (Op.equalIn 10000 51 (.agg #[.int .i64 a, .int .i64 b, .int .i64 c]) (.agg #[.int .i64 a', .int .i64 b', .int .i64 c'])).run Try.prog w = .ok (a == a' && (b == b' && c == c')) w := by
  rw [show (10000 : Nat) = 9999 + 1 from rfl, run_equalIn_agg _ _ _ _ _ fieldsP heldP, fieldsOfP]
  have e0 : ∀ x y w, (Op.equalIn 9999 3 (.int .i64 x) (.int .i64 y)).run Try.prog w = .ok (x == y) w := fun x y w => run_equalIn_int w 9998 3 .i64 .i64 x y Try.underlying3
  simp [Op.eqFields, go_sem, e0, part]
  by_cases h1 : a = a' <;> by_cases h2 : b = b' <;> by_cases h3 : c = c' <;> simp [h1, h2, h3]
theorem eqinIs {w : World} {c d : Pg} {r : Bool} (h : decide (c = d) = r) : (Op.equalIn 10000 51 (.agg #[.int .i64 c.kind, .int .i64 c.order, .int .i64 c.cache]) (.agg #[.int .i64 d.kind, .int .i64 d.order, .int .i64 d.cache])).run Try.prog w = .ok r w := by
  rw [eqinP, ← h]
  obtain ⟨a, b, c⟩ := c
  obtain ⟨a', b', c'⟩ := d
  congr 1
  by_cases h1 : a = a' <;> by_cases h2 : b = b' <;> by_cases h3 : c = c' <;> simp [h1, h2, h3]
end Go.Proofs.Ytpohfecbogppkaa
