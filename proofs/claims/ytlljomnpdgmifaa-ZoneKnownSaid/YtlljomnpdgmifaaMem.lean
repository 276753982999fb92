/-
  What tables show in a world; heads; two tables compared; starting.
-/
import Derived.Test.YtlljomnpdgmifaaPure
import Derived.WalkKit
import Derived.ProofKit
import Derived.OpenShut
import Derived.Below
import Derived.Outline
import Derived.Lib.Hide
import Derived.Laws.Rows
import Derived.WalkLawsBesides
import Derived.OwnWalk
import Derived.Laws.OwnMore
import Derived.Laws.AppendOwn
import Derived.Deep.QuietTactic
import Derived.BigQuiet
import Derived.WalkSmall
import Derived.BigCall
import Derived.Deep.RegionHeld3
import Derived.Deep.Slices
import Derived.Deep.OwnRows
import Derived.Deep.RegionHeldLaw
import Derived.Deep.AppendLies
import Derived.Maps.AppendAt
import Derived.Lib.SliceRun
import Derived.Laws.StructEq
set_option linter.unusedVariables false
set_option linter.unusedSimpArgs false
namespace Go.Proofs.Ytlljomnpdgmifaa
open Go Go.RowKit

theorem size_alloc (w : World) (o : Obj) : (w.alloc o).heap.size = w.heap.size + 1 := Array.size_push _
theorem heap_new (w : World) (o : Obj) : (w.alloc o).heap[w.heap.size]? = some o := Array.getElem?_push_size
theorem below_one {w wr : World} (hb : Below w.heap.size w wr) (o : Obj) : Below w.heap.size w (wr.alloc o) := hb.alloc hb.size o
theorem below_then {w wr w' : World} (hb : Below w.heap.size w wr) (h : Below wr.heap.size wr w') : Below w.heap.size w w' := hb.trans (h.mono hb.size)
theorem below_drewN {B : Nat} {a w : World} (h : Below B a w) (n : Nat) : Below B a (w.drewN n) := ⟨h.os, h.tape, h.output, h.size, h.block⟩
theorem cell_keep {w w' : World} {p : Addr} {u : Value} (hb : Below w.heap.size w w') (h : w.cell? p = some u) : w'.cell? p = some u := (hb.cell (World.block_lt_of_cell? w _ h)).trans h
theorem ret_int {a b : Int} (h : a = b) : Ending.returned (.int .i64 a) = .returned (.int .i64 b) := by rw [h]
theorem ret_bool {a b : Bool} (h : a = b) : Ending.returned (.bool a) = .returned (.bool b) := by rw [h]
/-- A slice of n elements of k cells each shows these cells. -/
def Shows (w : World) (v : Value) (n k : Nat) (xs : List Value) : Prop :=
  xs.length = n * k ∧ ∃ ao cap, v = .slice ao n cap ∧ (n ≤ cap ∧ cap ≤ maxLen) ∧ (0 < n → ∃ b o, ao = some ⟨b, o, none⟩ ∧ ∀ j, j < n * k → w.cell? ⟨b, o + j, none⟩ = xs[j]?)
theorem Shows.nil (w : World) (k : Nat) : Shows w (.slice none 0 0) 0 k [] := ⟨by simp, none, 0, rfl, ⟨Nat.le_refl _, Nat.zero_le _⟩, fun h => absurd h (Nat.lt_irrefl _)⟩
theorem Shows.keeps {w w' : World} {v : Value} {n k : Nat} {xs : List Value} (h : Shows w v n k xs) (hk : ∀ p u, w.cell? p = some u → w'.cell? p = some u) : Shows w' v n k xs := by
  obtain ⟨hl, ao, cap, hv, hc, hs⟩ := h
  refine ⟨hl, ao, cap, hv, hc, fun hn => ?_⟩
  obtain ⟨b, o, ha, hx⟩ := hs hn
  refine ⟨b, o, ha, fun j hj => ?_⟩
  have h1 := hx j hj
  have h2 : xs[j]? = some (xs[j]'(by omega)) := List.getElem?_eq_getElem (by omega)
  rw [h2] at h1
  rw [h2, hk _ _ h1]
theorem Shows.below {w w' : World} {v : Value} {n k : Nat} {xs : List Value} (h : Shows w v n k xs) (hb : Below w.heap.size w w') : Shows w' v n k xs :=
  h.keeps fun p u hp => by rw [hb.cell (World.block_lt_of_cell? w p hp), hp]
theorem Shows.ofOwns {w : World} {B n k : Nat} {e : TypeId} {v : Value} {xs : List Value} (h : w.ownsRow B e k v n xs) : Shows w v n k xs := by
  refine ⟨h.1, ?_⟩
  rcases h.2 with ⟨rfl, rfl⟩ | ⟨g, cap, cur, rfl, hb, hg, hc, hm, _⟩
  · exact ⟨none, 0, rfl, ⟨Nat.le_refl _, Nat.zero_le _⟩, fun h => absurd h (Nat.lt_irrefl _)⟩
  · refine ⟨_, cap, rfl, ⟨hc, hm⟩, fun hn => ⟨g, 0, rfl, fun j hj => ?_⟩⟩
    rw [Nat.zero_add]
    exact h.cellAt j hj
def Pg.cells (x : Pg) : List Value := [.int .i64 x.kind, .int .i64 x.order, .int .i64 x.cache]
def Pg.agg (x : Pg) : Value := .agg #[.int .i64 x.kind, .int .i64 x.order, .int .i64 x.cache]
abbrev pgs (l : List Pg) : List Value := l.flatMap Pg.cells
def ShowP (w : World) (v : Value) (l : List Pg) : Prop := Shows w v l.length 3 (pgs l)
theorem pgs_length (l : List Pg) : (pgs l).length = l.length * 3 := by
  induction l with
  | nil => rfl
  | cons c r ih => simp only [pgs, List.flatMap_cons, List.length_append, List.length_cons] at *; simp only [ih, Pg.cells, List.length_cons, List.length_nil]; omega
theorem pgs_at (l : List Pg) (i j : Nat) (hi : i < l.length) (hj : j < 3) : (pgs l)[i * 3 + j]? = some (l[i].cells[j]'(by simpa [Pg.cells] using hj)) := by
  induction l generalizing i with
  | nil => simp at hi
  | cons c r ih =>
    cases i with
    | zero =>
      simp only [pgs, List.flatMap_cons, Nat.zero_mul, Nat.zero_add]
      rw [List.getElem?_append_left (by simpa [Pg.cells] using hj)]
      simp [Pg.cells, hj]
    | succ i =>
      simp only [pgs, List.flatMap_cons]
      rw [List.getElem?_append_right (by simp [Pg.cells]; omega)]
      have := ih i (by simpa using hi)
      simp only [pgs] at this
      have e : (i + 1) * 3 + j - c.cells.length = i * 3 + j := by simp [Pg.cells]; omega
      rw [e, this]
      simp
theorem ShowP.form {w : World} {v : Value} {l : List Pg} (h : ShowP w v l) : ∃ ao cap, v = .slice ao l.length cap ∧ (l.length ≤ cap ∧ cap ≤ 9223372036854775807) ∧
    ∀ i, i < l.length → ∃ b o, ao = some ⟨b, o, none⟩ ∧ w.cell? ⟨b, o + i * 3, none⟩ = some (.int .i64 (pg l i).kind) ∧ w.cell? ⟨b, o + i * 3 + 1, none⟩ = some (.int .i64 (pg l i).order) ∧ w.cell? ⟨b, o + i * 3 + 2, none⟩ = some (.int .i64 (pg l i).cache) := by
  obtain ⟨hl, ao, cap, hv, hc, hs⟩ := h
  refine ⟨ao, cap, hv, by unfold maxLen at hc; omega, fun i hi => ?_⟩
  obtain ⟨b, o, ha, hx⟩ := hs (by omega)
  rw [← pg_at l i hi]
  refine ⟨b, o, ha, ?_, ?_, ?_⟩
  · have := hx (i * 3 + 0) (by omega); rw [pgs_at l i 0 hi (by omega)] at this; exact this
  · have := hx (i * 3 + 1) (by omega); rw [pgs_at l i 1 hi (by omega)] at this; exact this
  · have := hx (i * 3 + 2) (by omega); rw [pgs_at l i 2 hi (by omega)] at this; exact this
theorem ShowP.below {w w' : World} {v : Value} {l : List Pg} (h : ShowP w v l) (hb : Below w.heap.size w w') : ShowP w' v l := Shows.below h hb
theorem ShowP.nil (w : World) : ShowP w (.slice none 0 0) [] := Shows.nil w 3
theorem pgs_take (l : List Pg) (m : Nat) : pgs (l.take m) = (pgs l).take (m * 3) := by
  induction l generalizing m with
  | nil => simp
  | cons c r ih =>
    cases m with
    | zero => simp
    | succ m =>
      simp only [List.take_succ_cons, pgs, List.flatMap_cons] at *
      rw [ih, show (m + 1) * 3 = c.cells.length + m * 3 by simp [Pg.cells]; omega, List.take_length_add_append]
/-- the first m of them -/
theorem ShowP.first {w : World} {ao : Option Addr} {cap m : Nat} {l : List Pg} (h : ShowP w (.slice ao l.length cap) l) (hm : m ≤ l.length) : ShowP w (.slice ao m cap) (l.take m) := by
  unfold ShowP
  rw [List.length_take, Nat.min_eq_left hm, pgs_take]
  obtain ⟨hl, ao', cap', hv, hc, hs⟩ := h
  cases hv
  refine ⟨by rw [List.length_take, pgs_length]; omega, ao, cap, rfl, by omega, fun hn => ?_⟩
  obtain ⟨b, o, ha, hx⟩ := hs (by omega)
  refine ⟨b, o, ha, fun j hj => ?_⟩
  rw [hx j (by omega), List.getElem?_take, if_pos (by omega)]
/-- a block whose cells are a table's -/
theorem lit_p (w : World) (t : TypeId) (l : List Pg) (n : Nat) (hn : l.length = n) (hm : n ≤ 10000) : ShowP (w.alloc (.cells (pgs l).toArray t)) (.slice (some ⟨w.heap.size, 0, none⟩) n n) l := by
  unfold ShowP
  rw [hn]
  refine ⟨by rw [pgs_length]; omega, _, n, rfl, by unfold maxLen; omega, fun _ => ⟨_, 0, rfl, fun j hj => ?_⟩⟩
  have hb : (w.alloc (.cells (pgs l).toArray t)).heap[w.heap.size]? = some (.cells (pgs l).toArray t) := heap_new _ _
  unfold World.cell?
  dsimp only
  rw [hb]
  simp
theorem info_parts {P : Program} {t : TypeId} {z : Value} {s b : Nat} (h : (P.info? t).map (fun i => (i.zero, i.size, i.bytes)) = some (some z, s, b)) : ∃ i, P.info? t = some i ∧ i.zero = some z ∧ i.size = s ∧ i.bytes = b := by
  cases hi : P.info? t with
  | none => rw [hi] at h; simp at h
  | some i =>
    rw [hi] at h
    simp at h
    exact ⟨i, rfl, h.1, h.2.1, h.2.2⟩
theorem infoP : (Try.prog.info? 99).map (fun i => (i.zero, i.size, i.bytes)) = some (some (.agg #[.int .i64 0, .int .i64 0, .int .i64 0]), 3, 24) := by kernel_rfl

/-! two pages are compared -/
theorem fieldsP : Try.prog.underlying 99 = some (.struct (Try.prog.fieldsOf 99)) := by kernel_rfl
theorem heldP : Try.prog.stoodInHeld 99 = false := by kernel_rfl
theorem guardP : Try.prog.eqGuardType Try.prog.depth 99 = false := by kernel_rfl
theorem fieldsOfP : Try.prog.fieldsOf 99 = #[⟨"Kind", 3, 0, false, "", "", 0⟩, ⟨"Order", 3, 1, false, "", "", 8⟩, ⟨"Cache", 3, 2, false, "", "", 16⟩] := by kernel_rfl
theorem eqinP (w : World) (a b c a' b' c' : Int) : (Op.equalIn 10000 99 (.agg #[.int .i64 a, .int .i64 b, .int .i64 c]) (.agg #[.int .i64 a', .int .i64 b', .int .i64 c'])).run Try.prog w = .ok (a == a' && (b == b' && c == c')) w := by
  rw [show (10000 : Nat) = 9999 + 1 from rfl, run_equalIn_agg _ _ _ _ _ fieldsP heldP, fieldsOfP]
  have e0 : ∀ x y w, (Op.equalIn 9999 3 (.int .i64 x) (.int .i64 y)).run Try.prog w = .ok (x == y) w := fun x y w => run_equalIn_int w 9998 3 .i64 .i64 x y Try.underlying3
  simp [Op.eqFields, go_sem, e0, part]
  by_cases h1 : a = a' <;> by_cases h2 : b = b' <;> by_cases h3 : c = c' <;> simp [h1, h2, h3]
theorem eqinIs {w : World} {c d : Pg} {r : Bool} (h : decide (c = d) = r) : (Op.equalIn 10000 99 (.agg #[.int .i64 c.kind, .int .i64 c.order, .int .i64 c.cache]) (.agg #[.int .i64 d.kind, .int .i64 d.order, .int .i64 d.cache])).run Try.prog w = .ok r w := by
  rw [eqinP, ← h]
  obtain ⟨a, b, c⟩ := c
  obtain ⟨a', b', c'⟩ := d
  congr 1
  by_cases h1 : a = a' <;> by_cases h2 : b = b' <;> by_cases h3 : c = c' <;> simp [h1, h2, h3]

set_option maxHeartbeats 1000000 in
theorem cPages (o : Int) (S : Nat) (h0 : 0 ≤ o) (h1 : o ≤ 10) (hS : (2 : Int) ^ o.toNat = (S : Int)) (hS1 : S ≤ 1024) (w : World) :
    Calls Try.prog 100 #[.int .i64 o] w fun e w' => e = .returned (.int .i64 S) ∧ w' = w := by
  go_enter Try.func100, Try.ntmps100
  go_wp2
  go_ret
  exact ⟨rfl, rfl⟩
set_option maxHeartbeats 4000000 in
theorem cIsHead (k o c : Int) (q : Bool) (hq : (⟨k, o, c⟩ : Pg).ok = q) (w : World) :
    Calls Try.prog 98 #[.agg #[.int .i64 k, .int .i64 o, .int .i64 c]] w fun e w' => e = .returned (.bool q) ∧ Below w.heap.size w w' := by
  have hb0 : ∀ o, Below w.heap.size w (w.alloc o) := fun o => below_one (Below.refl _ _) o
  have HQ := Lib.hid hq
  clear hq
  go_enter Try.func98, Try.ntmps98
  go_wp2
  all_goals go_ret
  all_goals (refine ⟨ret_bool ?_, hb0 _⟩; rw [← HQ.out]; unfold Pg.ok; simp_all; try first | rfl | omega)
set_option maxHeartbeats 4000000 in
theorem cRHead (k o c : Int) (q : Bool) (hq : (⟨k, o, c⟩ : Pg).ok = q) (w : World) :
    Calls Try.prog 91 #[.agg #[.int .i64 k, .int .i64 o, .int .i64 c]] w fun e w' => e = .returned (.bool q) ∧ Below w.heap.size w w' := by
  have hb0 : ∀ o, Below w.heap.size w (w.alloc o) := fun o => below_one (Below.refl _ _) o
  have HQ := Lib.hid hq
  clear hq
  go_enter Try.func91, Try.ntmps91
  go_wp2
  all_goals go_ret
  all_goals (refine ⟨ret_bool ?_, hb0 _⟩; rw [← HQ.out]; unfold Pg.ok; simp_all; try omega)
set_option maxHeartbeats 4000000 in
theorem cFits (many : Nat) (page o : Int) (S : Nat) (q : Bool) (h0 : 0 ≤ o) (h1 : o ≤ 10) (hS : (2 : Int) ^ o.toNat = (S : Int)) (hS1 : 1 ≤ S ∧ S ≤ 1024) (hm : many ≤ 1024) (hq : decide (0 ≤ page ∧ page + S ≤ many ∧ page.toNat % S = 0) = q) (w : World) :
    Calls Try.prog 99 #[.int .i64 many, .int .i64 page, .int .i64 o] w fun e w' => e = .returned (.bool q) ∧ w' = w := by
  have HQ := Lib.hid hq
  clear hq
  by_cases hp : 0 ≤ page
  rotate_left
  · have HQ1 : Hid (q = false) := Lib.hid (by rw [← HQ.out]; exact decide_eq_false (fun h => hp h.1))
    clear HQ
    go_enter Try.func99, Try.ntmps99
    go_wp2
    go_ret
    exact ⟨ret_bool HQ1.out.symm, rfl⟩
  obtain ⟨p, rfl⟩ : ∃ p : Nat, page = (p : Int) := ⟨page.toNat, by omega⟩
  obtain ⟨r, hr⟩ : ∃ r : Nat, p % S = r := ⟨_, rfl⟩
  have hri : (p : Int) % (S : Int) = (r : Int) := by omega
  by_cases h2 : r = 0
  rotate_left
  · have HQ1 : Hid (q = false) := Lib.hid (by rw [← HQ.out]; exact decide_eq_false (fun h => h2 (by have := h.2.2; rw [Int.toNat_natCast] at this; omega)))
    clear HQ hr
    go_enter Try.func99, Try.ntmps99
    go_wp2_with (go_at_call 100; refine (cPages o S h0 h1 hS hS1.2 _).mono ?_; rintro e w' ⟨rfl, rfl⟩)
    go_ret
    exact ⟨ret_bool HQ1.out.symm, rfl⟩
  subst h2
  by_cases h3 : p + S ≤ many
  · have HQ1 : Hid (q = true) := Lib.hid (by rw [← HQ.out]; exact decide_eq_true ⟨hp, by omega, by rw [Int.toNat_natCast]; exact hr⟩)
    clear HQ hr
    go_enter Try.func99, Try.ntmps99
    go_wp2_with (go_at_call 100; refine (cPages o S h0 h1 hS hS1.2 _).mono ?_; rintro e w' ⟨rfl, rfl⟩)
    go_ret
    exact ⟨ret_bool (by rw [HQ1.out]; simp; omega), rfl⟩
  · have HQ1 : Hid (q = false) := Lib.hid (by rw [← HQ.out]; exact decide_eq_false (fun h => h3 (by have := h.2.1; omega)))
    clear HQ hr
    go_enter Try.func99, Try.ntmps99
    go_wp2_with (go_at_call 100; refine (cPages o S h0 h1 hS hS1.2 _).mono ?_; rintro e w' ⟨rfl, rfl⟩)
    go_ret
    exact ⟨ret_bool (by rw [HQ1.out]; simp; omega), rfl⟩

theorem take_eq_succ {α : Type} (a b : List α) (k : Nat) (ha : k < a.length) (hb : k < b.length) (h : a.take k = b.take k) (he : a[k] = b[k]) : a.take (k + 1) = b.take (k + 1) := by
  rw [List.take_succ_eq_append_getElem ha, List.take_succ_eq_append_getElem hb, h, he]
theorem ne_of_at {α : Type} (a b : List α) (k : Nat) (ha : k < a.length) (hb : k < b.length) (he : a[k] ≠ b[k]) : a ≠ b := by
  rintro rfl
  exact he rfl
set_option maxHeartbeats 2000000 in
set_option maxRecDepth 100000 in
theorem cSameR (u v : Value) (a b : List Pg) (w : World) (hu : ShowP w u a) (hv : ShowP w v b) :
    Calls Try.prog 81 #[u, v] w fun e w' => e = .returned (.bool (decide (a = b))) ∧ Below w.heap.size w w' := by
  obtain ⟨ao, cap, rfl, hcap, hat⟩ := hu.form
  obtain ⟨bo, cbp, rfl, hcbp, hbt⟩ := hv.form
  clear hu hv
  by_cases hl : a.length = b.length
  · have hl1 : a.length ≤ b.length := by omega
    have hl2 : b.length ≤ a.length := by omega
    have HLE := Lib.hid hl
    have hne : ((a.length : Int) != (b.length : Int)) = false := by simp [hl]
    clear hl
    go_enter Try.func81, Try.ntmps81
    go_wp2
    go_loopw [5] (fun i wr => ∃ k : Nat, k ≤ a.length ∧ i = .int .i64 k ∧ a.take k = b.take k ∧ Below w.heap.size w wr) (fun i _ => a.length - (intOf i).toNat)
    case atStart => exact ⟨0, by omega, rfl, rfl, Below.refl _ _⟩
    case round =>
      obtain ⟨k, hk, rfl, htk, hb⟩ := hrel
      have HT := Lib.hid htk
      clear htk
      by_cases hlt : k < a.length
      · have hlb : k < b.length := by omega
        obtain ⟨b1, o1, rfl, c1, c2, c3⟩ := hat k hlt
        obtain ⟨b2, o2, rfl, e1, e2, e3⟩ := hbt k hlb
        rw [← pg_at a k hlt] at c1 c2 c3
        rw [← pg_at b k hlb] at e1 e2 e3
        replace c1 := cell_keep hb c1
        replace c2 := cell_keep hb c2
        replace c3 := cell_keep hb c3
        replace e1 := cell_keep hb e1
        replace e2 := cell_keep hb e2
        replace e3 := cell_keep hb e3
        have HS : Hid (a[k] = b[k] → a.take (k + 1) = b.take (k + 1)) := Lib.hid (take_eq_succ a b k hlt hlb HT.out)
        have HN : Hid (a[k] ≠ b[k] → a ≠ b) := Lib.hid (ne_of_at a b k hlt hlb)
        generalize a[k] = x at c1 c2 c3 HS HN
        generalize b[k] = y at e1 e2 e3 HS HN
        by_cases hxy : x = y
        · have heq : ∀ w', (Op.equalIn 10000 99 (.agg #[.int .i64 x.kind, .int .i64 x.order, .int .i64 x.cache]) (.agg #[.int .i64 y.kind, .int .i64 y.order, .int .i64 y.cache])).run Try.prog w' = .ok true w' := fun w' => eqinIs (decide_eq_true hxy)
          have hgd := guardP
          have HS1 := Lib.hid (HS.out hxy)
          clear HS HN hxy
          go_wp2
          go_quiet (fail)
          go_wp2
          go_roundw
          case rel => exact ⟨k + 1, by omega, by go_num, HS1.out, below_drewN hb _⟩
          case measure => simp [intOf]; omega
        · have heq : ∀ w', (Op.equalIn 10000 99 (.agg #[.int .i64 x.kind, .int .i64 x.order, .int .i64 x.cache]) (.agg #[.int .i64 y.kind, .int .i64 y.order, .int .i64 y.cache])).run Try.prog w' = .ok false w' := fun w' => eqinIs (decide_eq_false hxy)
          have hgd := guardP
          have HN1 := Lib.hid (HN.out hxy)
          clear HS HN hxy
          go_wp2
          go_quiet (fail)
          go_wp2
          go_ret
          exact ⟨ret_bool (by rw [decide_eq_false HN1.out]), below_drewN hb _⟩
      · have hke : k = a.length := by omega
        subst hke
        have HE : Hid (a = b) := Lib.hid (by have := HT.out; rwa [List.take_length, HLE.out, List.take_length] at this)
        go_wp2
        go_ret
        exact ⟨ret_bool (by rw [decide_eq_true HE.out]), hb⟩
  · have hne : ((a.length : Int) != (b.length : Int)) = true := by simp; omega
    have HN : Hid (a ≠ b) := Lib.hid (fun e => hl (by rw [e]))
    go_enter Try.func81, Try.ntmps81
    go_wp2
    go_ret
    exact ⟨ret_bool (by rw [decide_eq_false HN.out]), Below.refl _ _⟩

def blkV (l : List Pg) (a : Nat) : Value := .agg #[.int .i64 (pg l a).kind, .int .i64 (pg l a).order, .int .i64 (pg l a).cache, .int .i64 (a : Int), .int .i64 ((a + (pg l a).sz : Nat) : Int)]
def blk0 : Value := .agg #[.int .i64 0, .int .i64 0, .int .i64 0, .int .i64 0, .int .i64 0]
theorem lt_of_block {w : World} {K : Nat} {o : Obj} (h : w.heap[K]? = some o) : K < w.heap.size := (Array.getElem?_eq_some_iff.1 h).1
theorem self_free {w : World} {K : Nat} {cs : Array Value} {t : TypeId} (h : w.heap[K]? = some (.cells cs t (0, 0))) (j : Nat) : w.frozen? ⟨K, j, none⟩ = false := by
  unfold World.frozen?
  dsimp only
  rw [h]
  simp
theorem self_cell {w : World} {K : Nat} {cs : Array Value} {t : TypeId} {fr : Nat × Nat} (h : w.heap[K]? = some (.cells cs t fr)) (j : Nat) (u : Value) (hu : cs[j]? = some u) : w.cell? ⟨K, j, none⟩ = some u := by
  unfold World.cell?
  dsimp only
  rw [h]
  exact hu
theorem self3 {w : World} {K : Nat} {a b c : Value} {t : TypeId} {fr : Nat × Nat} (h : w.heap[K]? = some (.cells #[a, b, c] t fr)) : w.cell? ⟨K, 0, none⟩ = some a ∧ w.cell? ⟨K, 1, none⟩ = some b ∧ w.cell? ⟨K, 2, none⟩ = some c :=
  ⟨self_cell h 0 _ rfl, self_cell h 1 _ rfl, self_cell h 2 _ rfl⟩
theorem self5 {w : World} {K : Nat} {a b c d e : Value} {t : TypeId} {fr : Nat × Nat} (h : w.heap[K]? = some (.cells #[a, b, c, d, e] t fr)) : w.cell? ⟨K, 0, none⟩ = some a ∧ w.cell? ⟨K, 1, none⟩ = some b ∧ w.cell? ⟨K, 2, none⟩ = some c ∧ w.cell? ⟨K, 3, none⟩ = some d ∧ w.cell? ⟨K, 4, none⟩ = some e :=
  ⟨self_cell h 0 _ rfl, self_cell h 1 _ rfl, self_cell h 2 _ rfl, self_cell h 3 _ rfl, self_cell h 4 _ rfl⟩
theorem heap_low2 (w : World) (o o' : Obj) : ((w.alloc o).alloc o').heap[w.heap.size]? = some o := by
  rw [Below.heap_alloc _ _ _ (by rw [size_alloc]; omega)]
  exact heap_new w o
theorem heap_new2 (w : World) (o o' : Obj) : ((w.alloc o).alloc o').heap[w.heap.size + 1]? = some o' := by rw [← size_alloc w o]; exact heap_new _ _
theorem ret_blk {v v' : Value} {b : Bool} (h : v = v') : Ending.returned (.tuple #[v, .bool b]) = .returned (.tuple #[v', .bool b]) := by rw [h]
theorem resStart : Try.f93.results = #[.cell 4 116, .tmp 5] := rfl
theorem sz_of {l : List Pg} {a : Nat} {k o c : Int} {S : Nat} (hp : pg l a = ⟨k, o, c⟩) (hS : (2 : Int) ^ o.toNat = (S : Int)) : (pg l a).sz = S := by
  have h := Pg.sz_int (p := pg l a)
  rw [hp] at h ⊢
  dsimp only at h
  rw [hS] at h
  omega
theorem res_start (w : World) (tmps : Array Value) (K : Nat) (a b c d e : Int) (q : Bool) (h4 : tmps[4]?.getD undef = .pointer (some ⟨K, 0, none⟩)) (h5 : tmps[5]?.getD undef = .bool q) (h : w.heap[K]? = some (.cells #[.int .i64 a, .int .i64 b, .int .i64 c, .int .i64 d, .int .i64 e] 116)) :
    (results Try.f93 tmps).run Try.prog w = .ok (.tuple #[.agg #[.int .i64 a, .int .i64 b, .int .i64 c, .int .i64 d, .int .i64 e], .bool q]) w := by
  obtain ⟨r0, r1, r2, r3, r4⟩ := self5 h
  simp [results, resStart, go_sem, h4, h5, r0, r1, r2, r3, r4]
/-- the pages behind a head that have been looked at are inside ones -/
def Ins (l : List Pg) (a n : Nat) : Prop := ∀ j, a < j → j < a + n → pg l j = pin
theorem Ins.zero (l : List Pg) (a : Nat) : Ins l a 1 := fun j h1 h2 => by omega
theorem Ins.more {l : List Pg} {a n : Nat} (h : Ins l a n) (h1 : pg l (a + n) = pin) : Ins l a (n + 1) := fun j h2 h3 => by
  by_cases e : j = a + n
  · rw [e]; exact h1
  · exact h j h2 (by omega)
theorem cells_set {w : World} {K : Nat} {cs : Array Value} {t : TypeId} (h : w.heap[K]? = some (.cells cs t (0, 0))) (j : Nat) (u : Value) : (w.setCell ⟨K, j, none⟩ u).heap[K]? = some (.cells (cs.setIfInBounds j u) t (0, 0)) := by
  have hlt := lt_of_block h
  have h' : w.heap[K] = .cells cs t (0, 0) := by simpa [Array.getElem?_eq_getElem hlt] using h
  show (w.heap.modify K _)[K]? = _
  rw [Array.getElem?_eq_getElem (by simpa using hlt), Array.getElem_modify_self, h']
  rfl
/-- all five cells of a block are written -/
theorem sets_block {w : World} {K : Nat} {a b c d e a' b' c' d' e' : Value} {t : TypeId} (h : w.heap[K]? = some (.cells #[a, b, c, d, e] t (0, 0))) :
    (((((w.setCell ⟨K, 0, none⟩ a').setCell ⟨K, 1, none⟩ b').setCell ⟨K, 2, none⟩ c').setCell ⟨K, 3, none⟩ d').setCell ⟨K, 4, none⟩ e').heap[K]? = some (.cells #[a', b', c', d', e'] t (0, 0)) :=
  cells_set (cells_set (cells_set (cells_set (cells_set h 0 _) 1 _) 2 _) 3 _) 4 _
theorem below_sets {n : Nat} {w0 w : World} (h : Below n w0 w) {a' b' c' d' e' : Value} {K : Nat} (hK : n ≤ K := by exact Nat.le_refl _) :
    Below n w0 (((((w.setCell ⟨K, 0, none⟩ a').setCell ⟨K, 1, none⟩ b').setCell ⟨K, 2, none⟩ c').setCell ⟨K, 3, none⟩ d').setCell ⟨K, 4, none⟩ e') :=
  ((((h.setCell (p := ⟨K, 0, none⟩) hK _).setCell (p := ⟨K, 1, none⟩) hK _).setCell (p := ⟨K, 2, none⟩) hK _).setCell (p := ⟨K, 3, none⟩) hK _).setCell (p := ⟨K, 4, none⟩) hK _

set_option maxHeartbeats 4000000 in
set_option maxRecDepth 100000 in
theorem cStarting (u : Value) (l : List Pg) (a : Nat) (hl : l.length ≤ 1024) (ha : a < l.length) (w : World) (hs : ShowP w u l) :
    Calls Try.prog 93 #[u, .int .i64 a] w fun e w' => ((Starts l a ∧ e = .returned (.tuple #[blkV l a, .bool true])) ∨ (¬ Starts l a ∧ e = .returned (.tuple #[blk0, .bool false]))) ∧ Below w.heap.size w w' := by
  obtain ⟨ao, cap, rfl, hcap, hat⟩ := hs.form
  obtain ⟨b, o, rfl, c0, c1, c2⟩ := hat a ha
  obtain ⟨p, hp⟩ : ∃ p, pg l a = p := ⟨_, rfl⟩
  rw [hp] at c0 c1 c2
  obtain ⟨kd, od, ch⟩ := p
  dsimp only at c0 c1 c2
  have HAT := Lib.hid hat
  have HP := Lib.hid hp
  have HSH := Lib.hid hs
  clear hat hp hs
  obtain ⟨q, hq⟩ : ∃ q, (⟨kd, od, ch⟩ : Pg).ok = q := ⟨_, rfl⟩
  have HQ := Lib.hid hq
  clear hq
  have hW0 := heap_low2 w (.cells #[.int .i64 0, .int .i64 0, .int .i64 0, .int .i64 0, .int .i64 0] 116) (.cells #[.int .i64 kd, .int .i64 od, .int .i64 ch] 99)
  have hW1 := heap_new2 w (.cells #[.int .i64 0, .int .i64 0, .int .i64 0, .int .i64 0, .int .i64 0] 116) (.cells #[.int .i64 kd, .int .i64 od, .int .i64 ch] 99)
  have hB0 : Below w.heap.size w ((w.alloc (.cells #[.int .i64 0, .int .i64 0, .int .i64 0, .int .i64 0, .int .i64 0] 116)).alloc (.cells #[.int .i64 kd, .int .i64 od, .int .i64 ch] 99)) := below_one (below_one (Below.refl _ _) _) _
  have hz0 : ((w.alloc (.cells #[.int .i64 0, .int .i64 0, .int .i64 0, .int .i64 0, .int .i64 0] 116)).alloc (.cells #[.int .i64 kd, .int .i64 od, .int .i64 ch] 99)).heap.size = w.heap.size + 1 + 1 := by rw [size_alloc, size_alloc]
  have HW0 := Lib.hid hW0
  have HW1 := Lib.hid hW1
  have HB0 := Lib.hid hB0
  have HZ0 := Lib.hid hz0
  have hb1 : Below w.heap.size w (w.alloc (.cells #[.int .i64 0, .int .i64 0, .int .i64 0, .int .i64 0, .int .i64 0] 116)) := below_one (Below.refl _ _) _
  have d0 := cell_keep hb1 c0
  have d1 := cell_keep hb1 c1
  have d2 := cell_keep hb1 c2
  clear hW0 hW1 hB0 hz0 hb1 c0 c1 c2
  go_enter Try.func93, Try.ntmps93
  go_wp2_with fail
  refine (cIsHead kd od ch q HQ.out _).mono ?_
  rintro e w1 ⟨rfl, hb1⟩
  have hB1 : Below w.heap.size w w1 := below_then HB0.out hb1
  have hR : w1.heap[w.heap.size]? = some (.cells #[.int .i64 0, .int .i64 0, .int .i64 0, .int .i64 0, .int .i64 0] 116) := (hb1.block _ (lt_of_block HW0.out)).trans HW0.out
  have hH : w1.heap[w.heap.size + 1]? = some (.cells #[.int .i64 kd, .int .i64 od, .int .i64 ch] 99) := (hb1.block _ (lt_of_block HW1.out)).trans HW1.out
  have HR := Lib.hid hR
  have HH := Lib.hid hH
  have hs1 : ShowP w1 (.slice (some ⟨b, o, none⟩) l.length cap) l := HSH.out.below hB1
  have HS1 := Lib.hid hs1
  have HB1 := Lib.hid hB1
  obtain ⟨r0, r1, r2, r3, r4⟩ := self5 hR
  have f0 := self_free hR 0
  have f1 := self_free hR 1
  have f2 := self_free hR 2
  have f3 := self_free hR 3
  have f4 := self_free hR 4
  obtain ⟨g0, g1, g2⟩ := self3 hH
  have hlt := lt_of_block hH
  clear hb1 hR hH hs1 hB1 d0 d1 d2
  cases q
  · have HN : Hid (¬ Starts l a) := Lib.hid (fun h => by have := h.head; rw [HP.out, HQ.out] at this; cases this)
    go_wp2
    refine bodyPost_ret (res_start _ _ w.heap.size 0 0 0 0 0 false rfl rfl ?_) rfl ⟨.inr ⟨HN.out, rfl⟩, below_sets HB1.out⟩
    exact sets_block HR.out
  have ho := (Pg.ok_iff.1 HQ.out).1
  dsimp only at ho
  obtain ⟨ho0, ho1⟩ := ho
  obtain ⟨S, hS⟩ : ∃ S : Nat, (2 : Int) ^ od.toNat = (S : Int) := ⟨2 ^ od.toNat, by simp⟩
  have hsz := sz_of HP.out hS
  have hSS : 1 ≤ S ∧ S ≤ 1024 := by
    rw [← hsz]
    exact ⟨Pg.sz_pos _, Pg.sz_le (by rw [HP.out]; exact HQ.out)⟩
  have HSZ := Lib.hid hsz
  have HSZ' : Hid ((⟨kd, od, ch⟩ : Pg).sz = S) := Lib.hid (by rw [← HP.out]; exact hsz)
  have HS := Lib.hid hS
  obtain ⟨q2, hq2⟩ : ∃ q2, decide (0 ≤ (a : Int) ∧ (a : Int) + S ≤ l.length ∧ (a : Int).toNat % S = 0) = q2 := ⟨_, rfl⟩
  have HQ2 := Lib.hid hq2
  clear hsz hS hq2
  go_wp2_with fail
  refine (cFits l.length a od S q2 ho0 ho1 HS.out hSS hl HQ2.out _).mono ?_
  rintro e w' ⟨rfl, rfl⟩
  cases q2
  · have HN : Hid (¬ Starts l a) := Lib.hid (fun h => by
      refine of_decide_eq_false HQ2.out ⟨by omega, ?_, ?_⟩
      · have := h.fits; rw [HSZ.out] at this; omega
      · have := h.mult; rw [HSZ.out] at this; simpa using this)
    go_wp2
    refine bodyPost_ret (res_start _ _ w.heap.size 0 0 0 0 0 false rfl rfl ?_) rfl ⟨.inr ⟨HN.out, rfl⟩, below_sets HB1.out⟩
    exact sets_block HR.out
  obtain ⟨_, hfit, hmult⟩ := of_decide_eq_true HQ2.out
  rw [Int.toNat_natCast] at hmult
  have HMU := Lib.hid hmult
  have hfit2 : a + S ≤ l.length := by omega
  clear hmult hfit
  go_wp2_with (go_at_call 100; refine (cPages od S ho0 ho1 HS.out hSS.2 _).mono ?_; rintro e w' ⟨rfl, rfl⟩)
  all_goals
    obtain ⟨M, hM⟩ : ∃ M, a + S - (a + 1) = M := ⟨_, rfl⟩
    rw [hM]
    have HM : Hid (M + 1 = S) := Lib.hid (by omega)
    have hM2 : M ≤ 1024 := by omega
    clear hM
    go_loopw [38] (fun i wr => ∃ k : Nat, k ≤ M ∧ i = .int .i64 k ∧ Hid (Ins l a (k + 1)) ∧ Below w'.heap.size w' wr) (fun i _ => M - (intOf i).toNat)
    case atStart => exact ⟨0, by omega, rfl, Lib.hid (Ins.zero l a), Below.refl _ _⟩
    case round =>
      obtain ⟨k, hk, rfl, HI, hb⟩ := hrel
      have HRw := Lib.hid ((hb.block _ (lt_of_block HR.out)).trans HR.out)
      have HHw := Lib.hid ((hb.block _ (lt_of_block HH.out)).trans HH.out)
      obtain ⟨r0, r1, r2, r3, r4⟩ := self5 HRw.out
      have f0 := self_free HRw.out 0
      have f1 := self_free HRw.out 1
      have f2 := self_free HRw.out 2
      have f3 := self_free HRw.out 3
      have f4 := self_free HRw.out 4
      obtain ⟨g0, g1, g2⟩ := self3 HHw.out
      have hlt2 := lt_of_block HHw.out
      have HBw := Lib.hid (below_then HB1.out hb)
      by_cases hkM : k < M
      · try (exfalso; have := HM.out; omega)
        all_goals
          obtain ⟨b', o', e', x0, x1, x2⟩ := HAT.out (a + (k + 1)) (by have := HM.out; omega)
          have hbw := HBw.out
          replace x0 := cell_keep hbw x0
          replace x1 := cell_keep hbw x1
          replace x2 := cell_keep hbw x2
          cases e'
          have ea : o + (a + (k + 1)) * 3 = o + (a + 1) * 3 + k * 3 := by omega
          rw [ea] at x0 x1 x2
          have HY : Hid (pg l (a + (k + 1)) = pin → Ins l a (k + 1 + 1)) := Lib.hid (fun h => HI.out.more h)
          have HN : Hid (pg l (a + (k + 1)) ≠ pin → ¬ Starts l a) := Lib.hid (fun h hs => h (hs.ins _ (by omega) (by rw [HSZ.out]; have := HM.out; omega)))
          generalize pg l (a + (k + 1)) = p at x0 x1 x2 HY HN
          have hgd := guardP
          by_cases hp : p = pin
          · have heq : ∀ w', (Op.equalIn 10000 99 (.agg #[.int .i64 p.kind, .int .i64 p.order, .int .i64 p.cache]) (.agg #[.int .i64 1, .int .i64 0, .int .i64 0])).run Try.prog w' = .ok true w' := fun w' => eqinIs (d := pin) (decide_eq_true hp)
            have HY1 := Lib.hid (HY.out hp)
            clear HY HN hp ea hbw
            go_wp2
            go_roundw
            case rel => exact ⟨k + 1, by omega, by go_num, HY1, below_one hb _⟩
            case measure => simp [intOf]; omega
          · have heq : ∀ w', (Op.equalIn 10000 99 (.agg #[.int .i64 p.kind, .int .i64 p.order, .int .i64 p.cache]) (.agg #[.int .i64 1, .int .i64 0, .int .i64 0])).run Try.prog w' = .ok false w' := fun w' => eqinIs (d := pin) (decide_eq_false hp)
            have HN1 := Lib.hid (HN.out hp)
            clear HY HN hp ea hbw
            clear r0 r1 r2 r3 r4 f0 f1 f2 f3 f4
            have HRa := ((below_one (Below.refl _ wr) (.cells #[.int .i64 p.kind, .int .i64 p.order, .int .i64 p.cache] 99)).block _ (lt_of_block HRw.out)).trans HRw.out
            obtain ⟨r0, r1, r2, r3, r4⟩ := self5 HRa
            have f0 := self_free HRa 0
            have f1 := self_free HRa 1
            have f2 := self_free HRa 2
            have f3 := self_free HRa 3
            have f4 := self_free HRa 4
            have HRA := Lib.hid HRa
            have HBA := Lib.hid (below_one HBw.out (.cells #[.int .i64 p.kind, .int .i64 p.order, .int .i64 p.cache] 99))
            clear HRa
            go_wp2
            refine bodyPost_ret (res_start _ _ w.heap.size 0 0 0 0 0 false rfl rfl ?_) rfl ⟨.inr ⟨HN1.out, rfl⟩, below_sets HBA.out⟩
            exact sets_block HRA.out
      · obtain rfl : k = M := by omega
        have HST : Hid (Starts l a) := Lib.hid ⟨by rw [HP.out]; exact HQ.out, by rw [HSZ.out]; exact HMU.out, by rw [HSZ.out]; exact hfit2, by rw [HSZ.out, ← HM.out]; exact HI.out⟩
        go_wp2
        refine bodyPost_ret (res_start _ _ w.heap.size kd od ch a ((a : Int) + (S : Int)) true rfl rfl ?_) rfl ⟨.inl ⟨HST.out, ?_⟩, below_sets HBw.out⟩
        · exact sets_block HRw.out
        · unfold blkV
          rw [HP.out, HSZ'.out]
          simp
end Go.Proofs.Ytlljomnpdgmifaa
