/-
  What a Buddy is in a world; what stays when only some blocks change; its small calls.
-/
import Derived.Test.YtlljomnpdgmifaaIni
import Derived.Test.YtlljomnpdgmifaaRef
import Derived.Laws.Bits64
import Derived.IntWalk
import Derived.Outline
import Derived.Laws.MakeOwn
import Derived.Laws.CopyOwn
import Derived.Laws.Bits64b
import Derived.Deep.RegionLaw
set_option linter.unusedVariables false
set_option linter.unusedSimpArgs false
namespace Go.Proofs.Ytlljomnpdgmifaa
open Go Go.RowKit

theorem size_drewN (w : World) (n : Nat) : (w.drewN n).heap.size = w.heap.size := rfl
/-- Only these blocks change. -/
structure Kept (S : Nat → Prop) (w w' : World) : Prop where
  os : w'.os = w.os
  tape : w'.tape = w.tape
  output : w'.output = w.output
  size : w.heap.size ≤ w'.heap.size
  block : ∀ k, k < w.heap.size → ¬ S k → w'.heap[k]? = w.heap[k]?
section
variable {S T : Nat → Prop} {w w' w'' : World}
theorem Kept.refl (S : Nat → Prop) (w : World) : Kept S w w := ⟨rfl, rfl, rfl, Nat.le_refl _, fun _ _ _ => rfl⟩
theorem Kept.trans (h : Kept S w w') (k : Kept S w' w'') : Kept S w w'' :=
  ⟨k.os.trans h.os, k.tape.trans h.tape, k.output.trans h.output, Nat.le_trans h.size k.size, fun i hi hn => (k.block i (Nat.lt_of_lt_of_le hi h.size) hn).trans (h.block i hi hn)⟩
theorem Kept.drew (h : Kept S w w') : Kept S w w'.drew := ⟨h.os, h.tape, h.output, h.size, h.block⟩
theorem Kept.drewN (h : Kept S w w') (n : Nat) : Kept S w (w'.drewN n) := ⟨h.os, h.tape, h.output, h.size, h.block⟩
theorem Kept.alloc (h : Kept S w w') (o : Obj) : Kept S w (w'.alloc o) :=
  ⟨h.os, h.tape, h.output, Nat.le_trans h.size (by rw [size_alloc]; omega), fun i hi hn => (Below.heap_alloc _ _ _ (Nat.lt_of_lt_of_le hi h.size)).trans (h.block i hi hn)⟩
theorem Kept.setCell (h : Kept S w w') {p : Addr} (hp : S p.block) (u : Value) : Kept S w (w'.setCell p u) := by
  have hb := (Below.refl 0 w').setCell (p := p) (Nat.zero_le _) u
  exact ⟨hb.os.trans h.os, hb.tape.trans h.tape, hb.output.trans h.output, Nat.le_trans h.size hb.size, fun i hi hn => (Below.heap_setCell w' _ u i (fun e => hn (e ▸ hp))).trans (h.block i hi hn)⟩
theorem Kept.mono (h : Kept S w w') (hS : ∀ k, S k → T k) : Kept T w w' := ⟨h.os, h.tape, h.output, h.size, fun i hi hn => h.block i hi (fun hs => hn (hS i hs))⟩
theorem Kept.ofBelow (h : Below w.heap.size w w') : Kept S w w' := ⟨h.os, h.tape, h.output, h.size, fun i hi _ => h.block i hi⟩
theorem Kept.below {B : Nat} (h : Kept S w w') (hB : B ≤ w.heap.size) (hS : ∀ k, S k → B ≤ k) : Below B w w' :=
  ⟨h.os, h.tape, h.output, h.size, fun i hi => h.block i (Nat.lt_of_lt_of_le hi hB) (fun hs => by have := hS i hs; omega)⟩
/-- what was new and changed since is still new -/
theorem below_kept {W w w' : World} (hb : Below W.heap.size W w) (h : Kept S w w') (hS : ∀ k, S k → W.heap.size ≤ k) : Below W.heap.size W w' := hb.trans (h.below hb.size hS)
theorem row_kept {b : Nat} {t : TypeId} {n : Nat} {f : Nat → Value} (h : w.rowIs b t n f) (hk : Kept S w w') (hn : ¬ S b) : w'.rowIs b t n f := h.of_block (hk.block b h.lt hn)
theorem cell_kept {p : Addr} {u : Value} (h : w.cell? p = some u) (hk : Kept S w w') (hn : ¬ S p.block) : w'.cell? p = some u := (World.cell?_of_block (w := w) (hk.block _ (World.block_lt_of_cell? w _ h) hn)).trans h
end


/-- A Buddy at block B, its table at block g. -/
structure BudAt (w : World) (T : TypeId) (B g cap : Nat) (l : List Pg) : Prop where
  box : w.heap[B]? = some (.cells #[.slice (some ⟨g, 0, none⟩) l.length cap] T (0, 0))
  tab : TabIs w g l.length (pg l)
  cap : l.length ≤ cap ∧ cap ≤ maxLen
  ne : B ≠ g
  n1 : 1 ≤ l.length
  n2 : l.length ≤ 1024
section
variable {S : Nat → Prop} {w w' : World} {T : TypeId} {B g cap : Nat} {l : List Pg}
theorem BudAt.lt (h : BudAt w T B g cap l) : B < w.heap.size ∧ g < w.heap.size := ⟨lt_of_block h.box, h.tab.lt⟩
theorem BudAt.self (h : BudAt w T B g cap l) : w.cell? ⟨B, 0, none⟩ = some (.slice (some ⟨g, 0, none⟩) l.length cap) := self_cell h.box 0 _ rfl
theorem BudAt.shows (h : BudAt w T B g cap l) : ShowP w (.slice (some ⟨g, 0, none⟩) l.length cap) l := h.tab.shows h.cap
theorem BudAt.kept (h : BudAt w T B g cap l) (hk : Kept S w w') (hB : ¬ S B) (hg : ¬ S g) : BudAt w' T B g cap l :=
  ⟨(hk.block _ h.lt.1 hB).trans h.box, h.tab.of_block (hk.block _ h.lt.2 hg), h.cap, h.ne, h.n1, h.n2⟩
theorem BudAt.below (h : BudAt w T B g cap l) (hk : Below w.heap.size w w') : BudAt w' T B g cap l := h.kept (S := fun _ => False) (Kept.ofBelow hk) id id
/-- the table is written -/
theorem BudAt.tabbed {m : List Pg} (h : BudAt w T B g cap l) (hB : w'.heap[B]? = w.heap[B]?) (ht : TabIs w' g l.length (pg m)) (hm : m.length = l.length) : BudAt w' T B g cap m :=
  ⟨by rw [hB, hm]; exact h.box, by rw [hm]; exact ht, by rw [hm]; exact h.cap, h.ne, by rw [hm]; exact h.n1, by rw [hm]; exact h.n2⟩
end
theorem kept_set3 {S : Nat → Prop} {w0 w : World} {g : Nat} (h : Kept S w0 w) (hg : S g) (a b c : Nat) (u v x : Value) : Kept S w0 (((w.setCell ⟨g, a, none⟩ u).setCell ⟨g, b, none⟩ v).setCell ⟨g, c, none⟩ x) :=
  ((h.setCell (p := ⟨g, a, none⟩) hg u).setCell (p := ⟨g, b, none⟩) hg v).setCell (p := ⟨g, c, none⟩) hg x
theorem other_set3 {W : World} {K g : Nat} {o : Obj} (h : W.heap[K]? = some o) (hne : K ≠ g) (a b c : Nat) (u v x : Value) : (((W.setCell ⟨g, a, none⟩ u).setCell ⟨g, b, none⟩ v).setCell ⟨g, c, none⟩ x).heap[K]? = some o :=
  (Below.heap_setCell _ _ _ K hne).trans ((Below.heap_setCell _ _ _ K hne).trans ((Below.heap_setCell _ _ _ K hne).trans h))
theorem keep_block {W W' : World} {K : Nat} {o : Obj} (h : W.heap[K]? = some o) (hb : Below W.heap.size W W') : W'.heap[K]? = some o := (hb.block _ (lt_of_block h)).trans h
abbrev nms (l : List Int) : List Value := l.map (Value.int .i64)
def ShowI (w : World) (v : Value) (l : List Int) : Prop := Shows w v l.length 1 (nms l)
def pk (l : List Int) (i : Nat) : Int := l.getD i 0
theorem pk_at (l : List Int) (i : Nat) (h : i < l.length) : l[i] = pk l i := by simp [pk, h]
theorem ShowI.form {w : World} {v : Value} {l : List Int} (h : ShowI w v l) : ∃ ao cap, v = .slice ao l.length cap ∧ (l.length ≤ cap ∧ cap ≤ 9223372036854775807) ∧ ∀ i, i < l.length → ∃ b o, ao = some ⟨b, o, none⟩ ∧ w.cell? ⟨b, o + i, none⟩ = some (.int .i64 (pk l i)) := by
  obtain ⟨hl, ao, cap, hv, hc, hs⟩ := h
  refine ⟨ao, cap, hv, by unfold maxLen at hc; omega, fun i hi => ?_⟩
  obtain ⟨b, o, ha, hx⟩ := hs (by omega)
  refine ⟨b, o, ha, ?_⟩
  have := hx i (by omega)
  rw [← pk_at l i hi]
  simpa [hi] using this
theorem ShowI.below {w w' : World} {v : Value} {l : List Int} (h : ShowI w v l) (hb : Below w.heap.size w w') : ShowI w' v l := Shows.below h hb
theorem ShowI.nil (w : World) : ShowI w (.slice none 0 0) [] := Shows.nil w 1
/-- a block whose cells are listed -/
theorem lit_shows (w : World) (t : TypeId) (xs : List Value) (n : Nat) (hn : xs.length = n) (hm : n ≤ 10000) : Shows (w.alloc (.cells xs.toArray t)) (.slice (some ⟨w.heap.size, 0, none⟩) n n) n 1 xs := by
  refine ⟨by omega, _, n, rfl, by unfold maxLen; omega, fun _ => ⟨_, 0, rfl, fun j hj => ?_⟩⟩
  have hb : (w.alloc (.cells xs.toArray t)).heap[w.heap.size]? = some (.cells xs.toArray t) := heap_new _ _
  unfold World.cell?
  dsimp only
  rw [hb]
  simp
theorem lit_i (w : World) (t : TypeId) (l : List Int) (n : Nat) (hn : l.length = n) (hm : n ≤ 10000) : ShowI (w.alloc (.cells (nms l).toArray t)) (.slice (some ⟨w.heap.size, 0, none⟩) n n) l := by
  unfold ShowI
  rw [hn]
  exact lit_shows w t (nms l) n (by simp [hn]) hm
theorem own_i {w : World} {B n : Nat} {t : TypeId} {v : Value} {l : List Int} (h : w.ownsRow B t 1 v n (nms l)) : ShowI w v l := by
  have h1 := Shows.ofOwns h
  have hl : l.length = n := by have := h.1; simpa using this
  unfold ShowI
  rw [hl]
  exact h1
theorem infoI : (Try.prog.info? 3).map (fun i => (i.zero, i.size, i.bytes)) = some (some (.int .i64 0), 1, 8) := by kernel_rfl
def bring (x : Int) (n : Nat) : Nat := (x % n).toNat
theorem bring_lt (x : Int) (n : Nat) (h1 : 1 ≤ n) : bring x n < n := by
  have := Int.emod_lt_of_pos x (b := (n : Int)) (by omega)
  have := Int.emod_nonneg x (b := (n : Int)) (by omega)
  unfold bring
  omega
theorem bring_int (x : Int) (n : Nat) (h1 : 1 ≤ n) : (bring x n : Int) = x % n := by
  have := Int.emod_nonneg x (b := (n : Int)) (by omega)
  unfold bring
  omega
/-- from the remainder that Go takes -/
theorem emod_of_tmod (x : Int) (n : Nat) (h1 : 1 ≤ n) : x % n = if x.tmod n < 0 then x.tmod n + n else x.tmod n := by
  have hl : x.tmod n < n := Int.tmod_lt_of_pos _ (by omega)
  have hg : -(n : Int) < x.tmod n := by
    have := Int.tmod_lt_of_pos (-x) (b := (n : Int)) (by omega)
    rw [Int.neg_tmod] at this
    omega
  have he : x = x.tmod n + n * (x.tdiv n) := (Int.tmod_add_mul_tdiv x n).symm
  have h2 : x % n = (x.tmod n) % n := by
    conv => lhs; rw [he]
    rw [Int.add_mul_emod_self_left]
  rw [h2]
  split
  · rw [← Int.add_emod_right, Int.emod_eq_of_lt (by omega) (by omega)]
  · rw [Int.emod_eq_of_lt (by omega) (by omega)]
theorem tmod_range (x : Int) (n : Nat) (h1 : 1 ≤ n) : x.tmod n < n ∧ -(n : Int) < x.tmod n := by
  refine ⟨Int.tmod_lt_of_pos _ (by omega), ?_⟩
  have := Int.tmod_lt_of_pos (-x) (b := (n : Int)) (by omega)
  rw [Int.neg_tmod] at this
  omega
set_option maxHeartbeats 1000000 in
theorem cBring (x : Int) (n : Nat) (w : World) (h1 : 1 ≤ n) (h2 : n ≤ 1099511627776) :
    Calls Try.prog 14 #[.int .i64 x, .int .i64 n] w fun e w' => e = .returned (.int .i64 (bring x n)) ∧ w' = w := by
  obtain ⟨hl, hg⟩ := tmod_range x n h1
  have HB : Hid ((bring x n : Int) = if x.tmod n < 0 then x.tmod n + n else x.tmod n) := Lib.hid (by rw [bring_int x n h1, emod_of_tmod x n h1])
  by_cases hx : 0 ≤ x
  · have h0 : 0 ≤ x % n := Int.emod_nonneg _ (by omega)
    have h3 : x % n < n := Int.emod_lt_of_pos _ (by omega)
    have HB2 : Hid ((bring x n : Int) = x % n) := Lib.hid (bring_int x n h1)
    clear hl hg HB
    go_enter Try.func14, Try.ntmps14
    go_wp2
    go_ret
    exact ⟨(ret_int HB2.out).symm, rfl⟩
  · by_cases h4 : x.tmod n < 0
    · have HB2 : Hid ((bring x n : Int) = x.tmod n + n) := Lib.hid (by rw [HB.out, if_pos h4])
      clear HB
      go_enter Try.func14, Try.ntmps14
      go_wp2
      go_ret
      exact ⟨(ret_int HB2.out).symm, rfl⟩
    · have HB2 : Hid ((bring x n : Int) = x.tmod n) := Lib.hid (by rw [HB.out, if_neg h4])
      clear HB
      go_enter Try.func14, Try.ntmps14
      go_wp2
      go_ret
      exact ⟨(ret_int HB2.out).symm, rfl⟩

theorem pow_int (o S : Nat) (h : 2 ^ o = S) : (2 : Int) ^ o = (S : Int) := by rw [← h]; simp
set_option maxHeartbeats 1000000 in
theorem cBPages (o S : Nat) (ho : o ≤ 10) (hS : 2 ^ o = S) (w : World) :
    Calls Try.prog 74 #[.int .i64 o] w fun e w' => e = .returned (.int .i64 S) ∧ w' = w := by
  have hSi : (2 : Int) ^ o = (S : Int) := pow_int o S hS
  have hS1 : S ≤ 1024 := by rw [← hS]; exact (pow_le o ho).2
  clear hS
  go_enter Try.func74, Try.ntmps74
  go_wp2
  go_ret
  exact ⟨rfl, rfl⟩
theorem resFreeHead : Try.f65.results = #[.cell 2 99] := rfl
theorem res_freeHead (w : World) (tmps : Array Value) (K : Nat) (a b c : Int) (h2 : tmps[2]?.getD undef = .pointer (some ⟨K, 0, none⟩)) (h : w.heap[K]? = some (.cells #[.int .i64 a, .int .i64 b, .int .i64 c] 99 (0, 0))) :
    (results Try.f65 tmps).run Try.prog w = .ok (.agg #[.int .i64 a, .int .i64 b, .int .i64 c]) w := by
  obtain ⟨r0, r1, r2⟩ := self3 h
  simp [results, resFreeHead, go_sem, h2, r0, r1, r2]
theorem sets3_block {w : World} {K : Nat} {a b c a' b' c' : Value} {t : TypeId} (h : w.heap[K]? = some (.cells #[a, b, c] t (0, 0))) :
    (((w.setCell ⟨K, 0, none⟩ a').setCell ⟨K, 1, none⟩ b').setCell ⟨K, 2, none⟩ c').heap[K]? = some (.cells #[a', b', c'] t (0, 0)) := by
  have := cells_set (cells_set (cells_set h 0 a') 1 b') 2 c'
  simpa using this
set_option maxHeartbeats 1000000 in
theorem cFreeHead (o : Int) (w : World) :
    Calls Try.prog 65 #[.int .i64 o] w fun e w' => e = .returned (.agg #[.int .i64 0, .int .i64 o, .int .i64 0]) ∧ Below w.heap.size w w' := by
  go_enter Try.func65, Try.ntmps65
  go_wp2
  refine bodyPost_ret (res_freeHead _ _ w.heap.size 0 o 0 rfl ?_) rfl ⟨rfl, ?_⟩
  · exact heap_new _ _
  · exact below_one (Below.refl _ _) _
theorem xor_nat (a b : Nat) (ha : a < 4096) (hb : b < 4096) : Go.bits .xor .i64 (a : Int) (b : Int) = ((a ^^^ b : Nat) : Int) := by
  have hx : a ^^^ b < 2 ^ 12 := Nat.xor_lt_two_pow (by omega) (by omega)
  have h1 : (BitVec.ofInt 64 (a : Int)).toNat = a := by
    rw [BitVec.ofInt_natCast, BitVec.toNat_ofNat]; exact Nat.mod_eq_of_lt (by omega)
  have h2 : (BitVec.ofInt 64 (b : Int)).toNat = b := by
    rw [BitVec.ofInt_natCast, BitVec.toNat_ofNat]; exact Nat.mod_eq_of_lt (by omega)
  show IntKind.i64.wrap ((BitVec.ofInt 64 (a : Int) ^^^ BitVec.ofInt 64 (b : Int)).toNat : Int) = _
  rw [BitVec.toNat_xor, h1, h2]
  exact IntWalk.i64_in _ (by omega)
theorem xor_one_even (x : Nat) : (2 * x) ^^^ 1 = 2 * x + 1 := by
  have h1 : ((2 * x) ^^^ 1) % 2 ^ 1 = 1 := by rw [Nat.xor_mod_two_pow]; simp
  have h2 : ((2 * x) ^^^ 1) / 2 ^ 1 = x := by rw [Nat.xor_div_two_pow]; simp
  omega
theorem xor_up {q o : Nat} (h : q % 2 ^ (o + 1) = 0) : q ^^^ 2 ^ o = q + 2 ^ o := by
  have hp := pow_two_pos o
  obtain ⟨x, rfl⟩ := Nat.dvd_of_mod_eq_zero h
  have e : 2 ^ (o + 1) * x = 2 ^ o * (2 * x) := by rw [Nat.pow_succ, Nat.mul_assoc]
  rw [e]
  have h1 : ((2 ^ o * (2 * x)) ^^^ 2 ^ o) % 2 ^ o = 0 := by rw [Nat.xor_mod_two_pow]; simp
  have h2 : ((2 ^ o * (2 * x)) ^^^ 2 ^ o) / 2 ^ o = 2 * x + 1 := by
    rw [Nat.xor_div_two_pow, Nat.mul_div_cancel_left _ (by omega), Nat.div_self (by omega)]
    exact xor_one_even x
  have h3 := Nat.div_add_mod ((2 ^ o * (2 * x)) ^^^ 2 ^ o) (2 ^ o)
  rw [h1, h2, Nat.mul_add, Nat.mul_one] at h3
  omega
theorem xor_bud {p o : Nat} (h : p % 2 ^ o = 0) : p ^^^ 2 ^ o = bud p o := by
  rcases bud_cases h with ⟨h1, h2⟩ | ⟨q, h1, h2, h3, _⟩
  · rw [h2]
    exact xor_up h1
  · rw [h3, h2, ← xor_up h1, Nat.xor_assoc, Nat.xor_self, Nat.xor_zero]
set_option maxHeartbeats 1000000 in
theorem cBuddyOf (p o S b : Nat) (ho : o ≤ 10) (hS : 2 ^ o = S) (hp : p ≤ 1024) (hm : p % 2 ^ o = 0) (hb : bud p o = b) (w : World) :
    Calls Try.prog 63 #[.int .i64 p, .int .i64 o] w fun e w' => e = .returned (.int .i64 b) ∧ w' = w := by
  have hS1 : S ≤ 1024 := by rw [← hS]; exact (pow_le o ho).2
  have hx : Go.bits .xor .i64 (p : Int) (S : Int) = (b : Int) := by rw [xor_nat p S (by omega) (by omega), ← hS, xor_bud hm, hb]
  have HS := Lib.hid hS
  clear hS hm hb
  go_enter Try.func63, Try.ntmps63
  go_wp2_with (go_at_call 74; refine (cBPages o S ho HS.out _).mono ?_; rintro e w' ⟨rfl, rfl⟩)
  go_ret
  exact ⟨rfl, rfl⟩
theorem nil_pages (w : World) (n c : Nat) : (binOp .eql 54 (.pointer none) (.pointer none)).run Try.prog w = .ok (.bool true) w := by kernel_rfl
set_option maxHeartbeats 1000000 in
theorem cIsNoneNil (w : World) : Calls Try.prog 61 #[.pointer none] w fun e w' => e = .returned (.bool true) ∧ w' = w := by
  go_enter Try.func61, Try.ntmps61
  go_wp2
  go_ret
  exact ⟨rfl, rfl⟩
set_option maxHeartbeats 1000000 in
theorem cIsNoneZero (B : Nat) (w : World) (hc : w.cell? ⟨B, 0, none⟩ = some (.slice none 0 0)) : Calls Try.prog 61 #[.pointer (some ⟨B, 0, none⟩)] w fun e w' => e = .returned (.bool true) ∧ w' = w := by
  go_enter Try.func61, Try.ntmps61
  go_wp2
  go_ret
  exact ⟨rfl, rfl⟩
section
variable {w : World} {B g cap : Nat} {l : List Pg}
set_option maxHeartbeats 1000000 in
theorem cIsNone (h : BudAt w 92 B g cap l) : Calls Try.prog 61 #[.pointer (some ⟨B, 0, none⟩)] w fun e w' => e = .returned (.bool false) ∧ w' = w := by
  have hc := h.self
  have h1 := h.n1
  have h2 := h.n2
  have h3 : ((l.length : Int) == 0) = false := by rw [beq_eq_false_iff_ne]; omega
  clear h
  go_enter Try.func61, Try.ntmps61
  go_wp2
  go_ret
  exact ⟨rfl, rfl⟩
theorem keys4 {w W : World} {p0 p1 p2 p3 : Addr} {u0 u1 u2 u3 : Value} (h : w.cell? p0 = some u0 ∧ w.cell? p1 = some u1 ∧ w.cell? p2 = some u2 ∧ w.cell? p3 = some u3) (hb : Below w.heap.size w W) : W.cell? p0 = some u0 ∧ W.cell? p1 = some u1 ∧ W.cell? p2 = some u2 ∧ W.cell? p3 = some u3 ∧ Below w.heap.size w W :=
  ⟨cell_keep hb h.1, cell_keep hb h.2.1, cell_keep hb h.2.2.1, cell_keep hb h.2.2.2, hb⟩
theorem eq_free {x : Pg} {o : Int} {q : Bool} (h : decide (x = ⟨0, o, 0⟩) = q) (w : World) : (Op.equalIn 10000 99 (.agg #[.int .i64 x.kind, .int .i64 x.order, .int .i64 x.cache]) (.agg #[.int .i64 0, .int .i64 o, .int .i64 0])).run Try.prog w = .ok q w := eqinIs (c := x) (d := (⟨0, o, 0⟩ : Pg)) h
set_option maxHeartbeats 2000000 in
set_option maxRecDepth 100000 in
/-- isFree, of a page of the table -/
theorem cIsFreeIn (h : BudAt w 92 B g cap l) (i : Nat) (o : Int) (q : Bool) (hi : i < l.length) (hq : decide (pg l i = ⟨0, o, 0⟩) = q) :
    Calls Try.prog 64 #[.pointer (some ⟨B, 0, none⟩), .int .i64 i, .int .i64 o] w fun e w' => e = .returned (.bool q) ∧ Below w.heap.size w w' := by
  have hc := h.self
  obtain ⟨t0, t1, t2⟩ := h.tab.cells hi
  have h2 := h.n2
  have hcap := h.cap
  have heq := fun w => eq_free hq w
  have hgd := guardP
  generalize pg l i = x at t0 t1 t2 heq
  have HC := Lib.hid (show w.cell? ⟨B, 0, none⟩ = some (.slice (some ⟨g, 0, none⟩) l.length cap) ∧ w.cell? ⟨g, i * 3, none⟩ = some (.int .i64 x.kind) ∧ w.cell? ⟨g, i * 3 + 1, none⟩ = some (.int .i64 x.order) ∧ w.cell? ⟨g, i * 3 + 2, none⟩ = some (.int .i64 x.cache) from ⟨hc, t0, t1, t2⟩)
  have hdec : decide (i < l.length) = true := decide_eq_true hi
  clear h hq
  unfold maxLen at hcap
  go_enter Try.func64, Try.ntmps64
  go_wp2
  go_region_held3 (fun W => W.cell? ⟨B, 0, none⟩ = some (.slice (some ⟨g, 0, none⟩) l.length cap) ∧ W.cell? ⟨g, i * 3, none⟩ = some (.int .i64 x.kind) ∧ W.cell? ⟨g, i * 3 + 1, none⟩ = some (.int .i64 x.order) ∧ W.cell? ⟨g, i * 3 + 2, none⟩ = some (.int .i64 x.cache) ∧ Below w.heap.size w W)
    (first | exact ⟨HC.out.1, HC.out.2.1, HC.out.2.2.1, HC.out.2.2.2, Below.drew (Below.refl _ _)⟩ | exact keys4 HC.out (by assumption))
    (first
      | (go_at_call 65; refine (cFreeHead o _).mono ?_; rintro e w3 ⟨rfl, h3⟩; have hb4 : Below w.heap.size w w3 := below_then (show _ ∧ _ ∧ _ ∧ _ ∧ Below w.heap.size w _ from by assumption).2.2.2.2 h3))
  all_goals go_wp2
  all_goals go_ret
  all_goals exact ⟨rfl, (show _ ∧ _ ∧ _ ∧ _ ∧ Below w.heap.size w _ from by assumption).2.2.2.2⟩
set_option maxHeartbeats 1000000 in
set_option maxRecDepth 100000 in
/-- isFree, beyond the table -/
theorem cIsFreeOut (h : BudAt w 92 B g cap l) (i : Nat) (o : Int) (hi : l.length ≤ i) :
    Calls Try.prog 64 #[.pointer (some ⟨B, 0, none⟩), .int .i64 i, .int .i64 o] w fun e w' => e = .returned (.bool false) ∧ Below w.heap.size w w' := by
  have hc := h.self
  have h2 := h.n2
  have hdec : decide (i < l.length) = false := decide_eq_false (by omega)
  clear h
  go_enter Try.func64, Try.ntmps64
  go_wp2
  go_quiet (fail)
  go_wp2
  go_ret
  exact ⟨rfl, below_drewN (Below.refl _ _) _⟩
/-- isFree: the block of an order at a page -/
theorem cIsFree (h : BudAt w 92 B g cap l) (i o : Nat) (q : Bool) (hq : isF l i o = q) :
    Calls Try.prog 64 #[.pointer (some ⟨B, 0, none⟩), .int .i64 i, .int .i64 o] w fun e w' => e = .returned (.bool q) ∧ Below w.heap.size w w' := by
  by_cases hi : i < l.length
  · exact cIsFreeIn h i o q hi (by rw [← hq]; unfold isF fh; simp [hi])
  · obtain rfl : q = false := by rw [← hq]; unfold isF; simp [hi]
    exact cIsFreeOut h i o (by omega)
end

theorem own_ge {w : World} {B n : Nat} {t : TypeId} {k : Nat} {v : Value} {xs : List Value} (h : w.ownsRow B t k v n xs) : ∀ j, v.ownBlock = some j → B ≤ j := by
  intro j ej
  rcases h.2 with ⟨rfl, _⟩ | ⟨g, cap, cur, rfl, hb, _, _⟩
  · simp [Value.ownBlock] at ej
  · obtain rfl : g = j := by simpa [Value.ownBlock] using ej
    exact hb
theorem own_below {W W' : World} {B n size : Nat} {e : TypeId} {v : Value} {xs : List Value} (h : W.ownsRow B e size v n xs) (hb : Below W.heap.size W W') : W'.ownsRow B e size v n xs := by
  refine h.kept (grown_of_below (row := none) hb (Nat.le_refl _)) ?_
  cases hv : v.ownBlock with
  | none => exact .inl rfl
  | some k => exact .inr (by simp)
section
variable {w : World} {B g cap : Nat} {l : List Pg}
end

theorem own_shape {w : World} {B n k : Nat} {t : TypeId} {v : Value} {xs : List Value} (h : w.ownsRow B t k v n xs) : ∃ a c, v = .slice a n c ∧ n ≤ c ∧ c ≤ 9223372036854775807 := by
  rcases h.2 with ⟨rfl, rfl⟩ | ⟨g, cap, cur, rfl, hb, hg, hc, hm, _⟩
  · exact ⟨none, 0, rfl, Nat.le_refl _, by omega⟩
  · exact ⟨_, cap, rfl, hc, by unfold maxLen at hm; omega⟩
section
variable {w : World} {B g cap : Nat} {l : List Pg}
end

theorem plain_add (b o j : Nat) : (⟨b, o, none⟩ : Addr).add j = ⟨b, o + j, none⟩ := by
  by_cases h0 : j = 0
  · subst h0; rfl
  · simp [Addr.add, h0]
end Go.Proofs.Ytlljomnpdgmifaa
