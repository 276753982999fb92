/-
  What a memory is in a world, of the program and of the document's answer; what stays when only some blocks change.
-/
import Derived.Test.YtkcogdojohlpcaaRows
import Derived.WalkKit
import Derived.ProofKit
import Derived.OpenShut
import Derived.Below
import Derived.Outline
import Derived.Lib.Hide
import Derived.Laws.Rows
import Derived.WalkLawsBesides
import Derived.OwnWalk
import Derived.Laws.OwnMore
import Derived.Laws.AppendOwn
import Derived.Deep.QuietTactic
import Derived.BigQuiet
import Derived.WalkSmall
import Derived.BigCall
import Derived.Deep.RegionHeld3
import Derived.Deep.Slices
import Derived.Deep.OwnRows
set_option linter.unusedVariables false
set_option linter.unusedSimpArgs false
namespace Go.Proofs.Ytkcogdojohlpcaa
open Go Go.RowKit

theorem size_alloc (w : World) (o : Obj) : (w.alloc o).heap.size = w.heap.size + 1 := Array.size_push _
theorem heap_new (w : World) (o : Obj) : (w.alloc o).heap[w.heap.size]? = some o := Array.getElem?_push_size
theorem below_one {w wr : World} (hb : Below w.heap.size w wr) (o : Obj) : Below w.heap.size w (wr.alloc o) := hb.alloc hb.size o
theorem below_then {w wr w' : World} (hb : Below w.heap.size w wr) (h : Below wr.heap.size wr w') : Below w.heap.size w w' := hb.trans (h.mono hb.size)
theorem below_drewN {B : Nat} {a w : World} (h : Below B a w) (n : Nat) : Below B a (w.drewN n) := ⟨h.os, h.tape, h.output, h.size, h.block⟩
theorem size_drewN (w : World) (n : Nat) : (w.drewN n).heap.size = w.heap.size := rfl
theorem cell_keep {w w' : World} {p : Addr} {u : Value} (hb : Below w.heap.size w w') (h : w.cell? p = some u) : w'.cell? p = some u := (hb.cell (World.block_lt_of_cell? w _ h)).trans h
theorem ret_int {a b : Int} (h : a = b) : Ending.returned (.int .i64 a) = .returned (.int .i64 b) := by rw [h]
theorem ret_bool {a b : Bool} (h : a = b) : Ending.returned (.bool a) = .returned (.bool b) := by rw [h]

/-- Only these blocks change. -/
structure Kept (S : Nat → Prop) (w w' : World) : Prop where
  os : w'.os = w.os
  tape : w'.tape = w.tape
  output : w'.output = w.output
  size : w.heap.size ≤ w'.heap.size
  block : ∀ k, k < w.heap.size → ¬ S k → w'.heap[k]? = w.heap[k]?
section
variable {S T : Nat → Prop} {w w' w'' : World}
theorem Kept.refl (S : Nat → Prop) (w : World) : Kept S w w := ⟨rfl, rfl, rfl, Nat.le_refl _, fun _ _ _ => rfl⟩
theorem Kept.trans (h : Kept S w w') (k : Kept S w' w'') : Kept S w w'' :=
  ⟨k.os.trans h.os, k.tape.trans h.tape, k.output.trans h.output, Nat.le_trans h.size k.size, fun i hi hn => (k.block i (Nat.lt_of_lt_of_le hi h.size) hn).trans (h.block i hi hn)⟩
theorem Kept.drew (h : Kept S w w') : Kept S w w'.drew := ⟨h.os, h.tape, h.output, h.size, h.block⟩
theorem Kept.drewN (h : Kept S w w') (n : Nat) : Kept S w (w'.drewN n) := ⟨h.os, h.tape, h.output, h.size, h.block⟩
theorem Kept.alloc (h : Kept S w w') (o : Obj) : Kept S w (w'.alloc o) :=
  ⟨h.os, h.tape, h.output, Nat.le_trans h.size (by rw [size_alloc]; omega), fun i hi hn => (Below.heap_alloc _ _ _ (Nat.lt_of_lt_of_le hi h.size)).trans (h.block i hi hn)⟩
theorem Kept.setCell (h : Kept S w w') {p : Addr} (hp : S p.block) (u : Value) : Kept S w (w'.setCell p u) := by
  have hb := (Below.refl 0 w').setCell (p := p) (Nat.zero_le _) u
  exact ⟨hb.os.trans h.os, hb.tape.trans h.tape, hb.output.trans h.output, Nat.le_trans h.size hb.size, fun i hi hn => (Below.heap_setCell w' _ u i (fun e => hn (e ▸ hp))).trans (h.block i hi hn)⟩
theorem Kept.mono (h : Kept S w w') (hS : ∀ k, S k → T k) : Kept T w w' := ⟨h.os, h.tape, h.output, h.size, fun i hi hn => h.block i hi (fun hs => hn (hS i hs))⟩
theorem Kept.ofBelow (h : Below w.heap.size w w') : Kept S w w' := ⟨h.os, h.tape, h.output, h.size, fun i hi _ => h.block i hi⟩
theorem Kept.below {B : Nat} (h : Kept S w w') (hB : B ≤ w.heap.size) (hS : ∀ k, S k → B ≤ k) : Below B w w' :=
  ⟨h.os, h.tape, h.output, h.size, fun i hi => h.block i (Nat.lt_of_lt_of_le hi hB) (fun hs => by have := hS i hs; omega)⟩
/-- what was new and changed since is still new -/
theorem below_kept {W w w' : World} (hb : Below W.heap.size W w) (h : Kept S w w') (hS : ∀ k, S k → W.heap.size ≤ k) : Below W.heap.size W w' := hb.trans (h.below hb.size hS)
theorem row_kept {b : Nat} {t : TypeId} {n : Nat} {f : Nat → Value} (h : w.rowIs b t n f) (hk : Kept S w w') (hn : ¬ S b) : w'.rowIs b t n f := h.of_block (hk.block b h.lt hn)
theorem cell_kept {p : Addr} {u : Value} (h : w.cell? p = some u) (hk : Kept S w w') (hn : ¬ S p.block) : w'.cell? p = some u := (World.cell?_of_block (w := w) (hk.block _ (World.block_lt_of_cell? w _ h) hn)).trans h
end

/-- The cells of a memory. -/
def memF (b k n c : Nat) : Nat → Value
  | 0 => .slice (some ⟨b, 0, none⟩) n n
  | 1 => .int .i64 c
  | _ => .func (.func 24) #[] #[.pointer (some ⟨k, 0, none⟩)]
/-- A memory at block a, its words at block b, what its check has caught at block k: n words F, c accesses. -/
structure MemAt (w : World) (a b k n : Nat) (F : Nat → Int) (c : Nat) : Prop where
  self : w.rowIs a 53 3 (memF b k n c)
  words : w.rowIs b 32 n (fun i => .int .u64 (F i))
  caught : w.rowIs k 3 1 (fun _ => .int .i64 n)
  ab : a ≠ b
  ak : a ≠ k
  bk : b ≠ k
  n1 : 1 ≤ n
  n2 : n ≤ 4096
section
variable {S : Nat → Prop} {w w' : World} {a b k n c : Nat} {F G : Nat → Int}
theorem MemAt.kept (h : MemAt w a b k n F c) (hk : Kept S w w') (ha : ¬ S a) (hb : ¬ S b) (hc : ¬ S k) : MemAt w' a b k n F c :=
  ⟨row_kept h.self hk ha, row_kept h.words hk hb, row_kept h.caught hk hc, h.ab, h.ak, h.bk, h.n1, h.n2⟩
theorem MemAt.below (h : MemAt w a b k n F c) (hk : Below w.heap.size w w') : MemAt w' a b k n F c := h.kept (S := fun _ => False) (Kept.ofBelow hk) id id id
theorem MemAt.congr (h : MemAt w a b k n F c) (e : ∀ i, i < n → F i = G i) : MemAt w a b k n G c :=
  ⟨h.self, h.words.congr fun i hi => by rw [e i hi], h.caught, h.ab, h.ak, h.bk, h.n1, h.n2⟩
theorem MemAt.drewN (h : MemAt w a b k n F c) (m : Nat) : MemAt (w.drewN m) a b k n F c := ⟨h.self, h.words, h.caught, h.ab, h.ak, h.bk, h.n1, h.n2⟩
theorem MemAt.alloc (h : MemAt w a b k n F c) (o : Obj) : MemAt (w.alloc o) a b k n F c := ⟨h.self.alloc o, h.words.alloc o, h.caught.alloc o, h.ab, h.ak, h.bk, h.n1, h.n2⟩
theorem MemAt.count (h : MemAt w a b k n F c) (c' : Nat) : MemAt (w.setCell ⟨a, 1, none⟩ (.int .i64 c')) a b k n F c' :=
  ⟨(h.self.set 1 _).congr fun i hi => by
    match i, hi with
    | 0, _ => rfl
    | 1, _ => rfl
    | 2, _ => rfl, h.words.setOther h.ab.symm _, h.caught.setOther h.ak.symm _, h.ab, h.ak, h.bk, h.n1, h.n2⟩
theorem MemAt.store (h : MemAt w a b k n F c) (i : Nat) (v : Int) : MemAt (w.setCell ⟨b, i, none⟩ (.int .u64 v)) a b k n (fun j => if j = i then v else F j) c :=
  ⟨h.self.setOther h.ab _, (h.words.set i _).congr fun j _ => by by_cases e : j = i <;> simp [e], h.caught.setOther h.bk.symm _, h.ab, h.ak, h.bk, h.n1, h.n2⟩
theorem MemAt.cells (h : MemAt w a b k n F c) : w.cell? ⟨a, 0, none⟩ = some (.slice (some ⟨b, 0, none⟩) n n) ∧ w.cell? ⟨a, 1, none⟩ = some (.int .i64 c) ∧ w.cell? ⟨a, 2, none⟩ = some (.func (.func 24) #[] #[.pointer (some ⟨k, 0, none⟩)]) ∧ w.frozen? ⟨a, 1, none⟩ = false ∧ w.cell? ⟨k, 0, none⟩ = some (.int .i64 n) :=
  ⟨h.self.cell (by decide), h.self.cell (by decide), h.self.cell (by decide), h.self.frozen 1, h.caught.cell (by decide)⟩
theorem MemAt.word (h : MemAt w a b k n F c) {i : Nat} (hi : i < n) : w.cell? ⟨b, i, none⟩ = some (.int .u64 (F i)) ∧ w.frozen? ⟨b, i, none⟩ = false := ⟨h.words.cell hi, h.words.frozen i⟩
theorem MemAt.lt (h : MemAt w a b k n F c) : a < w.heap.size ∧ b < w.heap.size ∧ k < w.heap.size := ⟨h.self.lt, h.words.lt, h.caught.lt⟩
end

/-- The document's memory: its cells. -/
def refF (b n c : Nat) : Nat → Value
  | 0 => .slice (some ⟨b, 0, none⟩) n n
  | _ => .int .i64 c
structure RefAt (w : World) (a b n : Nat) (F : Nat → Int) (c : Nat) : Prop where
  self : w.rowIs a 55 2 (refF b n c)
  words : w.rowIs b 32 n (fun i => .int .u64 (F i))
  ab : a ≠ b
  n1 : 1 ≤ n
  n2 : n ≤ 4096
section
variable {S : Nat → Prop} {w w' : World} {a b n c : Nat} {F G : Nat → Int}
theorem RefAt.kept (h : RefAt w a b n F c) (hk : Kept S w w') (ha : ¬ S a) (hb : ¬ S b) : RefAt w' a b n F c := ⟨row_kept h.self hk ha, row_kept h.words hk hb, h.ab, h.n1, h.n2⟩
theorem RefAt.below (h : RefAt w a b n F c) (hk : Below w.heap.size w w') : RefAt w' a b n F c := h.kept (S := fun _ => False) (Kept.ofBelow hk) id id
theorem RefAt.congr (h : RefAt w a b n F c) (e : ∀ i, i < n → F i = G i) : RefAt w a b n G c := ⟨h.self, h.words.congr fun i hi => by rw [e i hi], h.ab, h.n1, h.n2⟩
theorem RefAt.drewN (h : RefAt w a b n F c) (m : Nat) : RefAt (w.drewN m) a b n F c := ⟨h.self, h.words, h.ab, h.n1, h.n2⟩
theorem RefAt.alloc (h : RefAt w a b n F c) (o : Obj) : RefAt (w.alloc o) a b n F c := ⟨h.self.alloc o, h.words.alloc o, h.ab, h.n1, h.n2⟩
theorem RefAt.count (h : RefAt w a b n F c) (c' : Nat) : RefAt (w.setCell ⟨a, 1, none⟩ (.int .i64 c')) a b n F c' :=
  ⟨(h.self.set 1 _).congr fun i hi => by
    match i, hi with
    | 0, _ => rfl
    | 1, _ => rfl, h.words.setOther h.ab.symm _, h.ab, h.n1, h.n2⟩
theorem RefAt.store (h : RefAt w a b n F c) (i : Nat) (v : Int) : RefAt (w.setCell ⟨b, i, none⟩ (.int .u64 v)) a b n (fun j => if j = i then v else F j) c :=
  ⟨h.self.setOther h.ab _, (h.words.set i _).congr fun j _ => by by_cases e : j = i <;> simp [e], h.ab, h.n1, h.n2⟩
theorem RefAt.cells (h : RefAt w a b n F c) : w.cell? ⟨a, 0, none⟩ = some (.slice (some ⟨b, 0, none⟩) n n) ∧ w.cell? ⟨a, 1, none⟩ = some (.int .i64 c) ∧ w.frozen? ⟨a, 1, none⟩ = false := ⟨h.self.cell (by decide), h.self.cell (by decide), h.self.frozen 1⟩
theorem RefAt.word (h : RefAt w a b n F c) {i : Nat} (hi : i < n) : w.cell? ⟨b, i, none⟩ = some (.int .u64 (F i)) ∧ w.frozen? ⟨b, i, none⟩ = false := ⟨h.words.cell hi, h.words.frozen i⟩
theorem RefAt.lt (h : RefAt w a b n F c) : a < w.heap.size ∧ b < w.heap.size := ⟨h.self.lt, h.words.lt⟩
end

/-- A slice of n elements of k cells each shows these cells. -/
def Shows (w : World) (v : Value) (n k : Nat) (xs : List Value) : Prop :=
  xs.length = n * k ∧ ∃ ao cap, v = .slice ao n cap ∧ (n ≤ cap ∧ cap ≤ maxLen) ∧ (0 < n → ∃ b o, ao = some ⟨b, o, none⟩ ∧ ∀ j, j < n * k → w.cell? ⟨b, o + j, none⟩ = xs[j]?)
theorem Shows.nil (w : World) (k : Nat) : Shows w (.slice none 0 0) 0 k [] := ⟨by simp, none, 0, rfl, ⟨Nat.le_refl _, Nat.zero_le _⟩, fun h => absurd h (Nat.lt_irrefl _)⟩
theorem Shows.keeps {w w' : World} {v : Value} {n k : Nat} {xs : List Value} (h : Shows w v n k xs) (hk : ∀ p u, w.cell? p = some u → w'.cell? p = some u) : Shows w' v n k xs := by
  obtain ⟨hl, ao, cap, hv, hc, hs⟩ := h
  refine ⟨hl, ao, cap, hv, hc, fun hn => ?_⟩
  obtain ⟨b, o, ha, hx⟩ := hs hn
  refine ⟨b, o, ha, fun j hj => ?_⟩
  have h1 := hx j hj
  have h2 : xs[j]? = some (xs[j]'(by omega)) := List.getElem?_eq_getElem (by omega)
  rw [h2] at h1
  rw [h2, hk _ _ h1]
theorem Shows.below {w w' : World} {v : Value} {n k : Nat} {xs : List Value} (h : Shows w v n k xs) (hb : Below w.heap.size w w') : Shows w' v n k xs :=
  h.keeps fun p u hp => by rw [hb.cell (World.block_lt_of_cell? w p hp), hp]
theorem Shows.ofOwns {w : World} {B n k : Nat} {e : TypeId} {v : Value} {xs : List Value} (h : w.ownsRow B e k v n xs) : Shows w v n k xs := by
  refine ⟨h.1, ?_⟩
  rcases h.2 with ⟨rfl, rfl⟩ | ⟨g, cap, cur, rfl, hb, hg, hc, hm, _⟩
  · exact ⟨none, 0, rfl, ⟨Nat.le_refl _, Nat.zero_le _⟩, fun h => absurd h (Nat.lt_irrefl _)⟩
  · refine ⟨_, cap, rfl, ⟨hc, hm⟩, fun hn => ⟨g, 0, rfl, fun j hj => ?_⟩⟩
    rw [Nat.zero_add]
    exact h.cellAt j hj
abbrev wds (l : List Int) : List Value := l.map (Value.int .u64)
def ShowU (w : World) (v : Value) (l : List Int) : Prop := Shows w v l.length 1 (wds l)
theorem ShowU.form {w : World} {v : Value} {l : List Int} (h : ShowU w v l) : ∃ ao cap, v = .slice ao l.length cap ∧ (l.length ≤ cap ∧ cap ≤ 9223372036854775807) ∧ ∀ i (hi : i < l.length), ∃ b o, ao = some ⟨b, o, none⟩ ∧ w.cell? ⟨b, o + i, none⟩ = some (.int .u64 l[i]) := by
  obtain ⟨hl, ao, cap, hv, hc, hs⟩ := h
  refine ⟨ao, cap, hv, by unfold maxLen at hc; omega, fun i hi => ?_⟩
  obtain ⟨b, o, ha, hx⟩ := hs (by omega)
  refine ⟨b, o, ha, ?_⟩
  have := hx i (by omega)
  simpa [hi] using this
theorem ShowU.below {w w' : World} {v : Value} {l : List Int} (h : ShowU w v l) (hb : Below w.heap.size w w') : ShowU w' v l := Shows.below h hb
/-- The words as a list. -/
def wl (n : Nat) (F : Nat → Int) : List Int := (List.range n).map F
theorem wl_length (n : Nat) (F : Nat → Int) : (wl n F).length = n := by simp [wl]
theorem row_shows {w : World} {b n : Nat} {t : TypeId} {F : Nat → Int} (h : w.rowIs b t n (fun i => .int .u64 (F i))) (hn : n ≤ 10000) : ShowU w (.slice (some ⟨b, 0, none⟩) n n) (wl n F) := by
  refine ⟨by simp [wl, wds], _, n, by rw [wl_length], by rw [wl_length]; unfold maxLen; omega, fun _ => ⟨b, 0, rfl, fun j hj => ?_⟩⟩
  have hj' : j < n := by simpa [wl] using hj
  rw [Nat.zero_add, h.cell hj']
  simp [wl, wds, hj']
end Go.Proofs.Ytkcogdojohlpcaa
