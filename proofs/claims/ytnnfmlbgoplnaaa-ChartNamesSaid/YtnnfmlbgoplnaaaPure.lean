/-
  Charts: which may be, where the words lie; what words say, as functions of a list of words.
-/
import Derived.Test.YtnnfmlbgoplnaaaRh
set_option linter.unusedVariables false
set_option linter.unusedSimpArgs false
namespace Go.Proofs.Ytnnfmlbgoplnaaa
open Go Go.RowKit

/-- a chart -/
structure Ch where
  cpus : Int
  slabs : Int
  objs : Int
  min : Int
  cap : Int
  key : Int
  deriving DecidableEq
abbrev Ch.arr (c : Ch) : Array Value := #[.int .i64 c.cpus, .int .i64 c.slabs, .int .i64 c.objs, .int .i64 c.min, .int .i64 c.cap, .int .u64 c.key]
abbrev Ch.agg (c : Ch) : Value := .agg c.arr
def okI (x : Int) : Prop := -9223372036854775808 ≤ x ∧ x ≤ 9223372036854775807
/-- its numbers are numbers -/
structure Ch.wf (c : Ch) : Prop where
  cpus : okI c.cpus
  slabs : okI c.slabs
  objs : okI c.objs
  min : okI c.min
  cap : okI c.cap
  key : okW c.key
def Ch.ok (c : Ch) : Prop := (1 ≤ c.cpus ∧ c.cpus ≤ 8) ∧ (1 ≤ c.slabs ∧ c.slabs ≤ 32) ∧ (1 ≤ c.objs ∧ c.objs ≤ 16) ∧ (0 ≤ c.min ∧ c.min ≤ 32) ∧ (0 ≤ c.cap ∧ c.cap ≤ 32)
instance (c : Ch) : Decidable c.ok := by unfold Ch.ok; infer_instance
def Ch.chk (c : Ch) : Int := if c.ok then 0 else 2
def inB (i n : Int) : Bool := decide (0 ≤ i ∧ i < n)
/-- a place -/
def Ch.at (c : Ch) (b : Bool) (p : Int) : Int := if c.ok ∧ b = true then p else -1
/-- where the slabs' words begin, where the links do, how many words there are -/
def Ch.s0 (c : Ch) : Int := 4 * c.cpus + 4
def Ch.l0 (c : Ch) : Int := 4 * c.cpus + 4 + 4 * c.slabs
def Ch.n (c : Ch) : Int := 4 * c.cpus + 4 + 4 * c.slabs + c.slabs * c.objs
def Ch.words (c : Ch) : Int := if c.ok then c.n else 0
def Ch.head (c : Ch) (i : Int) : Int := c.at (inB i c.cpus) (4 * i)
def Ch.part (c : Ch) (i : Int) : Int := c.at (inB i c.cpus) (4 * i + 2)
def Ch.lock (c : Ch) : Int := c.at true (4 * c.cpus)
def Ch.shelf (c : Ch) : Int := c.at true (4 * c.cpus + 1)
def Ch.held (c : Ch) : Int := c.at true (4 * c.cpus + 2)
def Ch.first (c : Ch) (s : Int) : Int := c.at (inB s c.slabs) (c.s0 + 4 * s)
def Ch.next (c : Ch) (s : Int) : Int := c.at (inB s c.slabs) (c.s0 + 4 * s + 2)
def Ch.link (c : Ch) (s o : Int) : Int := c.at (inB s c.slabs && inB o c.objs) (c.l0 + s * c.objs + o)
def Ch.keyOf (c : Ch) (s : Int) : Int := IntKind.u64.wrap (c.key + IntKind.u64.wrap (IntKind.u64.wrap s * 11400714819323198485))
theorem keyOf_range (c : Ch) (s : Int) : okW (c.keyOf s) := by
  unfold Ch.keyOf okW
  rw [IntKind.wrap_u64]
  omega
section
variable {c : Ch}
theorem Ch.chk_yes (h : c.ok) : c.chk = 0 := if_pos h
theorem Ch.chk_no (h : ¬ c.ok) : c.chk = 2 := if_neg h
theorem Ch.at_no {b : Bool} {p : Int} (h : ¬ c.ok) : c.at b p = -1 := if_neg (fun e => h e.1)
theorem Ch.at_false {p : Int} : c.at false p = -1 := if_neg (fun e => by cases e.2)
theorem Ch.at_yes {p : Int} (h : c.ok) : c.at true p = p := if_pos ⟨h, rfl⟩
/-- products of slabs and objects -/
theorem mul_le {s t o : Int} (h0 : 0 ≤ o) (h : s ≤ t) : s * o ≤ t * o := Int.mul_le_mul_of_nonneg_right h h0
theorem Ch.prod (h : c.ok) : 1 ≤ c.slabs * c.objs ∧ c.slabs * c.objs ≤ 512 := by
  obtain ⟨_, ⟨h1, h2⟩, ⟨h3, h4⟩, _⟩ := h
  have a := mul_le (s := 1) (t := c.slabs) (o := c.objs) (by omega) h1
  have b := mul_le (s := c.slabs) (t := 32) (o := c.objs) (by omega) h2
  omega
theorem Ch.prod_at (h : c.ok) {s : Int} (h0 : 0 ≤ s) (h1 : s < c.slabs) : 0 ≤ s * c.objs ∧ s * c.objs + c.objs ≤ c.slabs * c.objs := by
  obtain ⟨_, _, ⟨h3, h4⟩, _⟩ := h
  have a := mul_le (s := 0) (t := s) (o := c.objs) (by omega) h0
  have b := mul_le (s := s + 1) (t := c.slabs) (o := c.objs) (by omega) (by omega)
  rw [Int.add_mul] at b
  omega
end
/-! ### what words say -/
/-- so many of a list, from one on -/
def sub (l : List Int) (f n : Nat) : List Int := (l.drop f).take n
/-- the free objects of a slab, from one on -/
def listF (l : List Int) (c : Ch) (s a : Int) : List Int × Int :=
  if s < 0 ∨ c.slabs ≤ s ∨ c.objs ≤ a then ([], 150) else if (lst (sub l (c.l0 + s * c.objs).toNat c.objs.toNat) (c.keyOf s) a).2 = 0 then ((lst (sub l (c.l0 + s * c.objs).toNat c.objs.toNat) (c.keyOf s) a).1, 0) else ([], 150)
/-- the next slab's word -/
def nxW (l : List Int) (c : Ch) (s : Int) : Int := pk l (c.s0 + 4 * s + 2).toNat
def prF (l : List Int) (c : Ch) : Nat → List Int → Int → List Int × Int
  | 0, _, _ => ([], 150)
  | f + 1, seen, v => if ¬ isP v ∨ c.slabs ≤ pS v ∨ pS v ∈ seen then ([], 150) else if pS v < 0 then (seen, 0) else prF l c f (seen ++ [pS v]) (nxW l c (pS v))
def shF (l : List Int) (c : Ch) : Nat → List Int → Int → List Int × Int
  | 0, _, _ => ([], 150)
  | f + 1, seen, v => if v = 0 then (seen, 0) else if c.slabs < v ∨ v - 1 ∈ seen then ([], 150) else shF l c f (seen ++ [v - 1]) (nxW l c (v - 1))
/-- under way -/
def prW (l : List Int) (c : Ch) (seen : List Int) (v : Int) : List Int × Int := prF l c (33 - seen.length) seen v
def shW (l : List Int) (c : Ch) (seen : List Int) (v : Int) : List Int × Int := shF l c (33 - seen.length) seen v
/-- slabs that there are, each once -/
structure SeenS (c : Ch) (seen : List Int) : Prop where
  nd : seen.Nodup
  at_ : ∀ x ∈ seen, 0 ≤ x ∧ x < c.slabs
section
variable {l seen : List Int} {c : Ch} {v : Int}
theorem SeenS.len (h : SeenS c seen) (hc : c.ok) : seen.length ≤ 32 := by
  have := nodup_len 32 seen h.nd (fun x hx => by have := h.at_ x hx; have := hc.2.1; omega)
  exact this
theorem SeenS.nil (c : Ch) : SeenS c [] := ⟨List.nodup_nil, by simp⟩
theorem SeenS.add {a : Int} (h : SeenS c seen) (h0 : 0 ≤ a) (h1 : a < c.slabs) (h2 : a ∉ seen) : SeenS c (seen ++ [a]) := by
  refine ⟨?_, fun x hx => ?_⟩
  · rw [List.nodup_append]
    refine ⟨h.nd, by simp, fun x hx y hy => ?_⟩
    have : y = a := by simpa using hy
    subst this
    exact fun e => h2 (e ▸ hx)
  · rcases List.mem_append.1 hx with h3 | h3
    · exact h.at_ x h3
    · have : x = a := by simpa using h3
      subst this
      exact ⟨h0, h1⟩
theorem pr_bad (hs : seen.length ≤ 32) (h : ¬ isP v ∨ c.slabs ≤ pS v ∨ pS v ∈ seen) : prW l c seen v = ([], 150) := by
  unfold prW
  rw [show 33 - seen.length = (32 - seen.length) + 1 by omega, prF.eq_2, if_pos h]
theorem pr_end (hs : seen.length ≤ 32) (h : ¬ (¬ isP v ∨ c.slabs ≤ pS v ∨ pS v ∈ seen)) (h2 : pS v < 0) : prW l c seen v = (seen, 0) := by
  unfold prW
  rw [show 33 - seen.length = (32 - seen.length) + 1 by omega, prF.eq_2, if_neg h, if_pos h2]
theorem pr_step (hs : seen.length ≤ 32) (h : ¬ (¬ isP v ∨ c.slabs ≤ pS v ∨ pS v ∈ seen)) (h2 : ¬ pS v < 0) : prW l c seen v = prW l c (seen ++ [pS v]) (nxW l c (pS v)) := by
  unfold prW
  rw [show 33 - seen.length = (32 - seen.length) + 1 by omega, show 33 - (seen ++ [pS v]).length = 32 - seen.length by simp, prF.eq_2, if_neg h, if_neg h2]
theorem sh_end (hs : seen.length ≤ 32) : shW l c seen 0 = (seen, 0) := by
  unfold shW
  rw [show 33 - seen.length = (32 - seen.length) + 1 by omega, shF.eq_2, if_pos rfl]
theorem sh_bad (hs : seen.length ≤ 32) (h0 : v ≠ 0) (h : c.slabs < v ∨ v - 1 ∈ seen) : shW l c seen v = ([], 150) := by
  unfold shW
  rw [show 33 - seen.length = (32 - seen.length) + 1 by omega, shF.eq_2, if_neg h0, if_pos h]
theorem sh_step (hs : seen.length ≤ 32) (h0 : v ≠ 0) (h : ¬ (c.slabs < v ∨ v - 1 ∈ seen)) : shW l c seen v = shW l c (seen ++ [v - 1]) (nxW l c (v - 1)) := by
  unfold shW
  rw [show 33 - seen.length = (32 - seen.length) + 1 by omega, show 33 - (seen ++ [v - 1]).length = 32 - seen.length by simp, shF.eq_2, if_neg h0, if_neg h]
end
/-- what a processor has -/
structure Sl where
  slab : Int
  list : List Int
  turn : Int
  parts : List Int
  deriving DecidableEq
def zSl : Sl := ⟨0, [], 0, []⟩
/-- a slab's own -/
structure Sb where
  ct : Ct
  first : List Int
  deriving DecidableEq
def zSb : Sb := ⟨zC, []⟩
/-- a core -/
structure Cr where
  slots : List Sl
  shelf : List Int
  locked : Bool
  slabs : List Sb
  deriving DecidableEq
def zCr : Cr := ⟨[], [], false, []⟩
/-- the list of a head -/
def hdF (l : List Int) (c : Ch) (i : Int) : List Int × Int := if hS (pk l (4 * i).toNat) < 0 then ([], 0) else listF l c (hS (pk l (4 * i).toNat)) (hO (pk l (4 * i).toNat))
def slotE (l : List Int) (c : Ch) (i : Int) : Bool := decide (isH (pk l (4 * i).toNat) ∧ (hdF l c i).2 = 0 ∧ (prW l c [] (pk l (4 * i + 2).toNat)).2 = 0)
def slotV (l : List Int) (c : Ch) (i : Int) : Sl := ⟨hS (pk l (4 * i).toNat), (hdF l c i).1, pk l (4 * i + 1).toNat, (prW l c [] (pk l (4 * i + 2).toNat)).1⟩
def slabE (l : List Int) (c : Ch) (s : Int) : Bool := decide (isC (pk l (c.s0 + 4 * s + 1).toNat) ∧ pk l (c.s0 + 4 * s).toNat ≤ c.objs ∧ (listF l c s (pk l (c.s0 + 4 * s).toNat - 1)).2 = 0)
def slabV (l : List Int) (c : Ch) (s : Int) : Sb := ⟨cntV (pk l (c.s0 + 4 * s + 1).toNat), (listF l c s (pk l (c.s0 + 4 * s).toNat - 1)).1⟩
def shelfF (l : List Int) (c : Ch) : List Int × Int := shW l c [] (pk l (4 * c.cpus + 1).toNat)
/-- the first n of them are well -/
def allB (p : Nat → Bool) (n : Nat) : Bool := (List.range n).all p
theorem allB_iff {p : Nat → Bool} {n : Nat} : allB p n = true ↔ ∀ i, i < n → p i = true := by simp [allB]
def slotsB (l : List Int) (c : Ch) : Bool := allB (fun i : Nat => slotE l c (i : Int)) c.cpus.toNat
def slabsB (l : List Int) (c : Ch) : Bool := allB (fun i : Nat => slabE l c (i : Int)) c.slabs.toNat
def slotsV (l : List Int) (c : Ch) : List Sl := (List.range c.cpus.toNat).map (fun i : Nat => slotV l c (i : Int))
def slabsV (l : List Int) (c : Ch) : List Sb := (List.range c.slabs.toNat).map (fun i : Nat => slabV l c (i : Int))
def coreV (l : List Int) (c : Ch) : Cr := ⟨slotsV l c, (shelfF l c).1, decide (pk l (4 * c.cpus).toNat ≠ 0), slabsV l c⟩
def seeF (l : List Int) (c : Ch) : Cr × Int := if slotsB l c = true ∧ (shelfF l c).2 = 0 ∧ slabsB l c = true then (coreV l c, 0) else (zCr, 150)
def see (l : List Int) (c : Ch) : Cr × Int := if c.ok ∧ (l.length : Int) = c.n then seeF l c else (zCr, 2)
/-! errors are 0 or 150 -/
theorem listF_err (l : List Int) (c : Ch) (s a : Int) : (listF l c s a).2 = 0 ∨ listF l c s a = ([], 150) := by
  unfold listF
  split
  · exact .inr rfl
  · split
    · exact .inl rfl
    · exact .inr rfl
theorem prF_err (l : List Int) (c : Ch) : ∀ f seen v, (prF l c f seen v).2 = 0 ∨ prF l c f seen v = ([], 150) := by
  intro f
  induction f with
  | zero => intro seen v; exact .inr rfl
  | succ f ih =>
    intro seen v
    unfold prF
    split
    · exact .inr rfl
    · split
      · exact .inl rfl
      · exact ih _ _
theorem shF_err (l : List Int) (c : Ch) : ∀ f seen v, (shF l c f seen v).2 = 0 ∨ shF l c f seen v = ([], 150) := by
  intro f
  induction f with
  | zero => intro seen v; exact .inr rfl
  | succ f ih =>
    intro seen v
    unfold shF
    split
    · exact .inl rfl
    · split
      · exact .inr rfl
      · exact ih _ _
end Go.Proofs.Ytnnfmlbgoplnaaa
