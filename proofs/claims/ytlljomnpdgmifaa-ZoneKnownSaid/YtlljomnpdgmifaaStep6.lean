/-
  Alloc and Free in one, of the program and of the document's answer.
-/
import Derived.Test.YtlljomnpdgmifaaRFresh

set_option linter.unusedVariables false
set_option linter.unusedSimpArgs false
namespace Go.Proofs.Ytlljomnpdgmifaa
open Go Go.RowKit

/-- what Alloc answers, and the table behind it -/
inductive AllocIs (l : List Pg) : Int → Int → Int → Int → List Pg → Prop
  | bad (order cache : Int) : ¬ ArgOk order cache → AllocIs l order cache 0 2 l
  | full (order : Nat) (cache : Int) : order ≤ 10 → 0 ≤ cache → cache ≤ 8 → NoFit l order → AllocIs l order cache 0 7 l
  | ok (order o p : Nat) (cache : Int) : order ≤ 10 → 0 ≤ cache → cache ≤ 8 → Fit l order o p → AllocIs l order cache p 0 (allocL l order o p cache)
theorem alloc_is (l : List Pg) (order cache : Int) : ∃ p e m, AllocIs l order cache p e m := by
  by_cases h : ArgOk order cache
  · obtain ⟨n, rfl⟩ : ∃ n : Nat, order = n := ⟨order.toNat, by have := h.1; omega⟩
    obtain ⟨h1, h2, h3, h4⟩ := h
    rcases fit_or l n with h5 | ⟨o, p, h5⟩
    · exact ⟨_, _, _, .full n cache (by omega) h3 h4 h5⟩
    · exact ⟨_, _, _, .ok n o p cache (by omega) h3 h4 h5⟩
  · exact ⟨_, _, _, .bad order cache h⟩
theorem AllocIs.std {l m : List Pg} {order cache p e : Int} (h : AllocIs l order cache p e m) (hs : Std l) : Std m ∧ m.length = l.length := by
  cases h with
  | bad _ _ _ => exact ⟨hs, rfl⟩
  | full _ _ _ _ _ _ => exact ⟨hs, rfl⟩
  | ok order o p cache h1 h2 h3 h4 => exact ⟨h4.std hs h2 h3, allocL_length _ _ _ _ _⟩
inductive FreeIs (l : List Pg) : Int → Int → List Pg → Prop
  | bad (page : Int) : ¬ OutAt l page → FreeIs l page 60 l
  | ok (p : Nat) : p < l.length → (pg l p).kind = 2 → FreeIs l p 0 (freeL l p)
theorem free_is (l : List Pg) (page : Int) : ∃ e m, FreeIs l page e m := by
  by_cases h : OutAt l page
  · obtain ⟨p, rfl⟩ : ∃ p : Nat, page = p := ⟨page.toNat, by have := h.1; omega⟩
    obtain ⟨h1, h2, h3⟩ := h
    rw [Int.toNat_natCast] at h3
    exact ⟨_, _, .ok p (by omega) h3⟩
  · exact ⟨_, _, .bad page h⟩
theorem FreeIs.std {l m : List Pg} {page e : Int} (h : FreeIs l page e m) (hs : Std l) : Std m ∧ m.length = l.length := by
  cases h with
  | bad _ _ => exact ⟨hs, rfl⟩
  | ok p h1 h2 => exact ⟨free_std hs h1 h2, freeL_length _ _⟩
section
variable {w : World} {B g cap : Nat} {l m : List Pg} {order cache page p e : Int}
theorem cAlloc (h : BudAt w 92 B g cap l) (hs : Std l) (hr : AllocIs l order cache p e m) :
    Calls Try.prog 72 #[.pointer (some ⟨B, 0, none⟩), .int .i64 order, .int .i64 cache] w fun en w' => en = .returned (.tuple #[.int .i64 p, .int .i64 e]) ∧ BudAt w' 92 B g cap m ∧ Kept (· = g) w w' := by
  cases hr with
  | bad _ _ hb => exact (cAllocBad h order cache hb).mono fun _ _ ⟨h1, h2⟩ => ⟨h1, by rw [h2]; exact h, by rw [h2]; exact Kept.refl _ _⟩
  | full o _ h1 h2 h3 h4 => exact (cAllocNo h o cache h1 h2 h3 h4).mono fun _ _ ⟨h5, h6⟩ => ⟨h5, h.below h6, Kept.ofBelow h6⟩
  | ok o k q _ h1 h2 h3 h4 => exact cAllocYes h hs.cov o k q cache h2 h3 h4
theorem rAlloc (h : BudAt w 77 B g cap l) (hs : Std l) (hr : AllocIs l order cache p e m) :
    Calls Try.prog 51 #[.pointer (some ⟨B, 0, none⟩), .int .i64 order, .int .i64 cache] w fun en w' => en = .returned (.tuple #[.int .i64 p, .int .i64 e]) ∧ BudAt w' 77 B g cap m ∧ Kept (· = g) w w' := by
  cases hr with
  | bad _ _ hb => exact (rAllocBad order cache hb w).mono fun _ _ ⟨h1, h2⟩ => ⟨h1, by rw [h2]; exact h, by rw [h2]; exact Kept.refl _ _⟩
  | full o _ h1 h2 h3 h4 => exact (rAllocNo h o cache h1 h2 h3 h4).mono fun _ _ ⟨h5, h6⟩ => ⟨h5, h.below h6, Kept.ofBelow h6⟩
  | ok o k q _ h1 h2 h3 h4 => exact rAllocYes h hs.cov o k q cache h2 h3 h4
theorem cFreeB (h : BudAt w 92 B g cap l) (hs : Std l) (hr : FreeIs l page e m) :
    Calls Try.prog 39 #[.pointer (some ⟨B, 0, none⟩), .int .i64 page] w fun en w' => en = .returned (.int .i64 e) ∧ BudAt w' 92 B g cap m ∧ Kept (· = g) w w' := by
  cases hr with
  | bad _ hb => exact (cFreeBad h page hb).mono fun _ _ ⟨h1, h2⟩ => ⟨h1, by rw [h2]; exact h, by rw [h2]; exact Kept.refl _ _⟩
  | ok q h1 h2 => exact cFreeYes h hs.cov q h1 h2
theorem rFreeB (h : BudAt w 77 B g cap l) (hs : Std l) (hr : FreeIs l page e m) :
    Calls Try.prog 56 #[.pointer (some ⟨B, 0, none⟩), .int .i64 page] w fun en w' => en = .returned (.int .i64 e) ∧ BudAt w' 77 B g cap m ∧ Kept (· = g) w w' := by
  cases hr with
  | bad _ hb => exact (rFreeBad h page hb).mono fun _ _ ⟨h1, h2⟩ => ⟨h1, by rw [h2]; exact h, by rw [h2]; exact Kept.refl _ _⟩
  | ok q h1 h2 => exact rFreeYes h hs.cov q h1 h2
end
/-- both, in one world -/
structure St (W w : World) (B g cap B2 g2 cap2 : Nat) (l m : List Pg) : Prop where
  a : BudAt w 92 B g cap l
  r : BudAt w 77 B2 g2 cap2 m
  sa : Std l
  sr : Std m
  low : Below W.heap.size W w
  ge : W.heap.size ≤ B ∧ W.heap.size ≤ g ∧ W.heap.size ≤ B2 ∧ W.heap.size ≤ g2
  ne : g ≠ B2 ∧ g ≠ g2 ∧ g2 ≠ B
section
variable {W w w' : World} {B g cap B2 g2 cap2 : Nat} {l m l' m' : List Pg}
theorem St.below (h : St W w B g cap B2 g2 cap2 l m) (hb : Below w.heap.size w w') : St W w' B g cap B2 g2 cap2 l m :=
  ⟨h.a.below hb, h.r.below hb, h.sa, h.sr, below_then h.low hb, h.ge, h.ne⟩
theorem St.left (h : St W w B g cap B2 g2 cap2 l m) (ha : BudAt w' 92 B g cap l') (hs : Std l') (hk : Kept (· = g) w w') : St W w' B g cap B2 g2 cap2 l' m :=
  ⟨ha, h.r.kept hk (fun e => h.ne.1 e.symm) (fun e => h.ne.2.1 e.symm), hs, h.sr, below_kept h.low hk (fun k e => by have := h.ge; omega), h.ge, h.ne⟩
theorem St.right (h : St W w B g cap B2 g2 cap2 l m) (hr : BudAt w' 77 B2 g2 cap2 m') (hs : Std m') (hk : Kept (· = g2) w w') : St W w' B g cap B2 g2 cap2 l m' :=
  ⟨h.a.kept hk (fun e => h.ne.2.2 e.symm) h.ne.2.1, hr, h.sa, hs, below_kept h.low hk (fun k e => by have := h.ge; omega), h.ge, h.ne⟩
end
end Go.Proofs.Ytlljomnpdgmifaa
