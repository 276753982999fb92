/-
  A list of calls in a world: three numbers and a list each.
-/
import Derived.Test.YtahkfagfobfliaaBase
set_option linter.unusedVariables false
set_option linter.unusedSimpArgs false
namespace Go.Proofs.Ytahkfagfobfliaa
open Go Go.RowKit

structure Dq where
  kind : Int
  a : Int
  n : Int
  path : List Int
  deriving Inhabited
def dq (L : List Dq) (i : Nat) : Dq := L.getD i ⟨0, 0, 0, []⟩
theorem dq_at (L : List Dq) (i : Nat) (h : i < L.length) : L[i] = dq L i := by simp [dq, h]
/-- the i-th call, at a place -/
structure CallAt (w : World) (b o : Nat) (p : Value) (d : Dq) : Prop where
  k : w.cell? ⟨b, o, none⟩ = some (.int .i64 d.kind)
  a : w.cell? ⟨b, o + 1, none⟩ = some (.int .i64 d.a)
  n : w.cell? ⟨b, o + 2, none⟩ = some (.int .i64 d.n)
  q : w.cell? ⟨b, o + 3, none⟩ = some p
  l : ShowI w p d.path
def ShowD (w : World) (v : Value) (L : List Dq) : Prop :=
  ∃ ao cap, v = .slice ao L.length cap ∧ (L.length ≤ cap ∧ cap ≤ 9223372036854775807) ∧ ∀ i, i < L.length → ∃ b o p, ao = some ⟨b, o, none⟩ ∧ CallAt w b (o + i * 4) p (dq L i)
section
variable {w w' : World} {b o : Nat} {p v : Value} {d : Dq} {L : List Dq}
theorem CallAt.below (h : CallAt w b o p d) (hb : Below w.heap.size w w') : CallAt w' b o p d :=
  ⟨cell_keep hb h.k, cell_keep hb h.a, cell_keep hb h.n, cell_keep hb h.q, h.l.below hb⟩
theorem ShowD.below (h : ShowD w v L) (hb : Below w.heap.size w w') : ShowD w' v L := by
  obtain ⟨ao, cap, e, hc, hat⟩ := h
  refine ⟨ao, cap, e, hc, fun i hi => ?_⟩
  obtain ⟨b, o, p, ea, h1⟩ := hat i hi
  exact ⟨b, o, p, ea, h1.below hb⟩
theorem ShowD.nil (w : World) : ShowD w (.slice none 0 0) [] := ⟨none, 0, rfl, by simp, fun i hi => absurd hi (Nat.not_lt_zero _)⟩
end
end Go.Proofs.Ytahkfagfobfliaa
