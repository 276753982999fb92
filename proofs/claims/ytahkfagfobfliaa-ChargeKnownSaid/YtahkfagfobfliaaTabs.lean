/-
  Tables of literals; a list of calls that grows.
-/
import Derived.Test.YtahkfagfobfliaaPlays
import Derived.Test.YtahkfagfobfliaaBounds
import Derived.Laws.AppendOwn
set_option linter.unusedVariables false
set_option linter.unusedSimpArgs false
namespace Go.Proofs.Ytahkfagfobfliaa
open Go Go.RowKit

def numsL : List Int := [-9223372036854775808, -1, 0, 1, 100, 9007199254740991, 9007199254740992, 9223372036854775807]
def pathL (k : Nat) : List Int := ([[], [1], [16, 8, 4, 2, 1], [0], [17], [1, 2, 1], [1, 2, 3, 4, 5, 6, 7, 8], [1, 2, 3, 4, 5, 6, 7, 8, 9], [9, -1]] : List (List Int)).getD k []
/-- both give one error for it, whatever the number -/
def Nice (l : List Int) : Prop := pathE l = if outB l then 110 else if (decide (l.length < 1 ∨ 8 < l.length) || dupTo l l.length) then 2 else 0
instance (l : List Int) : Decidable (Nice l) := by unfold Nice; infer_instance
theorem pathL_nice : ∀ k, k < 9 → Nice (pathL k) ∧ (pathL k).length ≤ 9 := by decide
theorem Nice.nil : Nice [] := by decide
theorem Nice.ask {l : List Int} (h : Nice l) (n : Int) : askP l n = askR l n := by
  have e : decide (bad0 l n) = (decide (l.length < 1 ∨ 8 < l.length) || !decide (isN n)) := by
    by_cases a1 : l.length < 1 ∨ 8 < l.length
    · rw [decide_eq_true a1, decide_eq_true (show bad0 l n by unfold bad0; omega)]; rfl
    · rw [decide_eq_false a1, Bool.false_or]
      by_cases a2 : isN n
      · rw [decide_eq_true a2, decide_eq_false (show ¬ bad0 l n by unfold bad0; unfold isN at a2; omega)]; rfl
      · rw [decide_eq_false a2, decide_eq_true (show bad0 l n by unfold bad0; unfold isN at a2; omega)]; rfl
  unfold Nice at h
  unfold askP askR
  rw [h, e]
  generalize decide (l.length < 1 ∨ 8 < l.length) = A
  generalize dupTo l l.length = D
  generalize outB l = O
  by_cases hn : isN n <;> cases A <;> cases D <;> cases O <;> simp [hn]
structure KTab (w : World) (T5 T6 : Nat) : Prop where
  n : ∀ i, i < 8 → w.cell? ⟨T5, i, none⟩ = some (.int .i64 (pk numsL i))
  p : ∀ k, k < 9 → ∃ a m c, w.cell? ⟨T6, k, none⟩ = some (.slice a m c) ∧ ShowI w (.slice a m c) (pathL k)
theorem KTab.below {w w' : World} {T5 T6 : Nat} (h : KTab w T5 T6) (hb : Below w.heap.size w w') : KTab w' T5 T6 :=
  ⟨fun i hi => cell_keep hb (h.n i hi), fun k hk => by
    obtain ⟨a, m, c, h1, h2⟩ := h.p k hk
    exact ⟨a, m, c, cell_keep hb h1, h2.below hb⟩⟩
theorem up1 {w : World} {v : Value} {l : List Int} (h : ShowI w v l) (o : Obj) : ShowI (w.alloc o) v l := h.below (below_one (Below.refl _ _) o)
set_option maxRecDepth 100000 in
theorem ktab (w : World) : KTab ((((((((((w.alloc (.cells #[.int .i64 (-9223372036854775808), .int .i64 (-1), .int .i64 0, .int .i64 1, .int .i64 100, .int .i64 9007199254740991, .int .i64 9007199254740992, .int .i64 9223372036854775807] 3)).alloc (.cells #[.int .i64 1] 3)).alloc (.cells #[.int .i64 16, .int .i64 8, .int .i64 4, .int .i64 2, .int .i64 1] 3)).alloc (.cells #[.int .i64 0] 3)).alloc (.cells #[.int .i64 17] 3)).alloc (.cells #[.int .i64 1, .int .i64 2, .int .i64 1] 3)).alloc (.cells #[.int .i64 1, .int .i64 2, .int .i64 3, .int .i64 4, .int .i64 5, .int .i64 6, .int .i64 7, .int .i64 8] 3)).alloc (.cells #[.int .i64 1, .int .i64 2, .int .i64 3, .int .i64 4, .int .i64 5, .int .i64 6, .int .i64 7, .int .i64 8, .int .i64 9] 3)).alloc (.cells #[.int .i64 9, .int .i64 (-1)] 3)).alloc (.cells #[.slice none 0 0, .slice (some ⟨w.heap.size + 1, 0, none⟩) 1 1, .slice (some ⟨w.heap.size + 1 + 1, 0, none⟩) 5 5, .slice (some ⟨w.heap.size + 1 + 1 + 1, 0, none⟩) 1 1, .slice (some ⟨w.heap.size + 1 + 1 + 1 + 1, 0, none⟩) 1 1, .slice (some ⟨w.heap.size + 1 + 1 + 1 + 1 + 1, 0, none⟩) 3 3, .slice (some ⟨w.heap.size + 1 + 1 + 1 + 1 + 1 + 1, 0, none⟩) 8 8, .slice (some ⟨w.heap.size + 1 + 1 + 1 + 1 + 1 + 1 + 1, 0, none⟩) 9 9, .slice (some ⟨w.heap.size + 1 + 1 + 1 + 1 + 1 + 1 + 1 + 1, 0, none⟩) 2 2] 28)) w.heap.size (w.heap.size + 1 + 1 + 1 + 1 + 1 + 1 + 1 + 1 + 1) := by
  obtain ⟨w1, hw1⟩ : ∃ w', w.alloc (.cells #[.int .i64 (-9223372036854775808), .int .i64 (-1), .int .i64 0, .int .i64 1, .int .i64 100, .int .i64 9007199254740991, .int .i64 9007199254740992, .int .i64 9223372036854775807] 3) = w' := ⟨_, rfl⟩
  have s1 : w1.heap.size = w.heap.size + 1 := by rw [← hw1, size_alloc]
  obtain ⟨w2, hw2⟩ : ∃ w', w1.alloc (.cells #[.int .i64 1] 3) = w' := ⟨_, rfl⟩
  have s2 : w2.heap.size = w.heap.size + 1 + 1 := by rw [← hw2, size_alloc, s1]
  obtain ⟨w3, hw3⟩ : ∃ w', w2.alloc (.cells #[.int .i64 16, .int .i64 8, .int .i64 4, .int .i64 2, .int .i64 1] 3) = w' := ⟨_, rfl⟩
  have s3 : w3.heap.size = w.heap.size + 1 + 1 + 1 := by rw [← hw3, size_alloc, s2]
  obtain ⟨w4, hw4⟩ : ∃ w', w3.alloc (.cells #[.int .i64 0] 3) = w' := ⟨_, rfl⟩
  have s4 : w4.heap.size = w.heap.size + 1 + 1 + 1 + 1 := by rw [← hw4, size_alloc, s3]
  obtain ⟨w5, hw5⟩ : ∃ w', w4.alloc (.cells #[.int .i64 17] 3) = w' := ⟨_, rfl⟩
  have s5 : w5.heap.size = w.heap.size + 1 + 1 + 1 + 1 + 1 := by rw [← hw5, size_alloc, s4]
  obtain ⟨w6, hw6⟩ : ∃ w', w5.alloc (.cells #[.int .i64 1, .int .i64 2, .int .i64 1] 3) = w' := ⟨_, rfl⟩
  have s6 : w6.heap.size = w.heap.size + 1 + 1 + 1 + 1 + 1 + 1 := by rw [← hw6, size_alloc, s5]
  obtain ⟨w7, hw7⟩ : ∃ w', w6.alloc (.cells #[.int .i64 1, .int .i64 2, .int .i64 3, .int .i64 4, .int .i64 5, .int .i64 6, .int .i64 7, .int .i64 8] 3) = w' := ⟨_, rfl⟩
  have s7 : w7.heap.size = w.heap.size + 1 + 1 + 1 + 1 + 1 + 1 + 1 := by rw [← hw7, size_alloc, s6]
  obtain ⟨w8, hw8⟩ : ∃ w', w7.alloc (.cells #[.int .i64 1, .int .i64 2, .int .i64 3, .int .i64 4, .int .i64 5, .int .i64 6, .int .i64 7, .int .i64 8, .int .i64 9] 3) = w' := ⟨_, rfl⟩
  have s8 : w8.heap.size = w.heap.size + 1 + 1 + 1 + 1 + 1 + 1 + 1 + 1 := by rw [← hw8, size_alloc, s7]
  obtain ⟨w9, hw9⟩ : ∃ w', w8.alloc (.cells #[.int .i64 9, .int .i64 (-1)] 3) = w' := ⟨_, rfl⟩
  have s9 : w9.heap.size = w.heap.size + 1 + 1 + 1 + 1 + 1 + 1 + 1 + 1 + 1 := by rw [← hw9, size_alloc, s8]
  obtain ⟨w10, hw10⟩ : ∃ w', w9.alloc (.cells #[.slice none 0 0, .slice (some ⟨w.heap.size + 1, 0, none⟩) 1 1, .slice (some ⟨w.heap.size + 1 + 1, 0, none⟩) 5 5, .slice (some ⟨w.heap.size + 1 + 1 + 1, 0, none⟩) 1 1, .slice (some ⟨w.heap.size + 1 + 1 + 1 + 1, 0, none⟩) 1 1, .slice (some ⟨w.heap.size + 1 + 1 + 1 + 1 + 1, 0, none⟩) 3 3, .slice (some ⟨w.heap.size + 1 + 1 + 1 + 1 + 1 + 1, 0, none⟩) 8 8, .slice (some ⟨w.heap.size + 1 + 1 + 1 + 1 + 1 + 1 + 1, 0, none⟩) 9 9, .slice (some ⟨w.heap.size + 1 + 1 + 1 + 1 + 1 + 1 + 1 + 1, 0, none⟩) 2 2] 28) = w' := ⟨_, rfl⟩
  have s10 : w10.heap.size = w.heap.size + 1 + 1 + 1 + 1 + 1 + 1 + 1 + 1 + 1 + 1 := by rw [← hw10, size_alloc, s9]
  rw [hw1, hw2, hw3, hw4, hw5, hw6, hw7, hw8, hw9, hw10]
  have p0 : ShowI w1 (.slice (some ⟨w.heap.size, 0, none⟩) 8 8) numsL := by rw [← hw1]; exact lit_i w 3 numsL 8 rfl (by decide)
  have p1 : ShowI w2 (.slice (some ⟨w.heap.size + 1, 0, none⟩) 1 1) (pathL 1) := by
    have h := lit_i w1 3 (pathL 1) 1 rfl (by decide)
    rw [s1] at h
    rw [← hw2]
    exact h
  have p2 : ShowI w3 (.slice (some ⟨w.heap.size + 1 + 1, 0, none⟩) 5 5) (pathL 2) := by
    have h := lit_i w2 3 (pathL 2) 5 rfl (by decide)
    rw [s2] at h
    rw [← hw3]
    exact h
  have p3 : ShowI w4 (.slice (some ⟨w.heap.size + 1 + 1 + 1, 0, none⟩) 1 1) (pathL 3) := by
    have h := lit_i w3 3 (pathL 3) 1 rfl (by decide)
    rw [s3] at h
    rw [← hw4]
    exact h
  have p4 : ShowI w5 (.slice (some ⟨w.heap.size + 1 + 1 + 1 + 1, 0, none⟩) 1 1) (pathL 4) := by
    have h := lit_i w4 3 (pathL 4) 1 rfl (by decide)
    rw [s4] at h
    rw [← hw5]
    exact h
  have p5 : ShowI w6 (.slice (some ⟨w.heap.size + 1 + 1 + 1 + 1 + 1, 0, none⟩) 3 3) (pathL 5) := by
    have h := lit_i w5 3 (pathL 5) 3 rfl (by decide)
    rw [s5] at h
    rw [← hw6]
    exact h
  have p6 : ShowI w7 (.slice (some ⟨w.heap.size + 1 + 1 + 1 + 1 + 1 + 1, 0, none⟩) 8 8) (pathL 6) := by
    have h := lit_i w6 3 (pathL 6) 8 rfl (by decide)
    rw [s6] at h
    rw [← hw7]
    exact h
  have p7 : ShowI w8 (.slice (some ⟨w.heap.size + 1 + 1 + 1 + 1 + 1 + 1 + 1, 0, none⟩) 9 9) (pathL 7) := by
    have h := lit_i w7 3 (pathL 7) 9 rfl (by decide)
    rw [s7] at h
    rw [← hw8]
    exact h
  have p8 : ShowI w9 (.slice (some ⟨w.heap.size + 1 + 1 + 1 + 1 + 1 + 1 + 1 + 1, 0, none⟩) 2 2) (pathL 8) := by
    have h := lit_i w8 3 (pathL 8) 2 rfl (by decide)
    rw [s8] at h
    rw [← hw9]
    exact h
  have q0 : ShowI w10 (.slice (some ⟨w.heap.size, 0, none⟩) 8 8) (numsL) := by
    have h := p0
    replace h := up1 h (.cells #[.int .i64 1] 3)
    rw [hw2] at h
    replace h := up1 h (.cells #[.int .i64 16, .int .i64 8, .int .i64 4, .int .i64 2, .int .i64 1] 3)
    rw [hw3] at h
    replace h := up1 h (.cells #[.int .i64 0] 3)
    rw [hw4] at h
    replace h := up1 h (.cells #[.int .i64 17] 3)
    rw [hw5] at h
    replace h := up1 h (.cells #[.int .i64 1, .int .i64 2, .int .i64 1] 3)
    rw [hw6] at h
    replace h := up1 h (.cells #[.int .i64 1, .int .i64 2, .int .i64 3, .int .i64 4, .int .i64 5, .int .i64 6, .int .i64 7, .int .i64 8] 3)
    rw [hw7] at h
    replace h := up1 h (.cells #[.int .i64 1, .int .i64 2, .int .i64 3, .int .i64 4, .int .i64 5, .int .i64 6, .int .i64 7, .int .i64 8, .int .i64 9] 3)
    rw [hw8] at h
    replace h := up1 h (.cells #[.int .i64 9, .int .i64 (-1)] 3)
    rw [hw9] at h
    replace h := up1 h (.cells #[.slice none 0 0, .slice (some ⟨w.heap.size + 1, 0, none⟩) 1 1, .slice (some ⟨w.heap.size + 1 + 1, 0, none⟩) 5 5, .slice (some ⟨w.heap.size + 1 + 1 + 1, 0, none⟩) 1 1, .slice (some ⟨w.heap.size + 1 + 1 + 1 + 1, 0, none⟩) 1 1, .slice (some ⟨w.heap.size + 1 + 1 + 1 + 1 + 1, 0, none⟩) 3 3, .slice (some ⟨w.heap.size + 1 + 1 + 1 + 1 + 1 + 1, 0, none⟩) 8 8, .slice (some ⟨w.heap.size + 1 + 1 + 1 + 1 + 1 + 1 + 1, 0, none⟩) 9 9, .slice (some ⟨w.heap.size + 1 + 1 + 1 + 1 + 1 + 1 + 1 + 1, 0, none⟩) 2 2] 28)
    rw [hw10] at h
    exact h
  have q1 : ShowI w10 (.slice (some ⟨w.heap.size + 1, 0, none⟩) 1 1) (pathL 1) := by
    have h := p1
    replace h := up1 h (.cells #[.int .i64 16, .int .i64 8, .int .i64 4, .int .i64 2, .int .i64 1] 3)
    rw [hw3] at h
    replace h := up1 h (.cells #[.int .i64 0] 3)
    rw [hw4] at h
    replace h := up1 h (.cells #[.int .i64 17] 3)
    rw [hw5] at h
    replace h := up1 h (.cells #[.int .i64 1, .int .i64 2, .int .i64 1] 3)
    rw [hw6] at h
    replace h := up1 h (.cells #[.int .i64 1, .int .i64 2, .int .i64 3, .int .i64 4, .int .i64 5, .int .i64 6, .int .i64 7, .int .i64 8] 3)
    rw [hw7] at h
    replace h := up1 h (.cells #[.int .i64 1, .int .i64 2, .int .i64 3, .int .i64 4, .int .i64 5, .int .i64 6, .int .i64 7, .int .i64 8, .int .i64 9] 3)
    rw [hw8] at h
    replace h := up1 h (.cells #[.int .i64 9, .int .i64 (-1)] 3)
    rw [hw9] at h
    replace h := up1 h (.cells #[.slice none 0 0, .slice (some ⟨w.heap.size + 1, 0, none⟩) 1 1, .slice (some ⟨w.heap.size + 1 + 1, 0, none⟩) 5 5, .slice (some ⟨w.heap.size + 1 + 1 + 1, 0, none⟩) 1 1, .slice (some ⟨w.heap.size + 1 + 1 + 1 + 1, 0, none⟩) 1 1, .slice (some ⟨w.heap.size + 1 + 1 + 1 + 1 + 1, 0, none⟩) 3 3, .slice (some ⟨w.heap.size + 1 + 1 + 1 + 1 + 1 + 1, 0, none⟩) 8 8, .slice (some ⟨w.heap.size + 1 + 1 + 1 + 1 + 1 + 1 + 1, 0, none⟩) 9 9, .slice (some ⟨w.heap.size + 1 + 1 + 1 + 1 + 1 + 1 + 1 + 1, 0, none⟩) 2 2] 28)
    rw [hw10] at h
    exact h
  have q2 : ShowI w10 (.slice (some ⟨w.heap.size + 1 + 1, 0, none⟩) 5 5) (pathL 2) := by
    have h := p2
    replace h := up1 h (.cells #[.int .i64 0] 3)
    rw [hw4] at h
    replace h := up1 h (.cells #[.int .i64 17] 3)
    rw [hw5] at h
    replace h := up1 h (.cells #[.int .i64 1, .int .i64 2, .int .i64 1] 3)
    rw [hw6] at h
    replace h := up1 h (.cells #[.int .i64 1, .int .i64 2, .int .i64 3, .int .i64 4, .int .i64 5, .int .i64 6, .int .i64 7, .int .i64 8] 3)
    rw [hw7] at h
    replace h := up1 h (.cells #[.int .i64 1, .int .i64 2, .int .i64 3, .int .i64 4, .int .i64 5, .int .i64 6, .int .i64 7, .int .i64 8, .int .i64 9] 3)
    rw [hw8] at h
    replace h := up1 h (.cells #[.int .i64 9, .int .i64 (-1)] 3)
    rw [hw9] at h
    replace h := up1 h (.cells #[.slice none 0 0, .slice (some ⟨w.heap.size + 1, 0, none⟩) 1 1, .slice (some ⟨w.heap.size + 1 + 1, 0, none⟩) 5 5, .slice (some ⟨w.heap.size + 1 + 1 + 1, 0, none⟩) 1 1, .slice (some ⟨w.heap.size + 1 + 1 + 1 + 1, 0, none⟩) 1 1, .slice (some ⟨w.heap.size + 1 + 1 + 1 + 1 + 1, 0, none⟩) 3 3, .slice (some ⟨w.heap.size + 1 + 1 + 1 + 1 + 1 + 1, 0, none⟩) 8 8, .slice (some ⟨w.heap.size + 1 + 1 + 1 + 1 + 1 + 1 + 1, 0, none⟩) 9 9, .slice (some ⟨w.heap.size + 1 + 1 + 1 + 1 + 1 + 1 + 1 + 1, 0, none⟩) 2 2] 28)
    rw [hw10] at h
    exact h
  have q3 : ShowI w10 (.slice (some ⟨w.heap.size + 1 + 1 + 1, 0, none⟩) 1 1) (pathL 3) := by
    have h := p3
    replace h := up1 h (.cells #[.int .i64 17] 3)
    rw [hw5] at h
    replace h := up1 h (.cells #[.int .i64 1, .int .i64 2, .int .i64 1] 3)
    rw [hw6] at h
    replace h := up1 h (.cells #[.int .i64 1, .int .i64 2, .int .i64 3, .int .i64 4, .int .i64 5, .int .i64 6, .int .i64 7, .int .i64 8] 3)
    rw [hw7] at h
    replace h := up1 h (.cells #[.int .i64 1, .int .i64 2, .int .i64 3, .int .i64 4, .int .i64 5, .int .i64 6, .int .i64 7, .int .i64 8, .int .i64 9] 3)
    rw [hw8] at h
    replace h := up1 h (.cells #[.int .i64 9, .int .i64 (-1)] 3)
    rw [hw9] at h
    replace h := up1 h (.cells #[.slice none 0 0, .slice (some ⟨w.heap.size + 1, 0, none⟩) 1 1, .slice (some ⟨w.heap.size + 1 + 1, 0, none⟩) 5 5, .slice (some ⟨w.heap.size + 1 + 1 + 1, 0, none⟩) 1 1, .slice (some ⟨w.heap.size + 1 + 1 + 1 + 1, 0, none⟩) 1 1, .slice (some ⟨w.heap.size + 1 + 1 + 1 + 1 + 1, 0, none⟩) 3 3, .slice (some ⟨w.heap.size + 1 + 1 + 1 + 1 + 1 + 1, 0, none⟩) 8 8, .slice (some ⟨w.heap.size + 1 + 1 + 1 + 1 + 1 + 1 + 1, 0, none⟩) 9 9, .slice (some ⟨w.heap.size + 1 + 1 + 1 + 1 + 1 + 1 + 1 + 1, 0, none⟩) 2 2] 28)
    rw [hw10] at h
    exact h
  have q4 : ShowI w10 (.slice (some ⟨w.heap.size + 1 + 1 + 1 + 1, 0, none⟩) 1 1) (pathL 4) := by
    have h := p4
    replace h := up1 h (.cells #[.int .i64 1, .int .i64 2, .int .i64 1] 3)
    rw [hw6] at h
    replace h := up1 h (.cells #[.int .i64 1, .int .i64 2, .int .i64 3, .int .i64 4, .int .i64 5, .int .i64 6, .int .i64 7, .int .i64 8] 3)
    rw [hw7] at h
    replace h := up1 h (.cells #[.int .i64 1, .int .i64 2, .int .i64 3, .int .i64 4, .int .i64 5, .int .i64 6, .int .i64 7, .int .i64 8, .int .i64 9] 3)
    rw [hw8] at h
    replace h := up1 h (.cells #[.int .i64 9, .int .i64 (-1)] 3)
    rw [hw9] at h
    replace h := up1 h (.cells #[.slice none 0 0, .slice (some ⟨w.heap.size + 1, 0, none⟩) 1 1, .slice (some ⟨w.heap.size + 1 + 1, 0, none⟩) 5 5, .slice (some ⟨w.heap.size + 1 + 1 + 1, 0, none⟩) 1 1, .slice (some ⟨w.heap.size + 1 + 1 + 1 + 1, 0, none⟩) 1 1, .slice (some ⟨w.heap.size + 1 + 1 + 1 + 1 + 1, 0, none⟩) 3 3, .slice (some ⟨w.heap.size + 1 + 1 + 1 + 1 + 1 + 1, 0, none⟩) 8 8, .slice (some ⟨w.heap.size + 1 + 1 + 1 + 1 + 1 + 1 + 1, 0, none⟩) 9 9, .slice (some ⟨w.heap.size + 1 + 1 + 1 + 1 + 1 + 1 + 1 + 1, 0, none⟩) 2 2] 28)
    rw [hw10] at h
    exact h
  have q5 : ShowI w10 (.slice (some ⟨w.heap.size + 1 + 1 + 1 + 1 + 1, 0, none⟩) 3 3) (pathL 5) := by
    have h := p5
    replace h := up1 h (.cells #[.int .i64 1, .int .i64 2, .int .i64 3, .int .i64 4, .int .i64 5, .int .i64 6, .int .i64 7, .int .i64 8] 3)
    rw [hw7] at h
    replace h := up1 h (.cells #[.int .i64 1, .int .i64 2, .int .i64 3, .int .i64 4, .int .i64 5, .int .i64 6, .int .i64 7, .int .i64 8, .int .i64 9] 3)
    rw [hw8] at h
    replace h := up1 h (.cells #[.int .i64 9, .int .i64 (-1)] 3)
    rw [hw9] at h
    replace h := up1 h (.cells #[.slice none 0 0, .slice (some ⟨w.heap.size + 1, 0, none⟩) 1 1, .slice (some ⟨w.heap.size + 1 + 1, 0, none⟩) 5 5, .slice (some ⟨w.heap.size + 1 + 1 + 1, 0, none⟩) 1 1, .slice (some ⟨w.heap.size + 1 + 1 + 1 + 1, 0, none⟩) 1 1, .slice (some ⟨w.heap.size + 1 + 1 + 1 + 1 + 1, 0, none⟩) 3 3, .slice (some ⟨w.heap.size + 1 + 1 + 1 + 1 + 1 + 1, 0, none⟩) 8 8, .slice (some ⟨w.heap.size + 1 + 1 + 1 + 1 + 1 + 1 + 1, 0, none⟩) 9 9, .slice (some ⟨w.heap.size + 1 + 1 + 1 + 1 + 1 + 1 + 1 + 1, 0, none⟩) 2 2] 28)
    rw [hw10] at h
    exact h
  have q6 : ShowI w10 (.slice (some ⟨w.heap.size + 1 + 1 + 1 + 1 + 1 + 1, 0, none⟩) 8 8) (pathL 6) := by
    have h := p6
    replace h := up1 h (.cells #[.int .i64 1, .int .i64 2, .int .i64 3, .int .i64 4, .int .i64 5, .int .i64 6, .int .i64 7, .int .i64 8, .int .i64 9] 3)
    rw [hw8] at h
    replace h := up1 h (.cells #[.int .i64 9, .int .i64 (-1)] 3)
    rw [hw9] at h
    replace h := up1 h (.cells #[.slice none 0 0, .slice (some ⟨w.heap.size + 1, 0, none⟩) 1 1, .slice (some ⟨w.heap.size + 1 + 1, 0, none⟩) 5 5, .slice (some ⟨w.heap.size + 1 + 1 + 1, 0, none⟩) 1 1, .slice (some ⟨w.heap.size + 1 + 1 + 1 + 1, 0, none⟩) 1 1, .slice (some ⟨w.heap.size + 1 + 1 + 1 + 1 + 1, 0, none⟩) 3 3, .slice (some ⟨w.heap.size + 1 + 1 + 1 + 1 + 1 + 1, 0, none⟩) 8 8, .slice (some ⟨w.heap.size + 1 + 1 + 1 + 1 + 1 + 1 + 1, 0, none⟩) 9 9, .slice (some ⟨w.heap.size + 1 + 1 + 1 + 1 + 1 + 1 + 1 + 1, 0, none⟩) 2 2] 28)
    rw [hw10] at h
    exact h
  have q7 : ShowI w10 (.slice (some ⟨w.heap.size + 1 + 1 + 1 + 1 + 1 + 1 + 1, 0, none⟩) 9 9) (pathL 7) := by
    have h := p7
    replace h := up1 h (.cells #[.int .i64 9, .int .i64 (-1)] 3)
    rw [hw9] at h
    replace h := up1 h (.cells #[.slice none 0 0, .slice (some ⟨w.heap.size + 1, 0, none⟩) 1 1, .slice (some ⟨w.heap.size + 1 + 1, 0, none⟩) 5 5, .slice (some ⟨w.heap.size + 1 + 1 + 1, 0, none⟩) 1 1, .slice (some ⟨w.heap.size + 1 + 1 + 1 + 1, 0, none⟩) 1 1, .slice (some ⟨w.heap.size + 1 + 1 + 1 + 1 + 1, 0, none⟩) 3 3, .slice (some ⟨w.heap.size + 1 + 1 + 1 + 1 + 1 + 1, 0, none⟩) 8 8, .slice (some ⟨w.heap.size + 1 + 1 + 1 + 1 + 1 + 1 + 1, 0, none⟩) 9 9, .slice (some ⟨w.heap.size + 1 + 1 + 1 + 1 + 1 + 1 + 1 + 1, 0, none⟩) 2 2] 28)
    rw [hw10] at h
    exact h
  have q8 : ShowI w10 (.slice (some ⟨w.heap.size + 1 + 1 + 1 + 1 + 1 + 1 + 1 + 1, 0, none⟩) 2 2) (pathL 8) := by
    have h := p8
    replace h := up1 h (.cells #[.slice none 0 0, .slice (some ⟨w.heap.size + 1, 0, none⟩) 1 1, .slice (some ⟨w.heap.size + 1 + 1, 0, none⟩) 5 5, .slice (some ⟨w.heap.size + 1 + 1 + 1, 0, none⟩) 1 1, .slice (some ⟨w.heap.size + 1 + 1 + 1 + 1, 0, none⟩) 1 1, .slice (some ⟨w.heap.size + 1 + 1 + 1 + 1 + 1, 0, none⟩) 3 3, .slice (some ⟨w.heap.size + 1 + 1 + 1 + 1 + 1 + 1, 0, none⟩) 8 8, .slice (some ⟨w.heap.size + 1 + 1 + 1 + 1 + 1 + 1 + 1, 0, none⟩) 9 9, .slice (some ⟨w.heap.size + 1 + 1 + 1 + 1 + 1 + 1 + 1 + 1, 0, none⟩) 2 2] 28)
    rw [hw10] at h
    exact h
  have hT : w10.heap[w.heap.size + 1 + 1 + 1 + 1 + 1 + 1 + 1 + 1 + 1]? = some (.cells #[.slice none 0 0, .slice (some ⟨w.heap.size + 1, 0, none⟩) 1 1, .slice (some ⟨w.heap.size + 1 + 1, 0, none⟩) 5 5, .slice (some ⟨w.heap.size + 1 + 1 + 1, 0, none⟩) 1 1, .slice (some ⟨w.heap.size + 1 + 1 + 1 + 1, 0, none⟩) 1 1, .slice (some ⟨w.heap.size + 1 + 1 + 1 + 1 + 1, 0, none⟩) 3 3, .slice (some ⟨w.heap.size + 1 + 1 + 1 + 1 + 1 + 1, 0, none⟩) 8 8, .slice (some ⟨w.heap.size + 1 + 1 + 1 + 1 + 1 + 1 + 1, 0, none⟩) 9 9, .slice (some ⟨w.heap.size + 1 + 1 + 1 + 1 + 1 + 1 + 1 + 1, 0, none⟩) 2 2] 28 (0, 0)) := by
    rw [← hw10, ← s9]
    exact heap_new w9 _
  refine ⟨fun i hi => ?_, fun k hk => ?_⟩
  · have h := show_cell q0 (i := i) (by simpa [numsL] using hi)
    rwa [Nat.zero_add] at h
  · rcases (by omega : k = 0 ∨ k = 1 ∨ k = 2 ∨ k = 3 ∨ k = 4 ∨ k = 5 ∨ k = 6 ∨ k = 7 ∨ k = 8) with rfl | rfl | rfl | rfl | rfl | rfl | rfl | rfl | rfl
    · exact ⟨_, _, _, self_cell hT 0 _ rfl, ShowI.nil _⟩
    · exact ⟨_, _, _, self_cell hT 1 _ rfl, q1⟩
    · exact ⟨_, _, _, self_cell hT 2 _ rfl, q2⟩
    · exact ⟨_, _, _, self_cell hT 3 _ rfl, q3⟩
    · exact ⟨_, _, _, self_cell hT 4 _ rfl, q4⟩
    · exact ⟨_, _, _, self_cell hT 5 _ rfl, q5⟩
    · exact ⟨_, _, _, self_cell hT 6 _ rfl, q6⟩
    · exact ⟨_, _, _, self_cell hT 7 _ rfl, q7⟩
    · exact ⟨_, _, _, self_cell hT 8 _ rfl, q8⟩
/-- the tables, laid on a world -/
def wtab (w : World) : World := ((((((((((w.alloc (.cells #[.int .i64 (-9223372036854775808), .int .i64 (-1), .int .i64 0, .int .i64 1, .int .i64 100, .int .i64 9007199254740991, .int .i64 9007199254740992, .int .i64 9223372036854775807] 3)).alloc (.cells #[.int .i64 1] 3)).alloc (.cells #[.int .i64 16, .int .i64 8, .int .i64 4, .int .i64 2, .int .i64 1] 3)).alloc (.cells #[.int .i64 0] 3)).alloc (.cells #[.int .i64 17] 3)).alloc (.cells #[.int .i64 1, .int .i64 2, .int .i64 1] 3)).alloc (.cells #[.int .i64 1, .int .i64 2, .int .i64 3, .int .i64 4, .int .i64 5, .int .i64 6, .int .i64 7, .int .i64 8] 3)).alloc (.cells #[.int .i64 1, .int .i64 2, .int .i64 3, .int .i64 4, .int .i64 5, .int .i64 6, .int .i64 7, .int .i64 8, .int .i64 9] 3)).alloc (.cells #[.int .i64 9, .int .i64 (-1)] 3)).alloc (.cells #[.slice none 0 0, .slice (some ⟨w.heap.size + 1, 0, none⟩) 1 1, .slice (some ⟨w.heap.size + 1 + 1, 0, none⟩) 5 5, .slice (some ⟨w.heap.size + 1 + 1 + 1, 0, none⟩) 1 1, .slice (some ⟨w.heap.size + 1 + 1 + 1 + 1, 0, none⟩) 1 1, .slice (some ⟨w.heap.size + 1 + 1 + 1 + 1 + 1, 0, none⟩) 3 3, .slice (some ⟨w.heap.size + 1 + 1 + 1 + 1 + 1 + 1, 0, none⟩) 8 8, .slice (some ⟨w.heap.size + 1 + 1 + 1 + 1 + 1 + 1 + 1, 0, none⟩) 9 9, .slice (some ⟨w.heap.size + 1 + 1 + 1 + 1 + 1 + 1 + 1 + 1, 0, none⟩) 2 2] 28))
theorem wtab_tab (w : World) : KTab (wtab w) w.heap.size (w.heap.size + 1 + 1 + 1 + 1 + 1 + 1 + 1 + 1 + 1) := ktab w
theorem wtab_below (w : World) : Below w.heap.size w (wtab w) := below_one (below_one (below_one (below_one (below_one (below_one (below_one (below_one (below_one (below_one (Below.refl _ w) _) _) _) _) _) _) _) _) _) _
theorem infoD : (Try.prog.info? 30).map (fun i => (i.zero, i.size, i.bytes)) = some (some (.agg #[.int .i64 0, .int .i64 0, .int .i64 0, .slice none 0 0]), 4, 48) := by kernel_rfl
/-- a call, and its list as a value -/
abbrev Ent := Dq × Value
def Ent.cells (e : Ent) : List Value := [.int .i64 e.1.kind, .int .i64 e.1.a, .int .i64 e.1.n, e.2]
def ents (E : List Ent) : List Value := E.flatMap Ent.cells
theorem ents_length (E : List Ent) : (ents E).length = E.length * 4 := by
  induction E with
  | nil => rfl
  | cons c r ih => simp only [ents, List.flatMap_cons, List.length_append, List.length_cons] at *; simp only [ih, Ent.cells, List.length_cons, List.length_nil]; omega
theorem ents_at (E : List Ent) (i j : Nat) (hi : i < E.length) (hj : j < 4) : (ents E)[i * 4 + j]? = some (E[i].cells[j]'(by simpa [Ent.cells] using hj)) := by
  induction E generalizing i with
  | nil => simp at hi
  | cons c r ih =>
    cases i with
    | zero =>
      simp only [ents, List.flatMap_cons, Nat.zero_mul, Nat.zero_add]
      rw [List.getElem?_append_left (by simpa [Ent.cells] using hj)]
      simp [Ent.cells, hj]
    | succ i =>
      simp only [ents, List.flatMap_cons]
      rw [List.getElem?_append_right (by simp [Ent.cells]; omega)]
      have := ih i (by simpa using hi)
      simp only [ents] at this
      have e : (i + 1) * 4 + j - c.cells.length = i * 4 + j := by simp [Ent.cells]; omega
      rw [e, this]
      simp
theorem ents_append (a b : List Ent) : ents (a ++ b) = ents a ++ ents b := by simp [ents]
/-- a row of one's own; the lists lie as they lay at first -/
structure OwnE (w0 w : World) (B : Nat) (v : Value) (E : List Ent) : Prop where
  row : w.ownsRow B 30 4 v E.length (ents E)
  low : Below B w0 w
  at0 : B = w0.heap.size
  ok : ∀ e ∈ E, (∃ a m c, e.2 = .slice a m c) ∧ ShowI w0 e.2 e.1.path ∧ Nice e.1.path ∧ e.1.path.length ≤ 9
section
variable {w0 w w' : World} {B : Nat} {v u : Value} {E : List Ent}
theorem OwnE.nil (w0 : World) : OwnE w0 w0 w0.heap.size (.slice none 0 0) [] := ⟨World.ownsRow_nil _ _ _ _, Below.refl _ _, rfl, fun e h => by cases h⟩
theorem OwnE.below (h : OwnE w0 w B v E) (hb : Below w.heap.size w w') : OwnE w0 w' B v E := ⟨own_below h.row hb, by
  have := h.low
  have hs := h.at0
  subst hs
  exact below_then this hb, h.at0, h.ok⟩
theorem OwnE.shows (h : OwnE w0 w B v E) : ShowD w v (E.map (·.1)) := by
  have hlow := h.low
  rw [h.at0] at hlow
  have hL : (E.map (·.1)).length = E.length := by simp
  rcases h.row.2 with ⟨e1, e2⟩ | ⟨g, cap, cur, e1, hb, hg, hc, hm, _⟩
  · subst e1
    have : E = [] := List.length_eq_zero_iff.1 e2
    subst this
    exact ShowD.nil w
  · subst e1
    refine ⟨_, cap, by rw [hL], by rw [hL]; unfold maxLen at hm; omega, fun i hi => ?_⟩
    rw [hL] at hi
    have hcell : ∀ j, j < 4 → w.cell? ⟨g, 0 + i * 4 + j, none⟩ = (ents E)[i * 4 + j]? := fun j hj => by
      rw [Nat.zero_add]
      exact World.ownsRow.cellAt h.row (i * 4 + j) (by omega)
    have c0 := (hcell 0 (by decide)).trans (ents_at E i 0 hi (by decide))
    have c1 := (hcell 1 (by decide)).trans (ents_at E i 1 hi (by decide))
    have c2 := (hcell 2 (by decide)).trans (ents_at E i 2 hi (by decide))
    have c3 := (hcell 3 (by decide)).trans (ents_at E i 3 hi (by decide))
    have hd : dq (E.map (·.1)) i = E[i].1 := by simp [dq, hi]
    refine ⟨g, 0, E[i].2, rfl, ?_⟩
    rw [hd]
    exact ⟨c0, c1, c2, c3, (h.ok _ (List.getElem_mem hi)).2.1.below hlow⟩
theorem OwnE.alike (h : OwnE w0 w B v E) : ∀ i, i < (E.map (·.1)).length → Alike (dq (E.map (·.1)) i) := by
  intro i hi
  have hi2 : i < E.length := by simpa using hi
  have hd : dq (E.map (·.1)) i = E[i].1 := by simp [dq, hi2]
  obtain ⟨_, _, h2, h3⟩ := h.ok _ (List.getElem_mem hi2)
  rw [hd]
  exact ⟨by omega, h2.ask _⟩
theorem ents_one {E : List Ent} (h : ∀ e ∈ E, ∃ a m c, e.2 = .slice a m c) : ∀ u ∈ ents E, u.oneCell' = true := by
  intro u hu
  obtain ⟨e, he, hc⟩ := List.mem_flatMap.1 hu
  obtain ⟨a, m, c, h1⟩ := h e he
  simp only [Ent.cells, List.mem_cons, List.mem_nil_iff, or_false] at hc
  rcases hc with rfl | rfl | rfl | rfl
  · rfl
  · rfl
  · rfl
  · rw [h1]; rfl
theorem run_appendE {F : List Ent} {ad : Addr} {cap : Nat} (h : OwnE w0 w B v E) (hF : ∀ e ∈ F, (∃ a m c, e.2 = .slice a m c) ∧ ShowI w0 e.2 e.1.path ∧ Nice e.1.path ∧ e.1.path.length ≤ 9)
    (hu : ∀ j, j < F.length * 4 → w.cell? (ad.add j) = (ents F)[j]?) (hl : E.length + F.length ≤ 1000) (ty : TypeId) :
    ∃ ao c w', (Builtin.append_ #[22, 22] ty #[v, .slice (some ad) F.length cap]).run Try.prog w = .ok (.slice ao (E ++ F).length c) w' ∧ OwnE w0 w' B (.slice ao (E ++ F).length c) (E ++ F) := by
  obtain ⟨i0, hi, hz0, hz1, hz2⟩ := info_parts infoD
  have hnews : ∀ j v, (ents F)[j]? = some v → w.cell? (ad.add j) = some v := by
    intro j v hj
    have hlt := (List.getElem?_eq_some_iff.1 hj).1
    rw [ents_length] at hlt
    rw [hu j hlt, hj]
  have hB : B ≤ w.heap.size := by rw [h.at0]; have := h.low.size; exact this
  obtain ⟨v', w', hr, hown', hg, _, _⟩ := run_append_own_at (P := Try.prog) w B 22 ty 30 i0 _ 4 48 Try.underlying22 hi hz0 hz1 hz2 rfl (by decide) v E.length (ents E) h.row ad F.length cap (ents F) (ents_length F) hnews (ents_one (fun e he => (hF e he).1)) (by unfold maxLen; omega) (by omega) hB
  have hown2 : w'.ownsRow B 30 4 v' (E ++ F).length (ents (E ++ F)) := by
    rw [ents_append, List.length_append]
    exact hown'
  obtain ⟨a', c', rfl, _⟩ := own_shape hown2
  refine ⟨a', c', w', hr, hown2, h.low.grown hg hB (own_ge h.row), h.at0, fun e he => ?_⟩
  rcases List.mem_append.1 he with he | he
  · exact h.ok e he
  · exact hF e he
theorem wpList_appendE {ops : Array Oper} {rest : List Oper} {o : Oper} {a : Act} {Q : Exit → Act → World → Prop} (hgd : o.guard = none) (s x : Operand)
    (ho : o.op = .call { callee := .builtin .append, args := #[s, x], argTypes := #[22, 22] })
    (v : Value) (E F : List Ent) (ad : Addr) (m cap n : Nat) (hs : a.eval s = v) (hx : a.eval x = .slice (some ad) m cap) (h : OwnE w0 w B v E) (hm : F.length = m) (hF : ∀ e ∈ F, (∃ a m c, e.2 = .slice a m c) ∧ ShowI w0 e.2 e.1.path ∧ Nice e.1.path ∧ e.1.path.length ≤ 9)
    (hu : ∀ j, j < F.length * 4 → w.cell? (ad.add j) = (ents F)[j]?) (hl : E.length + F.length ≤ 1000) (hn : (E ++ F).length = n)
    (hK : ∀ ao c w', OwnE w0 w' B (.slice ao n c) (E ++ F) → wpList Try.prog ops Q rest (a.put o.dst (.slice ao n c)) w') :
    wpList Try.prog ops Q (o :: rest) a w := by
  subst hm hn
  refine wpList_plain hgd fun K hKK => ?_
  obtain ⟨ao, c, w', hr, h1⟩ := run_appendE (cap := cap) h hF hu hl o.type
  unfold Oper.wp execOp
  simp only [ho, resolve, invoke, builtin, Sem.run_bind, Sem.run_pure, Result.andThen_ok, List.map_toArray, List.map_cons, List.map_nil, hs, hx, hr]
  exact hKK _ _ (hK _ _ _ h1)
theorem step_appendE {ops : Array Oper} {o : Oper} {a : Act} {K : Act → World → Prop} {Q : Exit → Act → World → Prop} {Z : Prop} (hgd : o.guard = none) (s x : Operand)
    (ho : o.op = .call { callee := .builtin .append, args := #[s, x], argTypes := #[22, 22] })
    (v : Value) (E F : List Ent) (ad : Addr) (m cap n : Nat) (hs : a.eval s = v) (hx : a.eval x = .slice (some ad) m cap) (h : OwnE w0 w B v E) (hm : F.length = m) (hF : ∀ e ∈ F, (∃ a m c, e.2 = .slice a m c) ∧ ShowI w0 e.2 e.1.path ∧ Nice e.1.path ∧ e.1.path.length ≤ 9)
    (hu : ∀ j, j < F.length * 4 → w.cell? (ad.add j) = (ents F)[j]?) (hl : E.length + F.length ≤ 1000) (hn : (E ++ F).length = n)
    (hK : ∀ ao c w', OwnE w0 w' B (.slice ao n c) (E ++ F) → K (a.put o.dst (.slice ao n c)) w') :
    if Region.wanted o (yielded ops a.tmps) = true then Oper.wp Try.prog o a w K Q else Z := by
  subst hm hn
  have hw : Region.wanted o (yielded ops a.tmps) = true := by simp [Region.wanted, hgd]
  rw [if_pos hw]
  obtain ⟨ao, c, w', hr, h1⟩ := run_appendE (cap := cap) h hF hu hl o.type
  unfold Oper.wp execOp
  simp only [ho, resolve, invoke, builtin, Sem.run_bind, Sem.run_pure, Result.andThen_ok, List.map_toArray, List.map_cons, List.map_nil, hs, hx, hr]
  exact hK _ _ _ h1
/-- the cells of a block just made -/
theorem lit_cells (w : World) (t : TypeId) (xs : List Value) : ∀ j, j < xs.length → (w.alloc (.cells xs.toArray t)).cell? ((⟨w.heap.size, 0, none⟩ : Addr).add j) = xs[j]? := by
  intro j hj
  rw [plain_add, Nat.zero_add]
  have hb : (w.alloc (.cells xs.toArray t)).heap[w.heap.size]? = some (.cells xs.toArray t) := heap_new _ _
  unfold World.cell?
  dsimp only
  rw [hb]
  simp
end
end Go.Proofs.Ytahkfagfobfliaa
