/-
  Buddies that are played, and what is out of them: what holds, call by call.
-/
import Derived.Test.YtpohfecbogppkaaStep6
set_option linter.unusedVariables false
set_option linter.unusedSimpArgs false
namespace Go.Proofs.Ytpohfecbogppkaa
open Go Go.RowKit

/-- what is out, as a row -/
def nmf (f : Nat → Nat) (N : Nat) : List Value := (List.range N).map fun i => .int .i64 (f i : Int)
theorem nmf_length (f : Nat → Nat) (N : Nat) : (nmf f N).length = N := by simp [nmf]
theorem nmf_at (f : Nat → Nat) {N i : Nat} (h : i < N) : (nmf f N)[i]? = some (.int .i64 (f i : Int)) := by simp [nmf, h]
theorem nmf_congr {f g : Nat → Nat} {N : Nat} (h : ∀ i, i < N → f i = g i) : nmf f N = nmf g N := by
  unfold nmf
  apply List.map_congr_left
  intro i hi
  rw [h i (by simpa using hi)]
theorem nmf_snoc (f : Nat → Nat) (N p : Nat) : nmf f N ++ [.int .i64 (p : Int)] = nmf (fun i => if i = N then p else f i) (N + 1) := by
  rw [show nmf f N = nmf (fun i => if i = N then p else f i) N from nmf_congr fun i hi => by rw [if_neg (by omega)]]
  unfold nmf
  rw [List.range_succ, List.map_append]
  simp
theorem own_ne {w : World} {Bs j n k : Nat} {T T' : TypeId} {v : Value} {xs : List Value} {c : Array Value} {fr : Nat × Nat} (h : w.ownsRow Bs T k v n xs) (hb : w.heap[j]? = some (.cells c T' fr)) (hT : T ≠ T') : v.ownBlock ≠ some j := by
  rcases h.2 with ⟨rfl, _⟩ | ⟨g, cap, cur, rfl, _, hg, _⟩
  · simp [Value.ownBlock]
  · intro e
    obtain rfl : g = j := by simpa [Value.ownBlock] using e
    rw [hg] at hb
    cases hb
    exact hT rfl
structure Pl (W w : World) (B g n : Nat) (L : List Pg) (f : Nat → Nat) (N : Nat) (v : Value) : Prop where
  a : BudAt w 56 B g n L
  std : Std L
  len : L.length = n
  n2 : n ≤ 300
  low : Below W.heap.size W w
  ge : W.heap.size ≤ B ∧ W.heap.size ≤ g
  own : w.ownsRow W.heap.size 3 1 v N (nmf f N)
  inj : ∀ i j, i < N → j < N → f i = f j → i = j
  outs : ∀ i, i < N → f i < L.length ∧ (pg L (f i)).kind = 2
  many : heads L L.length = N
section
variable {W w w' w5 : World} {B g n N : Nat} {L : List Pg} {f : Nat → Nat} {v : Value}
theorem Pl.below (h : Pl W w B g n L f N v) (hb : Below w.heap.size w w') : Pl W w' B g n L f N v :=
  ⟨h.a.below hb, h.std, h.len, h.n2, below_then h.low hb, h.ge, own_below h.own hb, h.inj, h.outs, h.many⟩
theorem Pl.ownB (h : Pl W w B g n L f N v) : v.ownBlock ≠ some B := own_ne h.own h.a.box (by decide)
theorem Pl.ownG (h : Pl W w B g n L f N v) : v.ownBlock ≠ some g := by
  obtain ⟨c, hb, _⟩ := h.a.tab
  exact own_ne h.own hb (by decide)
theorem Pl.ownKept (h : Pl W w B g n L f N v) (hk : Kept (· = g) w w') : w'.ownsRow W.heap.size 3 1 v N (nmf f N) :=
  h.own.kept (row := some g) ⟨hk.os, hk.tape, hk.output, hk.size, fun k h1 h2 => hk.block k h1 (fun e => h2 (by rw [e]))⟩ (.inr h.ownG)
theorem Pl.start {w1 : World} (ha : BudAt w1 56 B g n (ini n)) (hge : W.heap.size ≤ B ∧ W.heap.size ≤ g) (hb : Below W.heap.size W w1) (h1 : 1 ≤ n) (h2 : n ≤ 300) : Pl W w1 B g n (ini n) (fun _ => 0) 0 (.slice none 0 0) :=
  ⟨ha, ini_std h1 (by omega), ini_length n, h2, hb, hge, World.ownsRow_nil _ _ _ _, fun i j hi => by omega, fun i hi => by omega, by
    have := (std_whole (ini_std h1 (by omega : n ≤ 1024))).1 (by rw [ini_length])
    exact this⟩
theorem grown_bud {X : World} {row : Option Nat} {T : TypeId} {cap : Nat} (h : BudAt w T B g cap L) (hg : w.grownBy X row) (h1 : row ≠ some B) (h2 : row ≠ some g) : BudAt X T B g cap L := by
  have hl := h.lt
  exact ⟨(hg.block B hl.1 (fun e => h1 e.symm)).trans h.box, h.tab.of_block (hg.block g hl.2 (fun e => h2 e.symm)), h.cap, h.ne, h.n1, h.n2⟩
/-- a block more is out -/
theorem Pl.more {v' : Value} {o' : Obj} {order o p : Nat} {c : Int} (h : Pl W w B g n L f N v) (hf : Fit L order o p) (h2 : 0 ≤ c) (h3 : c ≤ 8) (ha : BudAt w' 56 B g n (allocL L order o p c)) (hk : Kept (· = g) w w')
    (hown : w5.ownsRow W.heap.size 3 1 v' (N + 1) (nmf f N ++ [.int .i64 (p : Int)])) (hg : (w'.alloc o').grownBy w5 v.ownBlock) : Pl W w5 B g n (allocL L order o p c) (fun i => if i = N then p else f i) (N + 1) v' := by
  have hlen := allocL_length L order o p c
  have hp0 : (pg L p).kind ≠ 2 := by rw [hf.here]; simp [fh]
  have hne : ∀ i, i < N → f i ≠ p := fun i hi e => hp0 (by rw [← e]; exact (h.outs i hi).2)
  have hlow : Below W.heap.size W w' := below_kept h.low hk (fun k e => by have := h.ge; omega)
  refine ⟨grown_bud (ha.below (below_one (Below.refl _ _) o')) hg h.ownB h.ownG, hf.std h.std h2 h3, by rw [hlen]; exact h.len, h.n2, ?_, h.ge, by rw [← nmf_snoc]; exact hown, fun i j hi hj e => ?_, fun i hi => ?_, ?_⟩
  · exact (below_one hlow o').grown hg (by have := hlow.size; rw [size_alloc]; omega) (own_ge h.own)
  · by_cases h4 : i = N <;> by_cases h5 : j = N
    · omega
    · rw [if_pos h4, if_neg h5] at e
      exact absurd e.symm (hne j (by omega))
    · rw [if_neg h4, if_pos h5] at e
      exact absurd e (hne i (by omega))
    · rw [if_neg h4, if_neg h5] at e
      exact h.inj i j (by omega) (by omega) e
  · rw [hlen]
    by_cases h4 : i = N
    · rw [if_pos h4, hf.at_p]
      exact ⟨hf.lt, rfl⟩
    · rw [if_neg h4]
      obtain ⟨h5, h6⟩ := h.outs i (by omega)
      refine ⟨h5, ?_⟩
      rcases hf.other (c := c) h.std.cov h5 (hne i (by omega)) with e | ⟨_, e⟩
      · rw [e]; exact h6
      · exact absurd h6 e
  · rw [hlen, hf.heads h.std.cov, h.many]
/-- nothing is given out -/
theorem Pl.same (h : Pl W w B g n L f N v) (ha : BudAt w' 56 B g n L) (hk : Kept (· = g) w w') : Pl W w' B g n L f N v :=
  ⟨ha, h.std, h.len, h.n2, below_kept h.low hk (fun k e => by have := h.ge; omega), h.ge, h.ownKept hk, h.inj, h.outs, h.many⟩
/-- the last one in the place of the k-th -/
def swp (f : Nat → Nat) (N k : Nat) (i : Nat) : Nat := if i = k then f (N - 1) else f i
/-- the k-th one that is out is back -/
theorem Pl.less {hb cap k : Nat} (h : Pl W w B g n L f N (.slice (some ⟨hb, 0, none⟩) N cap)) (hkN : k < N) (ha : BudAt w' 56 B g n (freeL L (f k))) (hk : Kept (· = g) w w') :
    Pl W (w'.setCell ⟨hb, k, none⟩ (.int .i64 (f (N - 1) : Int))) B g n (freeL L (f k)) (swp f N k) (N - 1) (.slice (some ⟨hb, 0, none⟩) (N - 1) cap) := by
  have hlen := freeL_length L (f k)
  obtain ⟨hp, hkd⟩ := h.outs k hkN
  have hB := h.ownB
  have hG := h.ownG
  simp only [Value.ownBlock, ne_eq, Option.some.injEq] at hB hG
  have hown := h.ownKept hk
  have hlow : Below W.heap.size W w' := below_kept h.low hk (fun k e => by have := h.ge; omega)
  rcases hown.2 with ⟨e, _⟩ | ⟨g', cap', cur, e, hge, hgg, hc1, hc2, hsz, htk⟩
  · cases e
  cases e
  have hcell : ∀ i, i < N → cur[i]? = some (.int .i64 (f i : Int)) := fun i hi => by
    have := nmf_at f hi
    rw [← htk, List.getElem?_take, if_pos (by omega)] at this
    simpa using this
  refine ⟨ha.kept (S := (· = hb)) ((Kept.refl (· = hb) w').setCell (p := ⟨hb, k, none⟩) rfl _) (fun e => hB e.symm) (fun e => hG e.symm), free_std h.std hp hkd, by rw [hlen]; exact h.len, h.n2, hlow.setCell (p := ⟨hb, k, none⟩) hge _, h.ge, ?_, fun i j hi hj e => ?_, fun i hi => ?_, ?_⟩
  · refine ⟨by rw [nmf_length]; omega, .inr ⟨hb, cap, _, rfl, hge, cells_set hgg k _, by omega, hc2, by simpa using hsz, ?_⟩⟩
    apply List.ext_getElem?
    intro i
    rw [List.getElem?_take]
    by_cases hi : i < N - 1
    · rw [if_pos (by omega), nmf_at _ hi]
      have h1 := hcell i (by omega)
      have hs := (Array.getElem?_eq_some_iff.1 h1).1
      simp only [Array.getElem?_toList, Array.getElem?_setIfInBounds, swp]
      by_cases e : k = i
      · subst e
        simp [hs]
      · rw [if_neg e, h1, if_neg (by omega)]
    · rw [if_neg (by omega)]
      symm
      apply List.getElem?_eq_none
      rw [nmf_length]
      omega
  · unfold swp at e
    by_cases h4 : i = k <;> by_cases h5 : j = k
    · omega
    · rw [if_pos h4, if_neg h5] at e
      have := h.inj _ _ (by omega) (by omega) e
      omega
    · rw [if_neg h4, if_pos h5] at e
      have := h.inj _ _ (by omega) (by omega) e
      omega
    · rw [if_neg h4, if_neg h5] at e
      exact h.inj i j (by omega) (by omega) e
  · rw [hlen]
    have key : ∀ j, j < N → j ≠ k → f j < L.length ∧ (pg (freeL L (f k)) (f j)).kind = 2 := fun j hj hjk => by
      obtain ⟨h5, h6⟩ := h.outs j hj
      refine ⟨h5, ?_⟩
      rcases free_other h.std.cov hp hkd h5 (fun e => hjk (h.inj j k hj hkN e)) with e | ⟨_, e⟩
      · rw [e]; exact h6
      · exact absurd h6 e
    unfold swp
    by_cases h4 : i = k
    · rw [if_pos h4]
      exact key (N - 1) (by omega) (by omega)
    · rw [if_neg h4]
      exact key i (by omega) h4
  · have := free_heads h.std.cov hp hkd
    rw [h.many] at this
    rw [hlen]
    omega
/-- the k-th number of what is out -/
theorem Pl.form (h : Pl W w B g n L f N v) (h0 : 0 < N) : ∃ hb cap, v = .slice (some ⟨hb, 0, none⟩) N cap ∧ (N ≤ cap ∧ cap ≤ 9223372036854775807) ∧ (∀ i, i < N → w.cell? ⟨hb, i, none⟩ = some (.int .i64 (f i : Int))) ∧ (∀ i, w.frozen? ⟨hb, i, none⟩ = false) ∧ hb ≠ g := by
  have hG := h.ownG
  rcases h.own.2 with ⟨_, e⟩ | ⟨g', cap', cur, rfl, hge, hgg, hc1, hc2, hsz, htk⟩
  · omega
  · simp only [Value.ownBlock, ne_eq, Option.some.injEq] at hG
    refine ⟨g', cap', rfl, ⟨hc1, by unfold maxLen at hc2; omega⟩, fun i hi => ?_, fun i => self_free hgg i, hG⟩
    have := nmf_at f hi
    rw [← htk, List.getElem?_take, if_pos (by omega)] at this
    exact self_cell hgg i _ (by simpa using this)
end
end Go.Proofs.Ytpohfecbogppkaa
