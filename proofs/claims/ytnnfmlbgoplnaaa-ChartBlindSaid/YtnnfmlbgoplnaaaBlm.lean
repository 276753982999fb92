/-
  What is seen hangs on the words at the places that a chart names, alone.
-/
import Derived.Test.YtnnfmlbgoplnaaaApm
set_option linter.unusedVariables false
set_option linter.unusedSimpArgs false
namespace Go.Proofs.Ytnnfmlbgoplnaaa
open Go Go.RowKit

/-- the same words at each place that is named -/
structure Alike (c : Ch) (l m : List Int) : Prop where
  len : l.length = m.length
  at_ : ∀ x ∈ plc c, pk l x.toNat = pk m x.toNat
section
variable {c : Ch} {l m : List Int}
theorem cpu_in {i : Nat} (hi : (i : Int) < c.cpus) {x : Int} (h : 4 * (i : Int) ≤ x ∧ x < 4 * (i : Int) + 4) : x ∈ plc c := by
  unfold plc
  refine List.mem_append_left _ (List.mem_append_right _ (List.mem_flatMap.2 ⟨i, by rw [List.mem_range]; omega, mem_cpuP.2 h⟩))
theorem slab_in (ho : c.ok) {s : Nat} (hs : (s : Int) < c.slabs) {x : Int} (h : x ∈ slabP c s) : x ∈ plc c := by
  unfold plc
  exact List.mem_append_right _ (List.mem_flatMap.2 ⟨s, by rw [List.mem_range]; omega, h⟩)
theorem core_in {x : Int} (h : 4 * c.cpus ≤ x ∧ x < 4 * c.cpus + 3) : x ∈ plc c := by
  unfold plc
  refine List.mem_append_left _ (List.mem_append_left _ ?_)
  simp
  omega
theorem sub_same (ho : c.ok) (hl : (l.length : Int) = c.n) (h : Alike c l m) {s : Int} (h0 : 0 ≤ s) (h1 : s < c.slabs) : sub l (c.l0 + s * c.objs).toNat c.objs.toNat = sub m (c.l0 + s * c.objs).toNat c.objs.toNat := by
  obtain ⟨S, rfl⟩ : ∃ S : Nat, s = S := ⟨s.toNat, by omega⟩
  have ps := Ch.prod_at ho h0 h1
  have hin : ∀ t : Nat, (t : Int) < c.objs → c.l0 + (S : Int) * c.objs + t ∈ plc c := fun t ht => slab_in ho h1 ((mem_slabP ho).2 (.inr (by omega)))
  obtain ⟨⟨o1, o2⟩, ⟨o3, o4⟩, ⟨o5, o6⟩, _⟩ := ho
  have hlen := h.len
  have hfit : (c.l0 + (S : Int) * c.objs).toNat + c.objs.toNat ≤ l.length := by
    unfold Ch.n at hl
    unfold Ch.l0 at *
    generalize (S : Int) * c.objs = R at *
    generalize c.slabs * c.objs = U at *
    omega
  have hF0 : 0 ≤ c.l0 + (S : Int) * c.objs := by unfold Ch.l0; omega
  unfold sub
  refine List.ext_getElem (by simp; omega) (fun j h2 h3 => ?_)
  rw [List.getElem_take, List.getElem_take, List.getElem_drop, List.getElem_drop]
  have hj : j < c.objs.toNat := by simp at h2; omega
  have := h.at_ _ (hin j (by omega))
  rw [show (c.l0 + (S : Int) * c.objs + (j : Int)).toNat = (c.l0 + (S : Int) * c.objs).toNat + j by omega] at this
  rw [pk_at l _ (by omega), pk_at m _ (by omega)]
  exact this
theorem list_same (ho : c.ok) (hl : (l.length : Int) = c.n) (h : Alike c l m) (s a : Int) : listF l c s a = listF m c s a := by
  unfold listF
  by_cases hb : s < 0 ∨ c.slabs ≤ s ∨ c.objs ≤ a
  · rw [if_pos hb, if_pos hb]
  · rw [if_neg hb, if_neg hb, sub_same ho hl h (by omega) (by omega)]
theorem next_same (ho : c.ok) (h : Alike c l m) {s : Int} (h0 : 0 ≤ s) (h1 : s < c.slabs) : nxW l c s = nxW m c s := by
  obtain ⟨S, rfl⟩ : ∃ S : Nat, s = S := ⟨s.toNat, by omega⟩
  exact h.at_ _ (slab_in ho h1 ((mem_slabP ho).2 (.inl (by omega))))
theorem pr_same (ho : c.ok) (h : Alike c l m) : ∀ f seen v, prF l c f seen v = prF m c f seen v := by
  intro f
  induction f with
  | zero => intro seen v; rfl
  | succ f ih =>
    intro seen v
    unfold prF
    by_cases hb : ¬ isP v ∨ c.slabs ≤ pS v ∨ pS v ∈ seen
    · rw [if_pos hb, if_pos hb]
    · rw [if_neg hb, if_neg hb]
      by_cases hz : pS v < 0
      · rw [if_pos hz, if_pos hz]
      · rw [if_neg hz, if_neg hz, next_same ho h (by omega) (by omega)]
        exact ih _ _
theorem sh_same (ho : c.ok) (h : Alike c l m) : ∀ f seen v, 0 ≤ v → (∀ s, 0 ≤ nxW m c s) → shF l c f seen v = shF m c f seen v := by
  intro f
  induction f with
  | zero => intro seen v _ _; rfl
  | succ f ih =>
    intro seen v hv hx
    unfold shF
    by_cases hz : v = 0
    · rw [if_pos hz, if_pos hz]
    · rw [if_neg hz, if_neg hz]
      by_cases hb : c.slabs < v ∨ v - 1 ∈ seen
      · rw [if_pos hb, if_pos hb]
      · rw [if_neg hb, if_neg hb, next_same ho h (by omega) (by omega)]
        exact ih _ _ (hx _) hx
theorem cpu_same (h : Alike c l m) {i : Nat} (hi : (i : Int) < c.cpus) (j : Int) (h0 : 0 ≤ j) (h1 : j < 4) : pk l (4 * (i : Int) + j).toNat = pk m (4 * (i : Int) + j).toNat := h.at_ _ (cpu_in hi (by omega))
theorem hd_same (ho : c.ok) (hl : (l.length : Int) = c.n) (h : Alike c l m) {i : Nat} (hi : (i : Int) < c.cpus) : hdF l c i = hdF m c i := by
  have e := cpu_same h hi 0 (by omega) (by omega)
  rw [Int.add_zero] at e
  unfold hdF
  rw [e, list_same ho hl h]
theorem slot_same (ho : c.ok) (hl : (l.length : Int) = c.n) (h : Alike c l m) {i : Nat} (hi : (i : Int) < c.cpus) : slotE l c i = slotE m c i ∧ slotV l c i = slotV m c i := by
  have e := cpu_same h hi 0 (by omega) (by omega)
  rw [Int.add_zero] at e
  have e1 := cpu_same h hi 1 (by omega) (by omega)
  have e2 := cpu_same h hi 2 (by omega) (by omega)
  unfold slotE slotV prW
  rw [e, e1, e2, hd_same ho hl h hi, pr_same ho h]
  exact ⟨rfl, rfl⟩
theorem slab_same (ho : c.ok) (hl : (l.length : Int) = c.n) (h : Alike c l m) {s : Nat} (hs : (s : Int) < c.slabs) : slabE l c s = slabE m c s ∧ slabV l c s = slabV m c s := by
  have e0 := h.at_ (c.s0 + 4 * s) (slab_in ho hs ((mem_slabP ho).2 (.inl (by omega))))
  have e1 := h.at_ (c.s0 + 4 * s + 1) (slab_in ho hs ((mem_slabP ho).2 (.inl (by omega))))
  unfold slabE slabV
  rw [e0, e1, list_same ho hl h]
  exact ⟨rfl, rfl⟩
theorem allB_same {p q : Nat → Bool} {n : Nat} (h : ∀ i, i < n → p i = q i) : allB p n = allB q n := by
  rw [Bool.eq_iff_iff, allB_iff, allB_iff]
  exact ⟨fun a i hi => by rw [← h i hi]; exact a i hi, fun a i hi => by rw [h i hi]; exact a i hi⟩
theorem see_same (hm : ∀ i, okW (pk m i)) (h : Alike c l m) : see l c = see m c := by
  unfold see
  by_cases hc : c.ok ∧ (l.length : Int) = c.n
  · have hl := hc.2
    have ho := hc.1
    rw [if_pos hc, if_pos (by rw [← h.len]; exact hc)]
    have e1 : slotsB l c = slotsB m c := allB_same fun i hi => (slot_same ho hl h (by omega)).1
    have e2 : slabsB l c = slabsB m c := allB_same fun i hi => (slab_same ho hl h (by omega)).1
    have e3 : shelfF l c = shelfF m c := by
      unfold shelfF shW
      rw [h.at_ _ (core_in (x := 4 * c.cpus + 1) (by omega))]
      exact sh_same ho h _ _ _ (hm _).1 (fun s => (hm _).1)
    have e4 : slotsV l c = slotsV m c := List.map_congr_left fun i hi => (slot_same ho hl h (by rw [List.mem_range] at hi; omega)).2
    have e5 : slabsV l c = slabsV m c := List.map_congr_left fun i hi => (slab_same ho hl h (by rw [List.mem_range] at hi; omega)).2
    have e6 : pk l (4 * c.cpus).toNat = pk m (4 * c.cpus).toNat := h.at_ _ (core_in (by omega))
    unfold seeF coreV
    rw [e1, e2, e3, e4, e5, e6]
  · rw [if_neg hc, if_neg (by rw [← h.len]; exact hc)]
end
end Go.Proofs.Ytnnfmlbgoplnaaa
