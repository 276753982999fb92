/-
  All places that a chart names: each once, each within; what is seen hangs on their words alone.
-/
import Derived.Test.YtnnfmlbgoplnaaaPure
set_option linter.unusedVariables false
set_option linter.unusedSimpArgs false
namespace Go.Proofs.Ytnnfmlbgoplnaaa
open Go Go.RowKit

/-- a processor's, a slab's -/
def cpuP (i : Nat) : List Int := [4 * i, 4 * i + 1, 4 * i + 2, 4 * i + 3]
def slabP (c : Ch) (s : Nat) : List Int := [c.s0 + 4 * s, c.s0 + 4 * s + 1, c.s0 + 4 * s + 2] ++ (List.range c.objs.toNat).map (fun t : Nat => c.l0 + s * c.objs + t)
def plc (c : Ch) : List Int := [4 * c.cpus, 4 * c.cpus + 1, 4 * c.cpus + 2] ++ (List.range c.cpus.toNat).flatMap cpuP ++ (List.range c.slabs.toNat).flatMap (slabP c)
theorem nodup_flat {f : Nat → List Int} (n : Nat) (h1 : ∀ i, i < n → (f i).Nodup) (h2 : ∀ i j x, i < n → j < n → x ∈ f i → x ∈ f j → i = j) : ((List.range n).flatMap f).Nodup := by
  induction n with
  | zero => simp
  | succ n ih =>
    rw [List.range_succ, List.flatMap_append, List.nodup_append]
    refine ⟨ih (fun i hi => h1 i (by omega)) (fun i j x hi hj => h2 i j x (by omega) (by omega)), by simpa using h1 n (by omega), ?_⟩
    intro x hx y hy e
    subst e
    obtain ⟨i, hi, hxi⟩ := List.mem_flatMap.1 hx
    have hi' : i < n := by simpa using hi
    have hxn : x ∈ f n := by simpa using hy
    have := h2 i n x (by omega) (by omega) hxi hxn
    omega
theorem mem_cpuP {i : Nat} {x : Int} : x ∈ cpuP i ↔ (4 * (i : Int) ≤ x ∧ x < 4 * (i : Int) + 4) := by
  simp [cpuP]
  omega
theorem mem_slabP {c : Ch} (ho : c.ok) {s : Nat} {x : Int} : x ∈ slabP c s ↔ ((c.s0 + 4 * (s : Int) ≤ x ∧ x < c.s0 + 4 * (s : Int) + 3) ∨ (c.l0 + s * c.objs ≤ x ∧ x < c.l0 + s * c.objs + c.objs)) := by
  obtain ⟨_, _, ⟨o5, o6⟩, _⟩ := ho
  unfold slabP
  rw [List.mem_append, List.mem_map]
  generalize (s : Int) * c.objs = R
  constructor
  · rintro (h | ⟨t, ht, rfl⟩)
    · left
      simp at h
      omega
    · right
      rw [List.mem_range] at ht
      omega
  · rintro (h | h)
    · left
      simp
      omega
    · right
      exact ⟨(x - (c.l0 + R)).toNat, by rw [List.mem_range]; omega, by omega⟩
theorem prod_lt {c : Ch} (ho : c.ok) {s t : Nat} (h : s < t) : (s : Int) * c.objs + c.objs ≤ (t : Int) * c.objs := by
  obtain ⟨_, _, ⟨o5, o6⟩, _⟩ := ho
  have := mul_le (s := (s : Int) + 1) (t := (t : Int)) (o := c.objs) (by omega) (by omega)
  rw [Int.add_mul] at this
  omega
theorem slab_one {c : Ch} (ho : c.ok) {s t : Nat} {x : Int} (hs : (s : Int) < c.slabs) (ht : (t : Int) < c.slabs) (h1 : x ∈ slabP c s) (h2 : x ∈ slabP c t) : s = t := by
  rw [mem_slabP ho] at h1 h2
  have ps := Ch.prod_at ho (s := (s : Int)) (by omega) hs
  have pt := Ch.prod_at ho (s := (t : Int)) (by omega) ht
  rcases Nat.lt_trichotomy s t with h | h | h
  · have := prod_lt ho h
    unfold Ch.l0 Ch.s0 at *
    generalize (s : Int) * c.objs = R at *
    generalize (t : Int) * c.objs = U at *
    omega
  · exact h
  · have := prod_lt ho h
    unfold Ch.l0 Ch.s0 at *
    generalize (s : Int) * c.objs = R at *
    generalize (t : Int) * c.objs = U at *
    omega
theorem slab_nodup {c : Ch} (ho : c.ok) {s : Nat} (hs : (s : Int) < c.slabs) : (slabP c s).Nodup := by
  have ps := Ch.prod_at ho (s := (s : Int)) (by omega) hs
  unfold slabP
  rw [List.nodup_append]
  refine ⟨by simp; omega, ?_, ?_⟩
  · exact List.Pairwise.map _ (fun a b (h : a ≠ b) => by omega) List.nodup_range
  · intro x hx y hy e
    subst e
    obtain ⟨t, ht, rfl⟩ := List.mem_map.1 hy
    simp at hx
    unfold Ch.l0 Ch.s0 at *
    generalize (s : Int) * c.objs = R at *
    omega
theorem plc_in {c : Ch} (ho : c.ok) {x : Int} (h : x ∈ plc c) : 0 ≤ x ∧ x < c.n := by
  have hp := Ch.prod ho
  have ho' := ho
  obtain ⟨⟨o1, o2⟩, ⟨o3, o4⟩, ⟨o5, o6⟩, _⟩ := ho
  unfold plc at h
  rw [List.mem_append, List.mem_append] at h
  rcases h with (h | h) | h
  · simp at h
    unfold Ch.n
    omega
  · obtain ⟨i, hi, hx⟩ := List.mem_flatMap.1 h
    rw [List.mem_range] at hi
    rw [mem_cpuP] at hx
    unfold Ch.n
    omega
  · obtain ⟨s, hs, hx⟩ := List.mem_flatMap.1 h
    rw [List.mem_range] at hs
    rw [mem_slabP ho'] at hx
    have ps := Ch.prod_at ho' (s := (s : Int)) (by omega) (by omega)
    unfold Ch.n Ch.l0 Ch.s0 at *
    generalize (s : Int) * c.objs = R at *
    generalize c.slabs * c.objs = U at *
    omega
theorem plc_nodup {c : Ch} (ho : c.ok) : (plc c).Nodup := by
  have hp := Ch.prod ho
  have ho' := ho
  obtain ⟨⟨o1, o2⟩, ⟨o3, o4⟩, ⟨o5, o6⟩, _⟩ := ho
  unfold plc
  rw [List.nodup_append, List.nodup_append]
  refine ⟨⟨by simp; omega, ?_, ?_⟩, ?_, ?_⟩
  · refine nodup_flat _ (fun i hi => by simp [cpuP]; omega) (fun i j x hi hj h1 h2 => ?_)
    rw [mem_cpuP] at h1 h2
    omega
  · intro x hx y hy e
    subst e
    obtain ⟨i, hi, h2⟩ := List.mem_flatMap.1 hy
    rw [List.mem_range] at hi
    rw [mem_cpuP] at h2
    simp at hx
    omega
  · exact nodup_flat _ (fun s hs => slab_nodup ho' (by omega)) (fun s t x hs ht h1 h2 => slab_one ho' (by omega) (by omega) h1 h2)
  · intro x hx y hy e
    subst e
    obtain ⟨s, hs, h2⟩ := List.mem_flatMap.1 hy
    rw [List.mem_range] at hs
    rw [mem_slabP ho'] at h2
    have ps := Ch.prod_at ho' (s := (s : Int)) (by omega) (by omega)
    have hx2 : x < 4 * c.cpus + 3 := by
      rcases List.mem_append.1 hx with h | h
      · simp at h
        omega
      · obtain ⟨i, hi, h3⟩ := List.mem_flatMap.1 h
        rw [List.mem_range] at hi
        rw [mem_cpuP] at h3
        omega
    unfold Ch.l0 Ch.s0 at *
    generalize (s : Int) * c.objs = R at *
    omega
end Go.Proofs.Ytnnfmlbgoplnaaa
