/-
  A region that draws its order, by what holds whatever has come up so far (no program in it).
-/
import Derived.Test.YtifkkblmcdggmaaCheck
import Derived.Deep.OwnRows
set_option linter.unusedVariables false
set_option linter.unusedSimpArgs false
namespace Go.Proofs.Ytifkkblmcdggmaa
open Go

section
variable {P : Program} {ops : Array Oper} {Q : Exit → Act → World → Prop} {md : Region.Mode} {Inv : Array Bool → Act → World → Prop}
theorem filter_le (p q : Nat → Bool) (l : List Nat) (h : ∀ j ∈ l, q j = true → p j = true) : (l.filter q).length ≤ (l.filter p).length := by
  induction l with
  | nil => simp
  | cons x r ih =>
    have ih' := ih (fun j hj => h j (by simp [hj]))
    have hx := h x (by simp)
    cases hq : q x with
    | false =>
      cases hp : p x <;> simp [hq, hp] <;> omega
    | true => simp [hq, hx hq]; exact ih'
theorem filter_lt (p q : Nat → Bool) (l : List Nat) (i : Nat) (hi : i ∈ l) (hp : p i = true) (hq : q i = false) (h : ∀ j ∈ l, q j = true → p j = true) : (l.filter q).length + 1 ≤ (l.filter p).length := by
  induction l with
  | nil => cases hi
  | cons x r ih =>
    have hle := filter_le p q r (fun j hj => h j (by simp [hj]))
    by_cases hxi : x = i
    · subst hxi
      simp [hq, hp]
      exact hle
    · have hir : i ∈ r := by
        rcases List.mem_cons.1 hi with h1 | h1
        · exact absurd h1.symm hxi
        · exact h1
      have ih' := ih hir (fun j hj => h j (by simp [hj]))
      have hx := h x (by simp)
      cases hqx : q x with
      | false => cases hpx : p x <;> simp [hqx, hpx] <;> omega
      | true => simp [hqx, hx hqx]; exact ih'
def left' (ops : Array Oper) (listed : Array Bool) : Nat := ((List.range ops.size).filter fun i => !listed.getD i true).length
theorem ready_spec {listed : Array Bool} {i : Nat} (h : i ∈ Region.ready md ops listed) : i < ops.size ∧ listed.getD i true = false ∧ ∃ o, ops[i]? = some o ∧ (o.after.all fun e => !Region.binds md e || listed.getD e.on false) = true := by
  unfold Region.ready at h
  rw [List.mem_filter] at h
  obtain ⟨h1, h2⟩ := h
  rw [Bool.and_eq_true] at h2
  refine ⟨by simpa using h1, by simpa using h2.1, ?_⟩
  cases ho : ops[i]? with
  | none => simp [ho] at h2
  | some o => exact ⟨o, rfl, by simpa [ho] using h2.2⟩
theorem set_getD (listed : Array Bool) (i j : Nat) (d : Bool) (hi : i < listed.size) : (listed.setIfInBounds i true).getD j d = if j = i then true else listed.getD j d := by
  rw [Array.getD_eq_getD_getElem?, Array.getD_eq_getD_getElem?, Array.getElem?_setIfInBounds]
  by_cases h : j = i
  · subst h
    simp [hi]
  · simp [h, Ne.symm h]
theorem wpAny_inv (hsize : ∀ listed a w, Inv listed a w → listed.size = ops.size)
    (hstep : ∀ listed a w i, i ∈ Region.ready md ops listed → Inv listed a w → wpOp P ops Q i (Inv (listed.setIfInBounds i true)) a w)
    (hend : ∀ listed a w, Region.ready md ops listed = [] → Inv listed a w → Q .normal a w) :
    ∀ (fuel : Nat) (listed : Array Bool) (a : Act) (w : World), left' ops listed ≤ fuel → Inv listed a w → wpAny P md ops Q fuel listed a w := by
  intro fuel
  induction fuel with
  | zero =>
    intro listed a w hl hi
    have hr : Region.ready md ops listed = [] := by
      rw [List.eq_nil_iff_forall_not_mem]
      intro i h
      obtain ⟨h1, h2, _⟩ := ready_spec h
      have h3 : i ∈ (List.range ops.size).filter fun i => !listed.getD i true := by rw [List.mem_filter]; exact ⟨by simpa using h1, by rw [h2]; rfl⟩
      have h4 := List.length_pos_of_mem h3
      unfold left' at hl
      omega
    exact ⟨hr, hend _ _ _ hr hi⟩
  | succ fuel ih =>
    intro listed a w hl hi
    refine ⟨fun hr => hend _ _ _ hr hi, fun i hri => ?_⟩
    obtain ⟨h1, h2, _⟩ := ready_spec hri
    have hsz := hsize _ _ _ hi
    refine wpOp_mono (fun a' w' h => ih _ _ _ ?_ h) (hstep listed a w i hri hi)
    have := filter_lt (fun i => !listed.getD i true) (fun j => !(listed.setIfInBounds i true).getD j true) (List.range ops.size) i (by simpa using h1) (by show (!listed.getD i true) = true; rw [h2]; rfl) (by rw [set_getD _ _ _ _ (by omega)]; simp)
      (fun j _ hj => by
        rw [set_getD _ _ _ _ (by omega)] at hj
        by_cases e : j = i
        · simp [e] at hj
        · simpa [e] using hj)
    unfold left' at hl ⊢
    omega
theorem wp_region_inv {id : Nat} {a : Act} {w : World} (hm : P.follows .mixedOrders = true) (hsize : ∀ listed a w, Inv listed a w → listed.size = ops.size)
    (hstep : ∀ listed a w i, i ∈ Region.ready .any ops listed → Inv listed a w → wpOp P ops Q i (Inv (listed.setIfInBounds i true)) a w)
    (hend : ∀ listed a w, Region.ready .any ops listed = [] → Inv listed a w → Q .normal a w) (h0 : Inv (Array.replicate ops.size false) a w.drew) : (Code.region id ops true).wp P Q a w :=
  wp_region_any hm (wpAny_inv hsize hstep hend _ _ _ _ (by
    unfold left'
    exact Nat.le_trans (List.length_filter_le _ _) (by simp)) h0)
/-- one operation that yields a value -/
theorem wpOp_value {i : Nat} {o : Oper} {K : Act → World → Prop} {a : Act} {w w' : World} {v : Value} (ho : ops[i]? = some o) (hg : o.guard = none) (hr : (execOp a.eval o).run P w = .ok (.value v) w') (h : K (a.put o.dst v) w') : wpOp P ops Q i K a w := by
  unfold wpOp
  rw [ho]
  dsimp only
  have hw : Region.wanted o (yielded ops a.tmps) = true := by simp [Region.wanted, hg]
  rw [if_pos hw]
  left
  unfold Oper.wp
  rw [hr]
  exact h
end
end Go.Proofs.Ytifkkblmcdggmaa
