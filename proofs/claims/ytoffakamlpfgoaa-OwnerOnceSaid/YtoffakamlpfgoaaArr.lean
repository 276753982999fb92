/-
  An array of six rows of seven beside the owners; counts by groups and by objects.
-/
import Derived.Test.YtoffakamlpfgoaaOne
import Derived.Test.YtoffakamlpfgoaaRm
import Derived.Test.YtoffakamlpfgoaaDo
set_option linter.unusedVariables false
set_option linter.unusedSimpArgs false
namespace Go.Proofs.Ytoffakamlpfgoaa
open Go Go.RowKit

theorem infoU : (Try.prog.info? 40).map (fun i => (i.zero, i.size, i.bytes)) = some (some (.agg (Array.replicate 42 (.int .i64 0))), 42, 336) := by kernel_rfl
theorem makeU : ∃ Z : Array Value, (∀ w : World, (zeroValue 40).run Try.prog w = .ok (.agg Z) w) ∧ ∀ w : World, RowG (w.alloc (.cells Z 40)) w.heap.size 40 42 (fun _ => .int .i64 0) :=
  ⟨_, run_zero infoU, fun w => ⟨_, heap_new _ _, fun i hi => by simp [hi]⟩⟩
def arrF (p : Ow) (j : Nat) : Value := .int .i64 (p ((j / 7 : Nat) : Int) ((j % 7 : Nat) : Int))
section
variable {W w w' : World} {B b U : Nat} {f f' p p' : Ow} {s i : Nat} {g : Int}
/-- an array beside the owners -/
structure UA (W w : World) (B b : Nat) (f : Ow) (U : Nat) (p : Ow) : Prop where
  o : O1 W w B b 6 7 f
  u : RowG w U 40 42 (arrF p)
  ge : W.heap.size ≤ U
theorem UA.km (h : UA W w B b f U p) (ho : O1 W w' B b 6 7 f') (hk : KM w w') : UA W w' B b f' U p := by
  obtain ⟨c, hb, hc⟩ := h.u
  exact ⟨ho, ⟨c, hk.box hb, hc⟩, h.ge⟩
theorem UA.below (h : UA W w B b f U p) (hb : Below w.heap.size w w') : UA W w' B b f U p := h.km (h.o.below hb) (KM.ofBelow hb)
theorem UA.drew (h : UA W w B b f U p) : UA W w.drew B b f U p := h.below (Below.refl _ w).drew
theorem UA.cu (h : UA W w B b f U p) (hs : s < 6) (hi : i < 7) : w.cell? ⟨U, s * 7 + i, none⟩ = some (.int .i64 (p s i)) := by
  have := h.u.cell (i := s * 7 + i) (by omega)
  unfold arrF at this
  rwa [show (s * 7 + i) / 7 = s by omega, show (s * 7 + i) % 7 = i by omega] at this
theorem UA.fu (h : UA W w B b f U p) (j : Nat) : w.frozen? ⟨U, j, none⟩ = false := h.u.frozen j
theorem UA.put (h : UA W w B b f U p) (hs : s < 6) (hi : i < 7) (g : Int) : UA W (w.setCell ⟨U, s * 7 + i, none⟩ (.int .i64 g)) B b f U (upd p s i g) := by
  have hk : Kept (· = U) w (w.setCell ⟨U, s * 7 + i, none⟩ (.int .i64 g)) := Kept.setCell (S := (· = U)) (p := ⟨U, s * 7 + i, none⟩) (Kept.refl _ w) rfl _
  have ht : ∀ k, k = U → Typ w [40] k := by rintro k rfl; exact h.u.typ (by simp)
  refine ⟨h.o.kept hk ht (by decide) (by rintro k rfl; exact h.ge), h.u.set _ (by omega) _ fun j hj => ?_, h.ge⟩
  unfold arrF upd
  by_cases e : j = s * 7 + i
  · rw [if_pos e, if_pos (by omega)]
  · rw [if_neg e, if_neg (by omega)]
theorem UA.congr (h : UA W w B b f U p) (e : p = p') : UA W w B b f U p' := e ▸ h
end
theorem upd_id {f : Ow} {s i g : Int} (h : f s i = g) : upd f s i g = f := by
  funext x y
  unfold upd
  split
  · next e => rw [e.1, e.2, h]
  · rfl
theorem mov_same (f : Ow) (a : Int) : mov f a a = f := by
  funext x y
  unfold mov
  split
  · next e => exact e.symm
  · rfl
theorem move_any (S O : Nat) (f : Ow) {a c : Int} (ha : grp a) (hc : grp c) : ∃ n, MoveIs S O f a c n 0 (mov f a c) := by
  by_cases h : a = c
  · subst h
    exact ⟨0, by rw [mov_same]; exact .same ha ha rfl⟩
  · exact ⟨_, .ok ha hc h⟩
/-- is it owned -/
def nz (f : Ow) : Tst := fun s i => decide (0 < f s i)
def rowC (p : Tst) (x y : Nat) : Nat := sumN (fun j : Nat => b1 (p x j)) y
theorem rowC_step (p : Tst) (x y : Nat) : rowC p x (y + 1) = rowC p x y + b1 (p x y) := rfl
theorem OI.pos {S O : Nat} {f : Ow} (h : OI S O f) (s i : Int) : 0 ≤ f s i ∧ (f s i = 0 ∨ grp (f s i)) := by
  by_cases e : f s i = 0
  · exact ⟨by omega, .inl e⟩
  · have := (h s i e).2
    exact ⟨by unfold grp at this; omega, .inr this⟩
theorem rowC_emp {f : Ow} (h : OI 6 7 f) {x : Nat} (hx : x < 6) : rowC (nz f) x 7 = 0 ↔ Emp 6 7 f x := by
  have pos : ∀ n m : Nat, m < n → rowC (nz f) x n = 0 → f x m = 0 := by
    intro n
    induction n with
    | zero => intro m hm; omega
    | succ n ih =>
      intro m hm h0
      rw [rowC_step] at h0
      rcases (by omega : m < n ∨ m = n) with h1 | rfl
      · exact ih m h1 (by omega)
      · have h1 := (h.pos x m).1
        by_cases e : 0 < f x m
        · have : b1 (nz f x m) = 1 := b1_true (decide_eq_true e)
          omega
        · omega
  constructor
  · intro h0
    exact ⟨by omega, by omega, fun i hi => pos 7 i hi h0⟩
  · intro h0
    refine sumN_zero _ 7 fun k hk => b1_false (decide_eq_false ?_)
    rw [h0.2.2 k hk]
    omega
/-- what the groups from 1 to less than k own -/
def sumG (S O : Nat) (f : Ow) : Nat → Nat
  | 0 => 0
  | k + 1 => sumG S O f k + (if 1 ≤ k then countF S O f k else 0)
theorem sumG_step (S O : Nat) (f : Ow) {k : Nat} (h : 1 ≤ k) : sumG S O f (k + 1) = sumG S O f k + countF S O f k := by rw [sumG, if_pos h]
theorem sumG_is (S O : Nat) (f : Ow) {k : Nat} (hk : k ≤ 17) : sumG S O f k = cnt (fun s i => decide (1 ≤ f s i ∧ f s i < (k : Int))) S O := by
  induction k with
  | zero => exact (cnt_none _ _ _ fun s i _ => decide_eq_false (by omega)).symm
  | succ k ih =>
    rw [sumG, ih (by omega)]
    by_cases h1 : 1 ≤ k
    · rw [if_pos h1, countF, if_pos (by unfold grp; omega)]
      refine (cnt_add S O fun s i _ => ?_).symm
      unfold ofG
      by_cases e : f s i = (k : Int)
      · rw [decide_eq_true e, decide_eq_true (by omega), decide_eq_false (by omega)]
        rfl
      · rw [decide_eq_false e]
        by_cases e2 : 1 ≤ f s i ∧ f s i < (k : Int)
        · rw [decide_eq_true e2, decide_eq_true (by omega)]
          rfl
        · rw [decide_eq_false e2, decide_eq_false (by omega)]
          rfl
    · rw [if_neg h1]
      have hk0 : k = 0 := by omega
      subst hk0
      rw [Nat.add_zero]
      refine cnt_congr S O fun s i _ => ?_
      rw [decide_eq_false (by omega), decide_eq_false (by omega)]
theorem sumG_nz {S O : Nat} {f : Ow} (h : OI S O f) : sumG S O f 17 = cnt (nz f) S O := by
  rw [sumG_is S O f (Nat.le_refl _)]
  refine cnt_congr S O fun s i _ => ?_
  unfold nz
  obtain ⟨h1, h2⟩ := h.pos s i
  by_cases e : 0 < f s i
  · have h3 : grp (f s i) := h2.resolve_left (by omega)
    unfold grp at h3
    rw [decide_eq_true e, decide_eq_true (by omega)]
  · rw [decide_eq_false e, decide_eq_false (by omega)]
theorem sumG_le (f : Ow) {k : Nat} (hk : k ≤ 17) : sumG 6 7 f k ≤ 42 := by
  rw [sumG_is 6 7 f hk]
  exact cnt_le _ 6 7
end Go.Proofs.Ytoffakamlpfgoaa
