/-
  The document's Zone in a world; its small calls.
-/
import Derived.Test.YtlljomnpdgmifaaZN
set_option linter.unusedVariables false
set_option linter.unusedSimpArgs false
namespace Go.Proofs.Ytlljomnpdgmifaa
open Go Go.RowKit

structure Rn where
  bB : Nat
  gB : Nat
  cp : Nat
  bN : Nat
  gN : Nat
  vs : Nat → Value
structure RC (w : World) (z : Nat) (N : Rn) (n : Nat) (l : List Pg) (f : F) : Prop where
  box : w.heap[z]? = some (.cells #[.pointer (some ⟨N.bB, 0, none⟩), .pointer (some ⟨N.bN, 0, none⟩)] 72 (0, 0))
  bud : BudAt w 77 N.bB N.gB N.cp l
  nr : NearG w 94 N.bN N.gN N.vs n 6 f
  fine : Fine n 6 f
def ROwn (n z : Nat) (N : Rn) (k : Nat) : Prop := k = z ∨ k = N.bB ∨ k = N.gB ∨ Own n N.bN N.gN N.vs k
def RGoes (w w' : World) (n z : Nat) (N N' : Rn) : Prop := Kept (ROwn n z N) w w' ∧ ∀ k, ROwn n z N' k → ROwn n z N k ∨ w.heap.size ≤ k
theorem TabIs.setCache {w : World} {g n : Nat} {f : Nat → Pg} (t : TabIs w g n f) (k : Nat) (x : Int) : TabIs (w.setCell ⟨g, k * 3 + 2, none⟩ (.int .i64 x)) g n (fun i => if i = k then ⟨(f i).kind, (f i).order, x⟩ else f i) := by
  obtain ⟨c, hb, hc⟩ := t
  refine ⟨_, cells_set hb (k * 3 + 2) _, fun i hi => ?_⟩
  obtain ⟨h0, h1, h2⟩ := hc i hi
  have s2 := (Array.getElem?_eq_some_iff.1 h2).1
  simp only [Array.getElem?_setIfInBounds]
  by_cases e : i = k
  · subst e
    simp [s2, h0, h1]
  · simp [e, show ¬ k * 3 + 2 = i * 3 by omega, show ¬ k * 3 + 2 = i * 3 + 1 by omega, show ¬ k = i by omega, show ¬ k * 3 = i * 3 by omega, h0, h1, h2]
section
variable {w w' w'' : World} {z n : Nat} {N N' N'' : Rn} {l l' : List Pg} {f f' : F}
theorem RC.tabB (h : RC w z N n l f) : ∃ c, w.heap[N.gB]? = some (.cells c 99 (0, 0)) := by
  obtain ⟨c, hb, _⟩ := h.bud.tab
  exact ⟨c, hb⟩
theorem RC.own_lt (h : RC w z N n l f) {k : Nat} (hk : ROwn n z N k) : k < w.heap.size := by
  rcases hk with rfl | rfl | rfl | hk
  · exact lt_of_block h.box
  · exact h.bud.lt.1
  · exact h.bud.lt.2
  · exact h.nr.own_lt hk
theorem RC.cells (h : RC w z N n l f) : w.cell? ⟨z, 0, none⟩ = some (.pointer (some ⟨N.bB, 0, none⟩)) ∧ w.cell? ⟨z, 1, none⟩ = some (.pointer (some ⟨N.bN, 0, none⟩)) :=
  ⟨self_cell h.box 0 _ rfl, self_cell h.box 1 _ rfl⟩
theorem RC.kept {S : Nat → Prop} (h : RC w z N n l f) (hk : Kept S w w') (hS : ∀ k, ROwn n z N k → ¬ S k) : RC w' z N n l f :=
  ⟨(hk.block z (lt_of_block h.box) (hS z (.inl rfl))).trans h.box, h.bud.kept hk (hS _ (.inr (.inl rfl))) (hS _ (.inr (.inr (.inl rfl)))), h.nr.kept hk (fun k o => hS k (.inr (.inr (.inr o)))), h.fine⟩
theorem RC.below (h : RC w z N n l f) (hb : Below w.heap.size w w') : RC w' z N n l f := h.kept (S := fun _ => False) (Kept.ofBelow hb) (fun _ _ h => h)
theorem RC.drew (h : RC w z N n l f) : RC w.drew z N n l f := h.below (Below.refl _ w).drew
theorem RGoes.of_below (hb : Below w.heap.size w w') : RGoes w w' n z N N := ⟨Kept.ofBelow hb, fun k h => .inl h⟩
theorem RGoes.refl (w : World) (n z : Nat) (N : Rn) : RGoes w w n z N N := ⟨Kept.refl _ _, fun k h => .inl h⟩
theorem RGoes.drew (w : World) (n z : Nat) (N : Rn) : RGoes w w.drew n z N N := RGoes.of_below (Below.refl _ w).drew
theorem RGoes.trans (h : RGoes w w' n z N N') (k : RGoes w' w'' n z N' N'') : RGoes w w'' n z N N'' := by
  refine ⟨⟨k.1.os.trans h.1.os, k.1.tape.trans h.1.tape, k.1.output.trans h.1.output, Nat.le_trans h.1.size k.1.size, fun i hi hn => ?_⟩, fun i hi => ?_⟩
  · refine (k.1.block i (Nat.lt_of_lt_of_le hi h.1.size) (fun e => ?_)).trans (h.1.block i hi hn)
    rcases h.2 i e with h1 | h1
    · exact hn h1
    · omega
  · rcases k.2 i hi with h1 | h1
    · exact h.2 i h1
    · exact .inr (Nat.le_trans h.1.size h1)
theorem RC.budded (h : RC w z N n l f) (hb : BudAt w' 77 N.bB N.gB N.cp l') (hk : Kept (· = N.gB) w w') : RC w' z N n l' f ∧ RGoes w w' n z N N := by
  obtain ⟨c, hg⟩ := h.tabB
  refine ⟨⟨(hk.block z (lt_of_block h.box) (ne_types h.box hg (by decide))).trans h.box, hb, h.nr.kept hk (fun k o e => ?_), h.fine⟩, hk.mono fun k e => .inr (.inr (.inl e)), fun k o => .inl o⟩
  subst e
  exact h.nr.not_own hg (by decide) (by decide) (by decide) o
theorem RC.neared {vs' : Nat → Value} (h : RC w z N n l f) (hN : NearG w' 94 N.bN N.gN vs' n 6 f') (hf : Fine n 6 f') (hG : Goes w w' n N.bN N.gN N.vs vs') : RC w' z { N with vs := vs' } n l f' ∧ RGoes w w' n z N { N with vs := vs' } := by
  obtain ⟨c, hg⟩ := h.tabB
  have hk := hG.1
  refine ⟨⟨(hk.block z (lt_of_block h.box) (h.nr.not_own h.box (by decide) (by decide) (by decide))).trans h.box, h.bud.kept hk (h.nr.not_own h.bud.box (by decide) (by decide) (by decide)) (h.nr.not_own hg (by decide) (by decide) (by decide)), hN, hf⟩, hk.mono fun k e => .inr (.inr (.inr e)), fun k o => ?_⟩
  rcases o with o | o | o | o
  · exact .inl (.inl o)
  · exact .inl (.inr (.inl o))
  · exact .inl (.inr (.inr (.inl o)))
  · exact (hG.2 k o).imp (fun x => .inr (.inr (.inr x))) id
/-- a head gets another cache -/
theorem RC.cached (h : RC w z N n l f) {p : Nat} (hp : p < l.length) (c : Int) : RC (w.setCell ⟨N.gB, p * 3 + 2, none⟩ (.int .i64 c)) z N n (setC l p c) f ∧ RGoes w (w.setCell ⟨N.gB, p * 3 + 2, none⟩ (.int .i64 c)) n z N N := by
  have hk : Kept (· = N.gB) w (w.setCell ⟨N.gB, p * 3 + 2, none⟩ (.int .i64 c)) := Kept.setCell (S := (· = N.gB)) (p := ⟨N.gB, p * 3 + 2, none⟩) (Kept.refl _ _) rfl _
  refine h.budded (h.bud.tabbed (hk.block _ h.bud.lt.1 h.bud.ne) ((h.bud.tab.setCache p c).congr fun i hi => ?_) (setC_length _ _ _)) hk
  rw [setC_at _ _ _ hi]
  unfold upd
  by_cases e : i = p
  · subst e; simp
  · simp [e]
/-! ### calls -/
set_option maxHeartbeats 2000000 in
theorem rzHas (h : RC w z N n l f) (c : Int) (q : Bool) (hq : decide (0 ≤ c ∧ c < (n : Int)) = q) : Calls Try.prog 49 #[.pointer (some ⟨z, 0, none⟩), .int .i64 c] w fun e w' => e = .returned (.bool q) ∧ w' = w := by
  obtain ⟨c0, c1⟩ := h.cells
  obtain ⟨d0, d1⟩ := h.nr.self
  have hn := h.nr.n1
  have HQ := Lib.hid hq
  clear hq h
  by_cases h1 : 0 ≤ c
  · by_cases h2 : c < n
    · go_enter Try.func49, Try.ntmps49
      go_wp2
      go_ret
      exact ⟨ret_bool (by rw [← HQ.out, decide_eq_true ⟨h1, h2⟩]), rfl⟩
    · go_enter Try.func49, Try.ntmps49
      go_wp2
      go_ret
      exact ⟨ret_bool (by rw [← HQ.out, decide_eq_false (by omega)]), rfl⟩
  · go_enter Try.func49, Try.ntmps49
    go_wp2
    go_ret
    exact ⟨ret_bool (by rw [← HQ.out, decide_eq_false (by omega)]), rfl⟩
set_option maxHeartbeats 2000000 in
theorem rzNearOf (h : RC w z N n l f) (c : Int) : Calls Try.prog 32 #[.pointer (some ⟨z, 0, none⟩), .int .i64 c] w fun e w' => e = .returned (.int .i64 ((listOf f n c).length : Nat)) ∧ w' = w := by
  have HZ := Lib.hid h
  by_cases hy : 0 ≤ c ∧ c < n
  · obtain ⟨k, rfl⟩ : ∃ k : Nat, c = k := ⟨c.toNat, by omega⟩
    have hk : k < n := by omega
    obtain ⟨c0, c1⟩ := h.cells
    obtain ⟨d0, d1⟩ := h.nr.self
    have d2 := h.nr.tab.cell hk
    obtain ⟨ao, cap, hv, hcap, _⟩ := (h.nr.shows hk).form
    have hn := h.nr.n1
    have hlen := h.nr.len k hk
    rw [hv] at d2
    have HE := Lib.hid (listOf_yes f hk)
    clear h hv
    go_enter Try.func32, Try.ntmps32
    go_wp2_with fail
    refine (rzHas HZ.out k true (decide_eq_true hy)).mono ?_
    rintro e w1 ⟨rfl, rfl⟩
    clear hy
    go_wp2
    go_ret
    exact ⟨by rw [HE.out]; rfl, rfl⟩
  · have HE := Lib.hid (listOf_no f hy)
    clear h
    go_enter Try.func32, Try.ntmps32
    go_wp2_with fail
    refine (rzHas HZ.out c false (decide_eq_false hy)).mono ?_
    rintro e w1 ⟨rfl, rfl⟩
    clear hy
    go_wp2
    go_ret
    exact ⟨by rw [HE.out]; rfl, rfl⟩
set_option maxHeartbeats 4000000 in
theorem rzNear (h : RC w z N n l f) : Calls Try.prog 52 #[.pointer (some ⟨z, 0, none⟩)] w fun e w' => e = .returned (.int .i64 (cnt n f : Nat)) ∧ w' = w := by
  obtain ⟨c0, c1⟩ := h.cells
  obtain ⟨d0, d1⟩ := h.nr.self
  have hn := h.nr.n1
  have HZ := Lib.hid h
  clear h
  go_enter Try.func52, Try.ntmps52
  go_wp2
  go_loopw [3, 4] (fun m i wr => ∃ k : Nat, k ≤ n ∧ i = .int .i64 k ∧ m = .int .i64 (cnt k f : Nat) ∧ cnt k f ≤ 6 * k ∧ wr = w) (fun _ i _ => n - (intOf i).toNat)
  case atStart => exact ⟨0, by omega, rfl, rfl, by simp [cnt, sumTo], rfl⟩
  case round =>
    obtain ⟨k, hk, rfl, rfl, hc, rfl⟩ := hrel
    by_cases hlt : k < n
    · have hlk := HZ.out.fine k hlt
      have HS : Hid (cnt (k + 1) f = cnt k f + (f k).length) := Lib.hid rfl
      have d2 := HZ.out.nr.tab.cell hlt
      obtain ⟨ao, cap, hv, hcap, _⟩ := (HZ.out.nr.shows hlt).form
      rw [hv] at d2
      clear hv
      generalize cnt k f = m at hc HS
      generalize (f k).length = s at hlk HS d2 hcap
      go_wp2
      go_roundw
      case rel => exact ⟨k + 1, by omega, by go_num, by rw [HS.out]; go_num, by rw [HS.out]; omega, by first | trivial | rfl⟩
      case measure => simp [intOf]; omega
    · obtain rfl : k = n := by omega
      go_wp2
      go_ret
      exact ⟨rfl, rfl⟩
end
end Go.Proofs.Ytlljomnpdgmifaa
