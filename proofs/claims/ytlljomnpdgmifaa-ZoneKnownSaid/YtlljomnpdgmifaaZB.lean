/-
  A Zone in a world; its small calls: isNone, refuses, Near, allNear, tag, untag, handOn.
-/
import Derived.Test.YtlljomnpdgmifaaZT
import Derived.Test.YtlljomnpdgmifaaStep6
set_option linter.unusedVariables false
set_option linter.unusedSimpArgs false
namespace Go.Proofs.Ytlljomnpdgmifaa
open Go Go.RowKit

/-- where a Zone's parts lie -/
structure Zn where
  bB : Nat
  gB : Nat
  cp : Nat
  bN : Nat
  gN : Nat
  bM : Nat
  vs : Nat → Value
/-- a Zone at block z, its table without caches, its near pages, what its pages say -/
structure ZB (w : World) (z : Nat) (N : Zn) (n : Nat) (l : List Pg) (f : F) (t : Int → Option Pg) : Prop where
  box : w.heap[z]? = some (.cells #[.int .i64 n, .pointer (some ⟨N.bB, 0, none⟩), .pointer (some ⟨N.bN, 0, none⟩), .map (some N.bM)] 60 (0, 0))
  bud : BudAt w 92 N.bB N.gB N.cp (er l)
  nr : NearG w 89 N.bN N.gN N.vs n 6 f
  fine : Fine n 6 f
  tags : TagsAt w N.bM t
def ZOwn (n z : Nat) (N : Zn) (k : Nat) : Prop := k = z ∨ k = N.bB ∨ k = N.gB ∨ Own n N.bN N.gN N.vs k ∨ k = N.bM
def ZGoes (w w' : World) (n z : Nat) (N N' : Zn) : Prop := Kept (ZOwn n z N) w w' ∧ ∀ k, ZOwn n z N' k → ZOwn n z N k ∨ w.heap.size ≤ k
/-- a near page's block is of one of three types -/
theorem NearG.kind {w : World} {T : TypeId} {B g n lim : Nat} {vs : Nat → Value} {f : F} (h : NearG w T B g vs n lim f) {k : Nat} (hk : Own n B g vs k) : ∃ c T' fr, w.heap[k]? = some (.cells c T' fr) ∧ (T' = T ∨ T' = 73 ∨ T' = 3) := by
  rcases hk with rfl | rfl | ⟨i, hi, e⟩
  · exact ⟨_, _, _, h.box, .inl rfl⟩
  · obtain ⟨c, hb, _⟩ := h.tab
    exact ⟨_, _, _, hb, .inr (.inl rfl)⟩
  · rcases (h.row i hi).2 with ⟨e0, _⟩ | ⟨r, cap, cur, e0, _, hb, _⟩
    · rw [e0] at e; simp [Value.ownBlock] at e
    · rw [e0] at e
      obtain rfl : r = k := by simpa [Value.ownBlock] using e
      exact ⟨_, _, _, hb, .inr (.inr rfl)⟩
theorem NearG.not_own {w : World} {T T2 : TypeId} {B g n lim k : Nat} {vs : Nat → Value} {f : F} {c : Array Value} {fr : Nat × Nat} (h : NearG w T B g vs n lim f) (hb : w.heap[k]? = some (.cells c T2 fr)) (h1 : T2 ≠ T) (h2 : T2 ≠ 73) (h3 : T2 ≠ 3) : ¬ Own n B g vs k := fun o => by
  obtain ⟨c', T', fr', hb', e⟩ := h.kind o
  rw [hb] at hb'
  cases hb'
  rcases e with e | e | e
  · exact h1 e
  · exact h2 e
  · exact h3 e
theorem NearG.not_map {w : World} {T : TypeId} {B g n lim b : Nat} {vs : Nat → Value} {f : F} {t : Int → Option Pg} (h : NearG w T B g vs n lim f) (ht : TagsAt w b t) : ¬ Own n B g vs b := fun o => by
  obtain ⟨c', T', fr', hb', _⟩ := h.kind o
  exact ht.ne hb' rfl
theorem ne_types {w : World} {a b : Nat} {c d : Array Value} {S T : TypeId} {fr fr' : Nat × Nat} (h1 : w.heap[a]? = some (.cells c S fr)) (h2 : w.heap[b]? = some (.cells d T fr')) (hne : S ≠ T) : a ≠ b := by
  rintro rfl
  rw [h1] at h2
  cases h2
  exact hne rfl
section
variable {w w' w'' : World} {z n : Nat} {N N' N'' : Zn} {l l' : List Pg} {f f' : F} {t t' : Int → Option Pg}
theorem ZB.tabB (h : ZB w z N n l f t) : ∃ c, w.heap[N.gB]? = some (.cells c 99 (0, 0)) := by
  obtain ⟨c, hb, _⟩ := h.bud.tab
  exact ⟨c, hb⟩
theorem ZB.own_lt (h : ZB w z N n l f t) {k : Nat} (hk : ZOwn n z N k) : k < w.heap.size := by
  rcases hk with rfl | rfl | rfl | hk | rfl
  · exact lt_of_block h.box
  · exact h.bud.lt.1
  · exact h.bud.lt.2
  · exact h.nr.own_lt hk
  · exact h.tags.lt
theorem ZB.cells (h : ZB w z N n l f t) : w.cell? ⟨z, 0, none⟩ = some (.int .i64 n) ∧ w.cell? ⟨z, 1, none⟩ = some (.pointer (some ⟨N.bB, 0, none⟩)) ∧ w.cell? ⟨z, 2, none⟩ = some (.pointer (some ⟨N.bN, 0, none⟩)) ∧ w.cell? ⟨z, 3, none⟩ = some (.map (some N.bM)) :=
  ⟨self_cell h.box 0 _ rfl, self_cell h.box 1 _ rfl, self_cell h.box 2 _ rfl, self_cell h.box 3 _ rfl⟩
theorem ZB.kept {S : Nat → Prop} (h : ZB w z N n l f t) (hk : Kept S w w') (hS : ∀ k, ZOwn n z N k → ¬ S k) : ZB w' z N n l f t :=
  ⟨(hk.block z (lt_of_block h.box) (hS z (.inl rfl))).trans h.box, h.bud.kept hk (hS _ (.inr (.inl rfl))) (hS _ (.inr (.inr (.inl rfl)))), h.nr.kept hk (fun k o => hS k (.inr (.inr (.inr (.inl o))))), h.fine, h.tags.kept hk (hS _ (.inr (.inr (.inr (.inr rfl)))))⟩
theorem ZB.below (h : ZB w z N n l f t) (hb : Below w.heap.size w w') : ZB w' z N n l f t := h.kept (S := fun _ => False) (Kept.ofBelow hb) (fun _ _ h => h)
theorem ZGoes.of_below (hb : Below w.heap.size w w') : ZGoes w w' n z N N := ⟨Kept.ofBelow hb, fun k h => .inl h⟩
theorem ZGoes.refl (w : World) (n z : Nat) (N : Zn) : ZGoes w w n z N N := ⟨Kept.refl _ _, fun k h => .inl h⟩
theorem ZGoes.trans (h : ZGoes w w' n z N N') (k : ZGoes w' w'' n z N' N'') : ZGoes w w'' n z N N'' := by
  refine ⟨⟨k.1.os.trans h.1.os, k.1.tape.trans h.1.tape, k.1.output.trans h.1.output, Nat.le_trans h.1.size k.1.size, fun i hi hn => ?_⟩, fun i hi => ?_⟩
  · refine (k.1.block i (Nat.lt_of_lt_of_le hi h.1.size) (fun e => ?_)).trans (h.1.block i hi hn)
    rcases h.2 i e with h1 | h1
    · exact hn h1
    · omega
  · rcases k.2 i hi with h1 | h1
    · exact h.2 i h1
    · exact .inr (Nat.le_trans h.1.size h1)
/-- the table is written -/
theorem ZB.budded (h : ZB w z N n l f t) (hb : BudAt w' 92 N.bB N.gB N.cp (er l')) (hk : Kept (· = N.gB) w w') : ZB w' z N n l' f t ∧ ZGoes w w' n z N N := by
  obtain ⟨c, hg⟩ := h.tabB
  refine ⟨⟨(hk.block z (lt_of_block h.box) (ne_types h.box hg (by decide))).trans h.box, hb, h.nr.kept hk (fun k o e => ?_), h.fine, h.tags.kept hk (fun e => ?_)⟩, hk.mono fun k e => .inr (.inr (.inl e)), fun k o => .inl o⟩
  · subst e
    exact h.nr.not_own hg (by decide) (by decide) (by decide) o
  · exact h.tags.ne hg e.symm
/-- what the pages say is written -/
theorem ZB.tagged (h : ZB w z N n l f t) (ht : TagsAt w' N.bM t') (hk : Kept (· = N.bM) w w') : ZB w' z N n l f t' ∧ ZGoes w w' n z N N := by
  refine ⟨⟨(hk.block z (lt_of_block h.box) (h.tags.ne h.box)).trans h.box, h.bud.kept hk (h.tags.ne h.bud.box) (by obtain ⟨c, hg⟩ := h.tabB; exact h.tags.ne hg), h.nr.kept hk (fun k o e => ?_), h.fine, ht⟩, hk.mono fun k e => .inr (.inr (.inr (.inr e))), fun k o => .inl o⟩
  subst e
  exact h.nr.not_map h.tags o
/-- the near pages are written -/
theorem ZB.neared {vs' : Nat → Value} (h : ZB w z N n l f t) (hN : NearG w' 89 N.bN N.gN vs' n 6 f') (hf : Fine n 6 f') (hG : Goes w w' n N.bN N.gN N.vs vs') : ZB w' z { N with vs := vs' } n l f' t ∧ ZGoes w w' n z N { N with vs := vs' } := by
  obtain ⟨c, hg⟩ := h.tabB
  have hk := hG.1
  refine ⟨⟨(hk.block z (lt_of_block h.box) (h.nr.not_own h.box (by decide) (by decide) (by decide))).trans h.box, h.bud.kept hk (h.nr.not_own h.bud.box (by decide) (by decide) (by decide)) (h.nr.not_own hg (by decide) (by decide) (by decide)), hN, hf, h.tags.kept hk (h.nr.not_map h.tags)⟩, hk.mono fun k e => .inr (.inr (.inr (.inl e))), fun k o => ?_⟩
  rcases o with o | o | o | o | o
  · exact .inl (.inl o)
  · exact .inl (.inr (.inl o))
  · exact .inl (.inr (.inr (.inl o)))
  · exact (hG.2 k o).imp (fun x => .inr (.inr (.inr (.inl x)))) id
  · exact .inl (.inr (.inr (.inr (.inr o))))
/-! ### calls -/
set_option maxHeartbeats 1000000 in
theorem zIsNone (h : ZB w z N n l f t) : Calls Try.prog 34 #[.pointer (some ⟨z, 0, none⟩)] w fun e w' => e = .returned (.bool false) ∧ w' = w := by
  obtain ⟨c0, _, _, _⟩ := h.cells
  have hn := h.nr.n1
  have h3 : ((n : Int) == 0) = false := by rw [beq_eq_false_iff_ne]; omega
  clear h
  go_enter Try.func34, Try.ntmps34
  go_wp2
  go_ret
  exact ⟨rfl, rfl⟩
set_option maxHeartbeats 1000000 in
theorem zIsNoneNil (w : World) : Calls Try.prog 34 #[.pointer none] w fun e w' => e = .returned (.bool true) ∧ w' = w := by
  go_enter Try.func34, Try.ntmps34
  go_wp2
  go_ret
  exact ⟨rfl, rfl⟩
set_option maxHeartbeats 1000000 in
theorem zIsNoneZero (z : Nat) (w : World) (hc : w.cell? ⟨z, 0, none⟩ = some (.int .i64 0)) : Calls Try.prog 34 #[.pointer (some ⟨z, 0, none⟩)] w fun e w' => e = .returned (.bool true) ∧ w' = w := by
  go_enter Try.func34, Try.ntmps34
  go_wp2
  go_ret
  exact ⟨rfl, rfl⟩
set_option maxHeartbeats 1000000 in
theorem zRefusesNo (h : ZB w z N n l f t) (c : Nat) (hc : c < n) : Calls Try.prog 37 #[.pointer (some ⟨z, 0, none⟩), .int .i64 c] w fun e w' => e = .returned (.int .i64 0) ∧ w' = w := by
  obtain ⟨c0, _, _, _⟩ := h.cells
  have hn := h.nr.n1
  go_enter Try.func37, Try.ntmps37
  go_wp2_with (go_at_call 34; refine (zIsNone h).mono ?_; rintro e w' ⟨rfl, rfl⟩)
  go_ret
  exact ⟨rfl, rfl⟩
set_option maxHeartbeats 1000000 in
theorem zRefusesYes (h : ZB w z N n l f t) (c : Int) (hc : ¬ (0 ≤ c ∧ c < n)) : Calls Try.prog 37 #[.pointer (some ⟨z, 0, none⟩), .int .i64 c] w fun e w' => e = .returned (.int .i64 9) ∧ w' = w := by
  obtain ⟨c0, _, _, _⟩ := h.cells
  have hn := h.nr.n1
  by_cases h1 : 0 ≤ c
  · have h2 : (n : Int) ≤ c := by omega
    clear hc
    go_enter Try.func37, Try.ntmps37
    go_wp2_with (go_at_call 34; refine (zIsNone h).mono ?_; rintro e w' ⟨rfl, rfl⟩)
    go_ret
    exact ⟨rfl, rfl⟩
  · have h2 : c < 0 := by omega
    clear hc h1
    go_enter Try.func37, Try.ntmps37
    go_wp2_with (go_at_call 34; refine (zIsNone h).mono ?_; rintro e w' ⟨rfl, rfl⟩)
    go_ret
    exact ⟨rfl, rfl⟩
set_option maxHeartbeats 1000000 in
theorem zRefusesNil (c : Int) (w : World) : Calls Try.prog 37 #[.pointer none, .int .i64 c] w fun e w' => e = .returned (.int .i64 1) ∧ w' = w := by
  go_enter Try.func37, Try.ntmps37
  go_wp2_with (go_at_call 34; refine (zIsNoneNil _).mono ?_; rintro e w' ⟨rfl, rfl⟩)
  go_ret
  exact ⟨rfl, rfl⟩
set_option maxHeartbeats 1000000 in
theorem zRefusesZero (c : Int) (z : Nat) (w : World) (hc : w.cell? ⟨z, 0, none⟩ = some (.int .i64 0)) : Calls Try.prog 37 #[.pointer (some ⟨z, 0, none⟩), .int .i64 c] w fun e w' => e = .returned (.int .i64 1) ∧ w' = w := by
  go_enter Try.func37, Try.ntmps37
  go_wp2_with (go_at_call 34; refine (zIsNoneZero z _ hc).mono ?_; rintro e w' ⟨rfl, rfl⟩)
  go_ret
  exact ⟨rfl, rfl⟩
set_option maxHeartbeats 2000000 in
theorem zNear (h : ZB w z N n l f t) (c : Int) : Calls Try.prog 18 #[.pointer (some ⟨z, 0, none⟩), .int .i64 c] w fun e w' => e = .returned (.int .i64 ((listOf f n c).length : Nat)) ∧ Below w.heap.size w w' := by
  obtain ⟨c0, c1, c2, c3⟩ := h.cells
  have hl := listOf_len h.fine c
  go_enter Try.func18, Try.ntmps18
  go_wp2_with fail
  refine (zIsNone h).mono ?_
  rintro e w' ⟨rfl, rfl⟩
  go_wp2_with fail
  refine (cList h.nr c).mono ?_
  rintro e w1 ⟨v, rfl, hf, hb⟩
  obtain ⟨ao, cap, rfl, hcap, _⟩ := (Res.shows hf).form
  have HB := Lib.hid hb
  clear hb hf
  go_wp2
  go_ret
  exact ⟨rfl, HB.out⟩
set_option maxHeartbeats 2000000 in
theorem zAllNear (h : ZB w z N n l f t) : Calls Try.prog 36 #[.pointer (some ⟨z, 0, none⟩)] w fun e w' => e = .returned (.int .i64 (cnt n f : Nat)) ∧ Below w.heap.size w w' := by
  obtain ⟨c0, c1, c2, c3⟩ := h.cells
  have hn := h.nr.n1
  have HF := Lib.hid h.fine
  have HZ := Lib.hid h
  clear h
  go_enter Try.func36, Try.ntmps36
  go_wp2
  go_loopw [3, 9] (fun m i wr => ∃ k : Nat, k ≤ n ∧ i = .int .i64 k ∧ m = .int .i64 (cnt k f : Nat) ∧ cnt k f ≤ 6 * k ∧ Below w.heap.size w wr) (fun _ i _ => n - (intOf i).toNat)
  case atStart => exact ⟨0, by omega, rfl, rfl, by simp [cnt, sumTo], Below.refl _ _⟩
  case round =>
    obtain ⟨k, hk, rfl, rfl, hc, hb⟩ := hrel
    by_cases hlt : k < n
    · have hlk := HF.out k hlt
      have HS : Hid (cnt (k + 1) f = cnt k f + (f k).length) := Lib.hid rfl
      have HZ2 := Lib.hid (HZ.out.below hb)
      have HL := Lib.hid (listOf_yes f hlt)
      have HB := Lib.hid hb
      generalize cnt k f = m at hc HS
      clear hb
      go_wp2_with fail
      refine (zNear HZ2.out k).mono ?_
      rintro e w1 ⟨rfl, hb1⟩
      have HB1 := Lib.hid (below_then HB.out hb1)
      rw [HL.out]
      generalize (f k).length = s at hlk HS
      clear hb1
      go_wp2
      go_roundw
      case rel => exact ⟨k + 1, by omega, by go_num, by rw [HS.out]; go_num, by rw [HS.out]; omega, HB1.out⟩
      case measure => simp [intOf]; omega
    · obtain rfl : k = n := by omega
      go_wp2
      go_ret
      exact ⟨rfl, hb⟩
end
end Go.Proofs.Ytlljomnpdgmifaa
