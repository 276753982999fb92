/-
  The program's places.
-/
import Derived.Test.YtnnfmlbgoplnaaaReg
set_option linter.unusedVariables false
set_option linter.unusedSimpArgs false
namespace Go.Proofs.Ytnnfmlbgoplnaaa
open Go Go.RowKit

def fromB (a i b : Int) : Bool := decide (a ≤ i ∧ i ≤ b)
set_option maxHeartbeats 1000000 in
theorem pFrom (a i b : Int) (w : World) :
    Calls Try.prog 40 #[.int .i64 a, .int .i64 i, .int .i64 b] w fun e w' => e = .returned (.bool (fromB a i b)) ∧ w' = w := by
  unfold fromB
  by_cases h0 : a ≤ i
  · by_cases h1 : i ≤ b
    · rw [decide_eq_true (show a ≤ i ∧ i ≤ b from ⟨h0, h1⟩)]
      go_enter Try.func40, Try.ntmps40
      go_wp2
      go_ret
      exact ⟨rfl, rfl⟩
    · rw [decide_eq_false (show ¬ (a ≤ i ∧ i ≤ b) from fun h => h1 h.2)]
      go_enter Try.func40, Try.ntmps40
      go_wp2
      go_ret
      exact ⟨rfl, rfl⟩
  · rw [decide_eq_false (show ¬ (a ≤ i ∧ i ≤ b) from fun h => h0 h.1)]
    go_enter Try.func40, Try.ntmps40
    go_wp2
    go_ret
    exact ⟨rfl, rfl⟩
theorem pFromQ (a i b : Int) (q : Bool) (hq : fromB a i b = q) (w : World) :
    Calls Try.prog 40 #[.int .i64 a, .int .i64 i, .int .i64 b] w fun e w' => e = .returned (.bool q) ∧ w' = w := by
  subst hq
  exact pFrom a i b w
theorem pok_of (c : Ch) : (c.ok ↔ fromB 1 c.cpus 8 = true ∧ fromB 1 c.slabs 32 = true ∧ fromB 1 c.objs 16 = true ∧ fromB 0 c.min 32 = true ∧ fromB 0 c.cap 32 = true) := by
  unfold fromB Ch.ok
  simp only [decide_eq_true_eq]

set_option maxHeartbeats 4000000 in
theorem pCheck (c : Ch) (hw : c.wf) (w : World) :
    Calls Try.prog 8 #[c.agg] w fun e w' => e = .returned (.int .i64 c.chk) ∧ Below w.heap.size w w' := by
  have hok := pok_of c
  clear hw
  cases h0 : fromB 1 c.cpus 8 with
  | false =>
    rw [Ch.chk_no (fun e => by have := (hok.1 e).1; rw [h0] at this; cases this)]
    clear hok
    go_enter Try.func8, Try.ntmps8
    go_wp2_with fail
    refine (pFromQ _ _ _ _ h0 _).mono ?_
    rintro e w1 ⟨rfl, rfl⟩
    go_wp2
    go_ret
    exact ⟨rfl, below_one (Below.refl _ _) _⟩
  | true =>
    cases h1 : fromB 1 c.slabs 32 with
    | false =>
      rw [Ch.chk_no (fun e => by have := (hok.1 e).2.1; rw [h1] at this; cases this)]
      clear hok
      go_enter Try.func8, Try.ntmps8
      go_wp2_with fail
      refine (pFromQ _ _ _ _ h0 _).mono ?_
      rintro e w1 ⟨rfl, rfl⟩
      go_wp2_with fail
      refine (pFromQ _ _ _ _ h1 _).mono ?_
      rintro e w1 ⟨rfl, rfl⟩
      go_wp2
      go_ret
      exact ⟨rfl, below_one (Below.refl _ _) _⟩
    | true =>
      cases h2 : fromB 1 c.objs 16 with
      | false =>
        rw [Ch.chk_no (fun e => by have := (hok.1 e).2.2.1; rw [h2] at this; cases this)]
        clear hok
        go_enter Try.func8, Try.ntmps8
        go_wp2_with fail
        refine (pFromQ _ _ _ _ h0 _).mono ?_
        rintro e w1 ⟨rfl, rfl⟩
        go_wp2_with fail
        refine (pFromQ _ _ _ _ h1 _).mono ?_
        rintro e w1 ⟨rfl, rfl⟩
        go_wp2_with fail
        refine (pFromQ _ _ _ _ h2 _).mono ?_
        rintro e w1 ⟨rfl, rfl⟩
        go_wp2
        go_ret
        exact ⟨rfl, below_one (Below.refl _ _) _⟩
      | true =>
        cases h3 : fromB 0 c.min 32 with
        | false =>
          rw [Ch.chk_no (fun e => by have := (hok.1 e).2.2.2.1; rw [h3] at this; cases this)]
          clear hok
          go_enter Try.func8, Try.ntmps8
          go_wp2_with fail
          refine (pFromQ _ _ _ _ h0 _).mono ?_
          rintro e w1 ⟨rfl, rfl⟩
          go_wp2_with fail
          refine (pFromQ _ _ _ _ h1 _).mono ?_
          rintro e w1 ⟨rfl, rfl⟩
          go_wp2_with fail
          refine (pFromQ _ _ _ _ h2 _).mono ?_
          rintro e w1 ⟨rfl, rfl⟩
          go_wp2_with fail
          refine (pFromQ _ _ _ _ h3 _).mono ?_
          rintro e w1 ⟨rfl, rfl⟩
          go_wp2
          go_ret
          exact ⟨rfl, below_one (Below.refl _ _) _⟩
        | true =>
          cases h4 : fromB 0 c.cap 32 with
          | false =>
            rw [Ch.chk_no (fun e => by have := (hok.1 e).2.2.2.2; rw [h4] at this; cases this)]
            clear hok
            go_enter Try.func8, Try.ntmps8
            go_wp2_with fail
            refine (pFromQ _ _ _ _ h0 _).mono ?_
            rintro e w1 ⟨rfl, rfl⟩
            go_wp2_with fail
            refine (pFromQ _ _ _ _ h1 _).mono ?_
            rintro e w1 ⟨rfl, rfl⟩
            go_wp2_with fail
            refine (pFromQ _ _ _ _ h2 _).mono ?_
            rintro e w1 ⟨rfl, rfl⟩
            go_wp2_with fail
            refine (pFromQ _ _ _ _ h3 _).mono ?_
            rintro e w1 ⟨rfl, rfl⟩
            go_wp2_with fail
            refine (pFromQ _ _ _ _ h4 _).mono ?_
            rintro e w1 ⟨rfl, rfl⟩
            go_wp2
            go_ret
            exact ⟨rfl, below_one (Below.refl _ _) _⟩
          | true =>
            rw [Ch.chk_yes (hok.2 ⟨h0, h1, h2, h3, h4⟩)]
            clear hok
            go_enter Try.func8, Try.ntmps8
            go_wp2_with fail
            refine (pFromQ _ _ _ _ h0 _).mono ?_
            rintro e w1 ⟨rfl, rfl⟩
            go_wp2_with fail
            refine (pFromQ _ _ _ _ h1 _).mono ?_
            rintro e w1 ⟨rfl, rfl⟩
            go_wp2_with fail
            refine (pFromQ _ _ _ _ h2 _).mono ?_
            rintro e w1 ⟨rfl, rfl⟩
            go_wp2_with fail
            refine (pFromQ _ _ _ _ h3 _).mono ?_
            rintro e w1 ⟨rfl, rfl⟩
            go_wp2_with fail
            refine (pFromQ _ _ _ _ h4 _).mono ?_
            rintro e w1 ⟨rfl, rfl⟩
            go_wp2
            go_ret
            exact ⟨rfl, below_one (Below.refl _ _) _⟩
/-- what the closure answers -/
def idxV (b : Bool) (x a m i : Int) : Int := if b = true ∧ 0 ≤ i ∧ i ≤ wrap64 (m - 1) then wrap64 (x + wrap64 (a * i)) else -1
/-- an index's closure in a world: where it begins, how far apart, how many -/
structure IdxAt (w : World) (k0 k1 k2 k3 : Nat) (b : Bool) (x a m : Int) : Prop where
  c0 : w.cell? ⟨k0, 0, none⟩ = some (.bool b)
  c1 : w.cell? ⟨k1, 0, none⟩ = some (.int .i64 m)
  c2 : w.cell? ⟨k2, 0, none⟩ = some (.int .i64 x)
  c3 : w.cell? ⟨k3, 0, none⟩ = some (.int .i64 a)
abbrev idxF (k0 k1 k2 k3 : Nat) : Value := .func (.func 56) #[] #[.pointer (some ⟨k0, 0, none⟩), .pointer (some ⟨k1, 0, none⟩), .pointer (some ⟨k2, 0, none⟩), .pointer (some ⟨k3, 0, none⟩)]
set_option maxHeartbeats 2000000 in
theorem pIdx (b : Bool) (x a m i : Int) (k0 k1 k2 k3 : Nat) (w : World) (h : IdxAt w k0 k1 k2 k3 b x a m) :
    Calls Try.prog 56 #[.int .i64 i, .pointer (some ⟨k0, 0, none⟩), .pointer (some ⟨k1, 0, none⟩), .pointer (some ⟨k2, 0, none⟩), .pointer (some ⟨k3, 0, none⟩)] w fun e w' => e = .returned (.int .i64 (idxV b x a m i)) ∧ w' = w := by
  obtain ⟨c0, c1, c2, c3⟩ := h
  cases b with
  | false =>
    rw [show idxV false x a m i = -1 from if_neg (fun e => by cases e.1)]
    go_enter Try.func56, Try.ntmps56
    go_wp2
    go_ret
    exact ⟨rfl, rfl⟩
  | true =>
    cases hq : fromB 0 i (wrap64 (m - 1)) with
    | false =>
      rw [show idxV true x a m i = -1 from if_neg (fun e => by simp [fromB] at hq; omega)]
      go_enter Try.func56, Try.ntmps56
      go_wp2_with fail
      refine (pFromQ _ _ _ _ hq _).mono ?_
      rintro e w1 ⟨rfl, rfl⟩
      go_wp2
      go_ret
      exact ⟨rfl, rfl⟩
    | true =>
      rw [show idxV true x a m i = wrap64 (x + wrap64 (a * i)) from if_pos ⟨rfl, by simpa [fromB] using hq⟩]
      go_enter Try.func56, Try.ntmps56
      go_wp2_with fail
      refine (pFromQ _ _ _ _ hq _).mono ?_
      rintro e w1 ⟨rfl, rfl⟩
      go_wp2
      go_ret
      exact ⟨rfl, rfl⟩
set_option maxHeartbeats 2000000 in
theorem pIndex (c : Ch) (hw : c.wf) (x a m : Int) (w : World) :
    Calls Try.prog 42 #[c.agg, .int .i64 x, .int .i64 a, .int .i64 m] w fun e w' => ∃ k0 k1 k2 k3, e = .returned (idxF k0 k1 k2 k3) ∧ IdxAt w' k0 k1 k2 k3 (decide c.ok) x a m ∧ Below w.heap.size w w' := by
  have hC := fun w => pCheck c hw w
  by_cases ho : c.ok
  · rw [Ch.chk_yes ho] at hC
    rw [decide_eq_true ho]
    have HC := Lib.hid hC
    clear hC ho hw
    go_enter Try.func42, Try.ntmps42
    go_wp2_with fail
    refine (HC.out _).mono ?_
    rintro e w1 ⟨rfl, hb1⟩
    have h5 : w1.heap[w.heap.size + 1]? = some (.cells #[.int .i64 x] 3 (0, 0)) := keep_block (keep_block (heap_new2 w (chO c) (.cells #[.int .i64 x] 3)) (below_one (below_one (Below.refl _ _) (.cells #[.int .i64 a] 3)) (.cells #[.int .i64 m] 3))) hb1
    have h6 : w1.heap[w.heap.size + 1 + 1]? = some (.cells #[.int .i64 a] 3 (0, 0)) := keep_block (keep_block (show (((w.alloc (chO c)).alloc (.cells #[.int .i64 x] 3)).alloc (.cells #[.int .i64 a] 3)).heap[w.heap.size + 1 + 1]? = _ by rw [← size_alloc w (chO c)]; exact heap_new2 _ _ _) (below_one (Below.refl _ _) (.cells #[.int .i64 m] 3))) hb1
    have h7 : w1.heap[w.heap.size + 1 + 1 + 1]? = some (.cells #[.int .i64 m] 3 (0, 0)) := keep_block (show ((((w.alloc (chO c)).alloc (.cells #[.int .i64 x] 3)).alloc (.cells #[.int .i64 a] 3)).alloc (.cells #[.int .i64 m] 3)).heap[w.heap.size + 1 + 1 + 1]? = _ by rw [← size_alloc w (chO c), ← size_alloc (w.alloc (chO c)) (.cells #[.int .i64 x] 3)]; exact heap_new2 _ _ _) hb1
    have HB := Lib.hid (below_then (below_one (below_one (below_one (below_one (Below.refl w.heap.size w) (chO c)) (.cells #[.int .i64 x] 3)) (.cells #[.int .i64 a] 3)) (.cells #[.int .i64 m] 3)) hb1)
    clear hb1 HC
    go_wp2
    go_ret
    have hk := fun o => below_one (Below.refl w1.heap.size w1) o
    exact ⟨_, _, _, _, rfl, ⟨self_cell (heap_new w1 _) 0 _ rfl, cell_keep (hk _) (self_cell h7 0 (.int .i64 m) rfl), cell_keep (hk _) (self_cell h5 0 (.int .i64 x) rfl), cell_keep (hk _) (self_cell h6 0 (.int .i64 a) rfl)⟩, below_one HB.out _⟩
  · rw [Ch.chk_no ho] at hC
    rw [decide_eq_false ho]
    have HC := Lib.hid hC
    clear hC ho hw
    go_enter Try.func42, Try.ntmps42
    go_wp2_with fail
    refine (HC.out _).mono ?_
    rintro e w1 ⟨rfl, hb1⟩
    have h5 : w1.heap[w.heap.size + 1]? = some (.cells #[.int .i64 x] 3 (0, 0)) := keep_block (keep_block (heap_new2 w (chO c) (.cells #[.int .i64 x] 3)) (below_one (below_one (Below.refl _ _) (.cells #[.int .i64 a] 3)) (.cells #[.int .i64 m] 3))) hb1
    have h6 : w1.heap[w.heap.size + 1 + 1]? = some (.cells #[.int .i64 a] 3 (0, 0)) := keep_block (keep_block (show (((w.alloc (chO c)).alloc (.cells #[.int .i64 x] 3)).alloc (.cells #[.int .i64 a] 3)).heap[w.heap.size + 1 + 1]? = _ by rw [← size_alloc w (chO c)]; exact heap_new2 _ _ _) (below_one (Below.refl _ _) (.cells #[.int .i64 m] 3))) hb1
    have h7 : w1.heap[w.heap.size + 1 + 1 + 1]? = some (.cells #[.int .i64 m] 3 (0, 0)) := keep_block (show ((((w.alloc (chO c)).alloc (.cells #[.int .i64 x] 3)).alloc (.cells #[.int .i64 a] 3)).alloc (.cells #[.int .i64 m] 3)).heap[w.heap.size + 1 + 1 + 1]? = _ by rw [← size_alloc w (chO c), ← size_alloc (w.alloc (chO c)) (.cells #[.int .i64 x] 3)]; exact heap_new2 _ _ _) hb1
    have HB := Lib.hid (below_then (below_one (below_one (below_one (below_one (Below.refl w.heap.size w) (chO c)) (.cells #[.int .i64 x] 3)) (.cells #[.int .i64 a] 3)) (.cells #[.int .i64 m] 3)) hb1)
    clear hb1 HC
    go_wp2
    go_ret
    have hk := fun o => below_one (Below.refl w1.heap.size w1) o
    exact ⟨_, _, _, _, rfl, ⟨self_cell (heap_new w1 _) 0 _ rfl, cell_keep (hk _) (self_cell h7 0 (.int .i64 m) rfl), cell_keep (hk _) (self_cell h5 0 (.int .i64 x) rfl), cell_keep (hk _) (self_cell h6 0 (.int .i64 a) rfl)⟩, below_one HB.out _⟩

theorem idx_eq {c : Ch} {x a m i p : Int} {b : Bool} (h : c.ok → (1 ≤ m ∧ m ≤ 100) ∧ b = inB i m ∧ (0 ≤ i → i < m → wrap64 (x + wrap64 (a * i)) = p)) : idxV (decide c.ok) x a m i = c.at b p := by
  unfold idxV Ch.at
  by_cases ho : c.ok
  · obtain ⟨⟨h1, h2⟩, rfl, h3⟩ := h ho
    rw [show wrap64 (m - 1) = m - 1 by unfold wrap64; omega]
    by_cases hi : 0 ≤ i ∧ i < m
    · rw [if_pos ⟨decide_eq_true ho, hi.1, by omega⟩, if_pos ⟨ho, decide_eq_true hi⟩, h3 hi.1 hi.2]
    · rw [if_neg (fun e => hi ⟨e.2.1, by omega⟩), if_neg (fun e => hi (of_decide_eq_true e.2))]
  · rw [if_neg (fun e => ho (of_decide_eq_true e.1)), if_neg (fun e => ho e.1)]
/-- where parts begin, as the program reckons it -/
def ownV (c : Ch) : Int := IntKind.i64.wrap (4 * c.cpus)
def slbV (c : Ch) : Int := IntKind.i64.wrap (ownV c + 4)
def lnkV (c : Ch) : Int := IntKind.i64.wrap (slbV c + IntKind.i64.wrap (4 * c.slabs))
theorem own_v {c : Ch} (ho : c.ok) : ownV c = 4 * c.cpus := by
  obtain ⟨⟨o1, o2⟩, _⟩ := ho
  exact IntWalk.i64_in _ (by omega)
theorem slb_v {c : Ch} (ho : c.ok) : slbV c = c.s0 := by
  unfold slbV Ch.s0
  rw [own_v ho]
  obtain ⟨⟨o1, o2⟩, _⟩ := ho
  exact IntWalk.i64_in _ (by omega)
theorem lnk_v {c : Ch} (ho : c.ok) : lnkV c = c.l0 := by
  unfold lnkV
  rw [slb_v ho]
  unfold Ch.s0 Ch.l0
  obtain ⟨⟨o1, o2⟩, ⟨o3, o4⟩, _⟩ := ho
  rw [IntWalk.i64_in (4 * c.slabs) (by omega)]
  exact IntWalk.i64_in _ (by omega)
set_option maxHeartbeats 1000000 in
theorem pOwn (c : Ch) (w : World) :
    Calls Try.prog 43 #[c.agg] w fun e w' => e = .returned (.int .i64 (ownV c)) ∧ Below w.heap.size w w' := by
  go_enter Try.func43, Try.ntmps43
  go_wp2
  go_ret
  exact ⟨ret_int (w64 _).symm, below_one (Below.refl _ _) _⟩
set_option maxHeartbeats 1000000 in
theorem pSlbs (c : Ch) (w : World) :
    Calls Try.prog 44 #[c.agg] w fun e w' => e = .returned (.int .i64 (slbV c)) ∧ Below w.heap.size w w' := by
  unfold slbV
  have HO := Lib.hid (fun w => pOwn c w)
  generalize ownV c = x at *
  go_enter Try.func44, Try.ntmps44
  go_wp2_with fail
  refine (HO.out _).mono ?_
  rintro e w1 ⟨rfl, hb1⟩
  have HB := Lib.hid (below_then (below_one (Below.refl w.heap.size w) _) hb1)
  clear hb1
  go_wp2
  go_ret
  exact ⟨ret_int (w64 _).symm, HB.out⟩
set_option maxHeartbeats 4000000 in
set_option maxRecDepth 100000 in
theorem pLnks (c : Ch) (w : World) :
    Calls Try.prog 41 #[c.agg] w fun e w' => e = .returned (.int .i64 (lnkV c)) ∧ Below w.heap.size w w' := by
  unfold lnkV
  have HO := Lib.hid (fun w => pSlbs c w)
  generalize slbV c = x at *
  have h0 := (one_new w c).drew
  have h00 := one_new w c
  go_enter Try.func41, Try.ntmps41
  go_wp2
  go_region_held3 (fun w' => w'.cell? ⟨w.heap.size, 0, none⟩ = some (.int .i64 c.cpus) ∧ w'.cell? ⟨w.heap.size, 1, none⟩ = some (.int .i64 c.slabs) ∧ w'.cell? ⟨w.heap.size, 2, none⟩ = some (.int .i64 c.objs) ∧ w'.cell? ⟨w.heap.size, 3, none⟩ = some (.int .i64 c.min) ∧ w'.cell? ⟨w.heap.size, 4, none⟩ = some (.int .i64 c.cap) ∧ w'.cell? ⟨w.heap.size, 5, none⟩ = some (.int .u64 c.key) ∧ One w w.heap.size c w')
    (first | exact One.six (by assumption))
    (first
      | (go_at_call 44; refine (HO.out _).mono ?_; rintro e w2 ⟨rfl, hb2⟩; have hT2 := One.next (show One w w.heap.size c _ from by assumption) hb2; clear hb2))
  all_goals
    go_wp2
    go_ret
    exact ⟨rfl, hT2.low⟩
set_option maxHeartbeats 4000000 in
set_option maxRecDepth 100000 in
theorem pWords (c : Ch) (hw : c.wf) (w : World) :
    Calls Try.prog 9 #[c.agg] w fun e w' => e = .returned (.int .i64 c.words) ∧ Below w.heap.size w w' := by
  have hC := fun w => pCheck c hw w
  by_cases ho : c.ok
  · rw [show c.words = c.n from if_pos ho]
    rw [Ch.chk_yes ho] at hC
    have hp := Ch.prod ho
    have hl := fun w => pLnks c w
    rw [lnk_v ho] at hl
    have HL := Lib.hid hl
    have HC := Lib.hid hC
    have hn : c.n = c.l0 + c.slabs * c.objs := rfl
    have hr : c.l0 + c.slabs * c.objs ≤ 10000 ∧ 0 ≤ c.l0 := by
      obtain ⟨⟨o1, o2⟩, ⟨o3, o4⟩, ⟨o5, o6⟩, _⟩ := ho
      unfold Ch.l0
      omega
    rw [hn]
    generalize c.l0 = x at *
    generalize hP : c.slabs * c.objs = P at *
    have HE : Hid (∀ y, y = IntKind.i64.wrap (x + IntKind.i64.wrap P) → y = x + P) := Lib.hid (fun y e => by rw [e, IntWalk.i64_in P (by omega)]; exact IntWalk.i64_in _ (by omega))
    have HT := Lib.hid (one_new w c)
    clear hl hC hw ho hn hp hr
    go_enter Try.func9, Try.ntmps9
    go_wp2_with fail
    refine (HC.out _).mono ?_
    rintro e w1 ⟨rfl, hb1⟩
    have hT1 := HT.out.next hb1
    have hT1' := hT1.drew
    clear hb1 HC
    obtain ⟨f0, f1, f2, f3, f4, f5, _⟩ := hT1.six
    go_wp2
    clear f0 f1 f2 f3 f4 f5
    go_region_held3 (fun w' => w'.cell? ⟨w.heap.size, 0, none⟩ = some (.int .i64 c.cpus) ∧ w'.cell? ⟨w.heap.size, 1, none⟩ = some (.int .i64 c.slabs) ∧ w'.cell? ⟨w.heap.size, 2, none⟩ = some (.int .i64 c.objs) ∧ w'.cell? ⟨w.heap.size, 3, none⟩ = some (.int .i64 c.min) ∧ w'.cell? ⟨w.heap.size, 4, none⟩ = some (.int .i64 c.cap) ∧ w'.cell? ⟨w.heap.size, 5, none⟩ = some (.int .u64 c.key) ∧ One w w.heap.size c w')
    (first | exact One.six (by assumption))
    (first
      | (go_at_call 41; refine (HL.out _).mono ?_; rintro e w2 ⟨rfl, hb2⟩; have hT2 := One.next (show One w w.heap.size c _ from by assumption) hb2; clear hb2))
    all_goals
      go_wp2
      go_ret
      exact ⟨ret_int (HE.out _ rfl), hT2.low⟩
  · rw [show c.words = 0 from if_neg ho]
    rw [Ch.chk_no ho] at hC
    have HC := Lib.hid hC
    clear hC ho hw
    go_enter Try.func9, Try.ntmps9
    go_wp2_with fail
    refine (HC.out _).mono ?_
    rintro e w1 ⟨rfl, hb1⟩
    have HB := Lib.hid (below_then (below_one (Below.refl w.heap.size w) _) hb1)
    clear hb1
    go_wp2
    go_ret
    exact ⟨rfl, HB.out⟩
set_option maxHeartbeats 2000000 in
theorem pHead (c : Ch) (hw : c.wf) (i : Int) (w : World) :
    Calls Try.prog 10 #[c.agg, .int .i64 i] w fun e w' => e = .returned (.int .i64 (c.head i)) ∧ Below w.heap.size w w' := by
  have HI := Lib.hid (fun x a m w => pIndex c hw x a m w)
  clear hw
  go_enter Try.func10, Try.ntmps10
  go_wp2_with fail
  refine (HI.out _ _ _ _).mono ?_
  rintro e w1 ⟨k0, k1, k2, k3, rfl, hi, hb1⟩
  have HB := Lib.hid (below_then (below_one (Below.refl w.heap.size w) _) hb1)
  clear hb1
  go_wp2_with fail
  refine (pIdx _ _ _ _ _ _ _ _ _ _ hi).mono ?_
  rintro e w2 ⟨rfl, rfl⟩
  go_wp2
  go_ret
  refine ⟨ret_int (idx_eq (fun ho => ?_)), HB.out⟩
  obtain ⟨⟨o1, o2⟩, ⟨o3, o4⟩, ⟨o5, o6⟩, _⟩ := ho
  refine ⟨by omega, rfl, fun h0 h1 => ?_⟩
  simp only [wrap64]
  omega
set_option maxHeartbeats 2000000 in
theorem pPart (c : Ch) (hw : c.wf) (i : Int) (w : World) :
    Calls Try.prog 11 #[c.agg, .int .i64 i] w fun e w' => e = .returned (.int .i64 (c.part i)) ∧ Below w.heap.size w w' := by
  have HI := Lib.hid (fun x a m w => pIndex c hw x a m w)
  clear hw
  go_enter Try.func11, Try.ntmps11
  go_wp2_with fail
  refine (HI.out _ _ _ _).mono ?_
  rintro e w1 ⟨k0, k1, k2, k3, rfl, hi, hb1⟩
  have HB := Lib.hid (below_then (below_one (Below.refl w.heap.size w) _) hb1)
  clear hb1
  go_wp2_with fail
  refine (pIdx _ _ _ _ _ _ _ _ _ _ hi).mono ?_
  rintro e w2 ⟨rfl, rfl⟩
  go_wp2
  go_ret
  refine ⟨ret_int (idx_eq (fun ho => ?_)), HB.out⟩
  obtain ⟨⟨o1, o2⟩, ⟨o3, o4⟩, ⟨o5, o6⟩, _⟩ := ho
  refine ⟨by omega, rfl, fun h0 h1 => ?_⟩
  simp only [wrap64]
  omega
set_option maxHeartbeats 4000000 in
set_option maxRecDepth 100000 in
theorem pLock (c : Ch) (hw : c.wf) (w : World) :
    Calls Try.prog 12 #[c.agg] w fun e w' => e = .returned (.int .i64 (c.lock)) ∧ Below w.heap.size w w' := by
  have HI := Lib.hid (fun x a m w => pIndex c hw x a m w)
  have HO := Lib.hid (fun w => pOwn c w)
  have HV : Hid (c.ok → ownV c = 4 * c.cpus) := Lib.hid own_v
  have h0 := (one_new w c).drew
  have h00 := one_new w c
  clear hw
  generalize ownV c = x at *
  go_enter Try.func12, Try.ntmps12
  go_wp2
  go_region_held3 (fun w' => w'.cell? ⟨w.heap.size, 0, none⟩ = some (.int .i64 c.cpus) ∧ w'.cell? ⟨w.heap.size, 1, none⟩ = some (.int .i64 c.slabs) ∧ w'.cell? ⟨w.heap.size, 2, none⟩ = some (.int .i64 c.objs) ∧ w'.cell? ⟨w.heap.size, 3, none⟩ = some (.int .i64 c.min) ∧ w'.cell? ⟨w.heap.size, 4, none⟩ = some (.int .i64 c.cap) ∧ w'.cell? ⟨w.heap.size, 5, none⟩ = some (.int .u64 c.key) ∧ One w w.heap.size c w')
    (first | exact One.six (by assumption))
    (first
      | (go_at_call 43; refine (HO.out _).mono ?_; rintro e w2 ⟨rfl, hb2⟩; have hT2 := One.next (show One w w.heap.size c _ from by assumption) hb2; clear hb2)
      | (go_at_call 42; refine (HI.out _ _ _ _).mono ?_; rintro e w6 ⟨k0, k1, k2, k3, rfl, hi6, hb6⟩; have hT6 := One.next (show One w w.heap.size c _ from by assumption) hb6; clear hb6)
      | (go_at_call 56; refine (pIdx _ _ _ _ _ _ _ _ _ _ hi6).mono ?_; rintro e _ ⟨rfl, rfl⟩))
  all_goals
    go_wp2
    go_ret
    refine ⟨ret_int (idx_eq (fun ho => ?_)), hT6.low⟩
    have hv := HV.out ho
    obtain ⟨⟨o1, o2⟩, ⟨o3, o4⟩, ⟨o5, o6⟩, _⟩ := ho
    refine ⟨by omega, by rfl, fun h0 h1 => ?_⟩
    simp only [w64, wrap64, Ch.s0] at *
    omega
set_option maxHeartbeats 4000000 in
set_option maxRecDepth 100000 in
theorem pShelf (c : Ch) (hw : c.wf) (w : World) :
    Calls Try.prog 13 #[c.agg] w fun e w' => e = .returned (.int .i64 (c.shelf)) ∧ Below w.heap.size w w' := by
  have HI := Lib.hid (fun x a m w => pIndex c hw x a m w)
  have HO := Lib.hid (fun w => pOwn c w)
  have HV : Hid (c.ok → ownV c = 4 * c.cpus) := Lib.hid own_v
  have h0 := (one_new w c).drew
  have h00 := one_new w c
  clear hw
  generalize ownV c = x at *
  go_enter Try.func13, Try.ntmps13
  go_wp2
  go_region_held3 (fun w' => w'.cell? ⟨w.heap.size, 0, none⟩ = some (.int .i64 c.cpus) ∧ w'.cell? ⟨w.heap.size, 1, none⟩ = some (.int .i64 c.slabs) ∧ w'.cell? ⟨w.heap.size, 2, none⟩ = some (.int .i64 c.objs) ∧ w'.cell? ⟨w.heap.size, 3, none⟩ = some (.int .i64 c.min) ∧ w'.cell? ⟨w.heap.size, 4, none⟩ = some (.int .i64 c.cap) ∧ w'.cell? ⟨w.heap.size, 5, none⟩ = some (.int .u64 c.key) ∧ One w w.heap.size c w')
    (first | exact One.six (by assumption))
    (first
      | (go_at_call 43; refine (HO.out _).mono ?_; rintro e w2 ⟨rfl, hb2⟩; have hT2 := One.next (show One w w.heap.size c _ from by assumption) hb2; clear hb2)
      | (go_at_call 42; refine (HI.out _ _ _ _).mono ?_; rintro e w6 ⟨k0, k1, k2, k3, rfl, hi6, hb6⟩; have hT6 := One.next (show One w w.heap.size c _ from by assumption) hb6; clear hb6)
      | (go_at_call 56; refine (pIdx _ _ _ _ _ _ _ _ _ _ hi6).mono ?_; rintro e _ ⟨rfl, rfl⟩))
  all_goals
    go_wp2
    go_ret
    refine ⟨ret_int (idx_eq (fun ho => ?_)), hT6.low⟩
    have hv := HV.out ho
    obtain ⟨⟨o1, o2⟩, ⟨o3, o4⟩, ⟨o5, o6⟩, _⟩ := ho
    refine ⟨by omega, by rfl, fun h0 h1 => ?_⟩
    simp only [w64, wrap64, Ch.s0] at *
    omega
set_option maxHeartbeats 4000000 in
set_option maxRecDepth 100000 in
theorem pHeld (c : Ch) (hw : c.wf) (w : World) :
    Calls Try.prog 14 #[c.agg] w fun e w' => e = .returned (.int .i64 (c.held)) ∧ Below w.heap.size w w' := by
  have HI := Lib.hid (fun x a m w => pIndex c hw x a m w)
  have HO := Lib.hid (fun w => pOwn c w)
  have HV : Hid (c.ok → ownV c = 4 * c.cpus) := Lib.hid own_v
  have h0 := (one_new w c).drew
  have h00 := one_new w c
  clear hw
  generalize ownV c = x at *
  go_enter Try.func14, Try.ntmps14
  go_wp2
  go_region_held3 (fun w' => w'.cell? ⟨w.heap.size, 0, none⟩ = some (.int .i64 c.cpus) ∧ w'.cell? ⟨w.heap.size, 1, none⟩ = some (.int .i64 c.slabs) ∧ w'.cell? ⟨w.heap.size, 2, none⟩ = some (.int .i64 c.objs) ∧ w'.cell? ⟨w.heap.size, 3, none⟩ = some (.int .i64 c.min) ∧ w'.cell? ⟨w.heap.size, 4, none⟩ = some (.int .i64 c.cap) ∧ w'.cell? ⟨w.heap.size, 5, none⟩ = some (.int .u64 c.key) ∧ One w w.heap.size c w')
    (first | exact One.six (by assumption))
    (first
      | (go_at_call 43; refine (HO.out _).mono ?_; rintro e w2 ⟨rfl, hb2⟩; have hT2 := One.next (show One w w.heap.size c _ from by assumption) hb2; clear hb2)
      | (go_at_call 42; refine (HI.out _ _ _ _).mono ?_; rintro e w6 ⟨k0, k1, k2, k3, rfl, hi6, hb6⟩; have hT6 := One.next (show One w w.heap.size c _ from by assumption) hb6; clear hb6)
      | (go_at_call 56; refine (pIdx _ _ _ _ _ _ _ _ _ _ hi6).mono ?_; rintro e _ ⟨rfl, rfl⟩))
  all_goals
    go_wp2
    go_ret
    refine ⟨ret_int (idx_eq (fun ho => ?_)), hT6.low⟩
    have hv := HV.out ho
    obtain ⟨⟨o1, o2⟩, ⟨o3, o4⟩, ⟨o5, o6⟩, _⟩ := ho
    refine ⟨by omega, by rfl, fun h0 h1 => ?_⟩
    simp only [w64, wrap64, Ch.s0] at *
    omega
set_option maxHeartbeats 4000000 in
set_option maxRecDepth 100000 in
theorem pFirst (c : Ch) (hw : c.wf) (s : Int) (w : World) :
    Calls Try.prog 15 #[c.agg, .int .i64 s] w fun e w' => e = .returned (.int .i64 (c.first s)) ∧ Below w.heap.size w w' := by
  have HI := Lib.hid (fun x a m w => pIndex c hw x a m w)
  have HO := Lib.hid (fun w => pSlbs c w)
  have HV : Hid (c.ok → slbV c = c.s0) := Lib.hid slb_v
  have h0 := (one_new w c).drew
  have h00 := one_new w c
  clear hw
  generalize slbV c = x at *
  go_enter Try.func15, Try.ntmps15
  go_wp2
  go_region_held3 (fun w' => w'.cell? ⟨w.heap.size, 0, none⟩ = some (.int .i64 c.cpus) ∧ w'.cell? ⟨w.heap.size, 1, none⟩ = some (.int .i64 c.slabs) ∧ w'.cell? ⟨w.heap.size, 2, none⟩ = some (.int .i64 c.objs) ∧ w'.cell? ⟨w.heap.size, 3, none⟩ = some (.int .i64 c.min) ∧ w'.cell? ⟨w.heap.size, 4, none⟩ = some (.int .i64 c.cap) ∧ w'.cell? ⟨w.heap.size, 5, none⟩ = some (.int .u64 c.key) ∧ One w w.heap.size c w')
    (first | exact One.six (by assumption))
    (first
      | (go_at_call 44; refine (HO.out _).mono ?_; rintro e w2 ⟨rfl, hb2⟩; have hT2 := One.next (show One w w.heap.size c _ from by assumption) hb2; clear hb2)
      | (go_at_call 42; refine (HI.out _ _ _ _).mono ?_; rintro e w6 ⟨k0, k1, k2, k3, rfl, hi6, hb6⟩; have hT6 := One.next (show One w w.heap.size c _ from by assumption) hb6; clear hb6)
      | (go_at_call 56; refine (pIdx _ _ _ _ _ _ _ _ _ _ hi6).mono ?_; rintro e _ ⟨rfl, rfl⟩))
  all_goals
    go_wp2
    go_ret
    refine ⟨ret_int (idx_eq (fun ho => ?_)), hT6.low⟩
    have hv := HV.out ho
    obtain ⟨⟨o1, o2⟩, ⟨o3, o4⟩, ⟨o5, o6⟩, _⟩ := ho
    refine ⟨by omega, by rfl, fun h0 h1 => ?_⟩
    simp only [w64, wrap64, Ch.s0] at *
    omega
set_option maxHeartbeats 4000000 in
set_option maxRecDepth 100000 in
theorem pNext (c : Ch) (hw : c.wf) (s : Int) (w : World) :
    Calls Try.prog 16 #[c.agg, .int .i64 s] w fun e w' => e = .returned (.int .i64 (c.next s)) ∧ Below w.heap.size w w' := by
  have HI := Lib.hid (fun x a m w => pIndex c hw x a m w)
  have HO := Lib.hid (fun w => pSlbs c w)
  have HV : Hid (c.ok → slbV c = c.s0) := Lib.hid slb_v
  have h0 := (one_new w c).drew
  have h00 := one_new w c
  clear hw
  generalize slbV c = x at *
  go_enter Try.func16, Try.ntmps16
  go_wp2
  go_region_held3 (fun w' => w'.cell? ⟨w.heap.size, 0, none⟩ = some (.int .i64 c.cpus) ∧ w'.cell? ⟨w.heap.size, 1, none⟩ = some (.int .i64 c.slabs) ∧ w'.cell? ⟨w.heap.size, 2, none⟩ = some (.int .i64 c.objs) ∧ w'.cell? ⟨w.heap.size, 3, none⟩ = some (.int .i64 c.min) ∧ w'.cell? ⟨w.heap.size, 4, none⟩ = some (.int .i64 c.cap) ∧ w'.cell? ⟨w.heap.size, 5, none⟩ = some (.int .u64 c.key) ∧ One w w.heap.size c w')
    (first | exact One.six (by assumption))
    (first
      | (go_at_call 44; refine (HO.out _).mono ?_; rintro e w2 ⟨rfl, hb2⟩; have hT2 := One.next (show One w w.heap.size c _ from by assumption) hb2; clear hb2)
      | (go_at_call 42; refine (HI.out _ _ _ _).mono ?_; rintro e w6 ⟨k0, k1, k2, k3, rfl, hi6, hb6⟩; have hT6 := One.next (show One w w.heap.size c _ from by assumption) hb6; clear hb6)
      | (go_at_call 56; refine (pIdx _ _ _ _ _ _ _ _ _ _ hi6).mono ?_; rintro e _ ⟨rfl, rfl⟩))
  all_goals
    go_wp2
    go_ret
    refine ⟨ret_int (idx_eq (fun ho => ?_)), hT6.low⟩
    have hv := HV.out ho
    obtain ⟨⟨o1, o2⟩, ⟨o3, o4⟩, ⟨o5, o6⟩, _⟩ := ho
    refine ⟨by omega, by rfl, fun h0 h1 => ?_⟩
    simp only [w64, wrap64, Ch.s0] at *
    omega
theorem lnk_first {c : Ch} {x s : Int} (hx : c.ok → x = c.l0) : idxV (decide c.ok) x c.objs c.slabs s = c.at (inB s c.slabs) (c.l0 + s * c.objs) := idx_eq (fun ho => by
  have hx := hx ho
  subst hx
  have ho' := ho
  have hp2 := Ch.prod ho
  obtain ⟨⟨o1, o2⟩, ⟨o3, o4⟩, ⟨o5, o6⟩, _⟩ := ho
  refine ⟨by omega, rfl, fun h0 h1 => ?_⟩
  have hp := Ch.prod_at ho' h0 h1
  rw [Int.mul_comm c.objs s]
  simp only [wrap64, Ch.l0]
  generalize s * c.objs = P at *
  generalize c.slabs * c.objs = R at *
  omega)
theorem link_no {c : Ch} {s o : Int} (h : c.at (inB s c.slabs) (c.l0 + s * c.objs) = -1) : c.link s o = -1 := by
  by_cases ho : c.ok
  · cases hb : inB s c.slabs with
    | true =>
      rw [hb, Ch.at_yes ho] at h
      have hb := of_decide_eq_true hb
      have hp := Ch.prod_at ho hb.1 hb.2
      obtain ⟨⟨o1, o2⟩, ⟨o3, o4⟩, ⟨o5, o6⟩, _⟩ := ho
      unfold Ch.l0 at h
      omega
    | false =>
      unfold Ch.link
      rw [hb, Bool.false_and, Ch.at_false]
  · exact Ch.at_no ho
theorem link_yes {c : Ch} {s o K : Int} (hn : K ≠ -1) (h : c.at (inB s c.slabs) (c.l0 + s * c.objs) = K) : idxV (decide c.ok) K 1 c.objs o = c.link s o := by
  by_cases ho : c.ok
  · cases hb : inB s c.slabs with
    | true =>
      rw [hb, Ch.at_yes ho] at h
      have hb2 := of_decide_eq_true hb
      have hp := Ch.prod_at ho hb2.1 hb2.2
      have hp2 := Ch.prod ho
      unfold Ch.link
      rw [hb, Bool.true_and]
      refine idx_eq (fun ho => ?_)
      obtain ⟨⟨o1, o2⟩, ⟨o3, o4⟩, ⟨o5, o6⟩, _⟩ := ho
      refine ⟨by omega, rfl, fun h0 h1 => ?_⟩
      subst h
      simp only [wrap64, Ch.l0]
      generalize s * c.objs = P at *
      generalize c.slabs * c.objs = R at *
      omega
    | false => rw [hb, Ch.at_false] at h; exact absurd h.symm hn
  · rw [Ch.at_no ho] at h
    exact absurd h.symm hn
set_option maxHeartbeats 8000000 in
set_option maxRecDepth 100000 in
theorem pLink (c : Ch) (hw : c.wf) (s o : Int) (w : World) :
    Calls Try.prog 17 #[c.agg, .int .i64 s, .int .i64 o] w fun e w' => e = .returned (.int .i64 (c.link s o)) ∧ Below w.heap.size w w' := by
  have HI := Lib.hid (fun x a m w => pIndex c hw x a m w)
  have HO := Lib.hid (fun w => pLnks c w)
  have HV : Hid (c.ok → lnkV c = c.l0) := Lib.hid lnk_v
  have h0 := (one_new w c).drew
  have h00 := one_new w c
  clear hw
  obtain ⟨L, hL⟩ : ∃ L, c.link s o = L := ⟨_, rfl⟩
  rw [hL]
  have HL := Lib.hid hL
  clear hL
  generalize lnkV c = x at *
  go_enter Try.func17, Try.ntmps17
  go_wp2
  go_region_held3 (fun w' => w'.cell? ⟨w.heap.size, 0, none⟩ = some (.int .i64 c.cpus) ∧ w'.cell? ⟨w.heap.size, 1, none⟩ = some (.int .i64 c.slabs) ∧ w'.cell? ⟨w.heap.size, 2, none⟩ = some (.int .i64 c.objs) ∧ w'.cell? ⟨w.heap.size, 3, none⟩ = some (.int .i64 c.min) ∧ w'.cell? ⟨w.heap.size, 4, none⟩ = some (.int .i64 c.cap) ∧ w'.cell? ⟨w.heap.size, 5, none⟩ = some (.int .u64 c.key) ∧ One w w.heap.size c w')
    (first | exact One.six (by assumption))
    (first
      | (go_at_call 41; refine (HO.out _).mono ?_; rintro e w2 ⟨rfl, hb2⟩; have hT2 := One.next (show One w w.heap.size c _ from by assumption) hb2; clear hb2)
      | (go_at_call 42; refine (HI.out _ _ _ _).mono ?_; rintro e w6 ⟨k0, k1, k2, k3, rfl, hi6, hb6⟩; have hT6 := One.next (show One w w.heap.size c _ from by assumption) hb6; clear hb6)
      | (go_at_call 56; refine (pIdx _ _ _ _ _ _ _ _ _ _ hi6).mono ?_; rintro e _ ⟨rfl, rfl⟩))
  all_goals
    obtain ⟨K, hK⟩ : ∃ K, idxV (decide c.ok) x c.objs c.slabs s = K := ⟨_, rfl⟩
    rw [hK]
    have HK := Lib.hid hK
    clear hK
    obtain ⟨f0, f1, f2, f3, f4, f5, _⟩ := hT6.six
    by_cases hk : K = -1
    · subst hk
      go_wp2
      go_ret
      refine ⟨ret_int ?_, hT6.low⟩
      rw [← HL.out]
      exact (link_no ((lnk_first HV.out).symm.trans HK.out)).symm
    · have hk2 : (K == -1) = false := by simpa using hk
      have HN := Lib.hid hk
      clear hk
      go_wp2_with fail
      refine (HI.out _ _ _ _).mono ?_
      rintro e w7 ⟨m0, m1, m2, m3, rfl, hi7, hb7⟩
      have hT7 := hT6.next hb7
      clear hb7
      go_wp2_with fail
      refine (pIdx _ _ _ _ _ _ _ _ _ _ hi7).mono ?_
      rintro e w8 ⟨rfl, rfl⟩
      go_wp2
      go_ret
      refine ⟨ret_int ?_, hT7.low⟩
      rw [← HL.out]
      exact link_yes HN.out ((lnk_first HV.out).symm.trans HK.out)
set_option maxHeartbeats 1000000 in
theorem pKey (c : Ch) (s : Int) (w : World) :
    Calls Try.prog 29 #[c.agg, .int .i64 s] w fun e w' => e = .returned (.int .u64 (c.keyOf s)) ∧ Below w.heap.size w w' := by
  rw [show c.keyOf s = IntKind.u64.wrap (c.key + IntKind.u64.wrap (11400714819323198485 * IntKind.u64.wrap s)) by unfold Ch.keyOf; rw [Int.mul_comm 11400714819323198485]]
  go_enter Try.func29, Try.ntmps29
  go_wp2
  go_ret
  exact ⟨rfl, below_one (Below.refl _ _) _⟩
end Go.Proofs.Ytnnfmlbgoplnaaa
