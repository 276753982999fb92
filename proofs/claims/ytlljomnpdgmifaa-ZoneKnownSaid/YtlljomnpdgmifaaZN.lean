/-
  New of a Zone; Zones that are none.
-/
import Derived.Test.YtlljomnpdgmifaaZH
import Derived.Carry
set_option linter.unusedVariables false
set_option linter.unusedSimpArgs false
namespace Go.Proofs.Ytlljomnpdgmifaa
open Go Go.RowKit

theorem er_ini {n : Nat} (h1 : 1 ≤ n) (h2 : n ≤ 1024) : er (ini n) = ini n := by
  have h := (whole_er (ini_std h1 h2)).2 (by rw [ini_length])
  rw [er_length, ini_length] at h
  exact h
theorem ini_zinv {n m : Nat} (h1 : 1 ≤ m) (h2 : m ≤ 1024) : ZInv n (ini m) noF :=
  ⟨ini_std h1 h2, fun i _ x hx => by simp [noF] at hx, fun i _ => by simp [noF], fun i j _ _ _ x hx => by simp [noF] at hx⟩
theorem ini_ot (n m q : Nat) : ot n (ini m) noF q = none := ot_none.2 fun h => by
  have := (ini_is m).free q (by have := h.1; rwa [ini_length] at this)
  exact this h.2.1
theorem ini_tg (n m : Nat) : TG n (ini m) noF (fun _ => none) := fun x T => by
  constructor
  · intro h; cases h
  · rintro ⟨q, h, _⟩
    rw [ini_ot] at h
    cases h
theorem fine_noF (n lim : Nat) : Fine n lim noF := fun i _ => by simp [noF]
/-- what New leaves -/
def ZNewOk (w : World) (n m : Nat) (e : Ending) (w' : World) : Prop :=
  ∃ z N, e = .returned (.tuple #[.pointer (some ⟨z, 0, none⟩), .int .i64 0]) ∧ ZC w' z N n (ini m) noF (fun _ => none) ∧ (∀ k, ZOwn n z N k → w.heap.size ≤ k) ∧ Below w.heap.size w w'
set_option maxHeartbeats 4000000 in
set_option maxRecDepth 100000 in
theorem zNew (n m : Nat) (w : World) (h1 : 1 ≤ n ∧ n ≤ 8) (h2 : 1 ≤ m ∧ m ≤ 1024) : Calls Try.prog 8 #[.int .i64 n, .int .i64 m] w (ZNewOk w n m) := by
  have hmm := @run_makeMap Try.prog
  go_enter Try.func8, Try.ntmps8
  go_wp2_with fail
  refine (nCNew n 6 w h1 (by decide)).mono ?_
  rintro e w1 ⟨bN, gN, rfl, hN, hbN, hge⟩
  have H1 := Lib.hid (And.intro hN (And.intro hbN hge))
  clear hN hbN hge
  go_wp2_with fail
  refine (cNew m h2.1 h2.2 _).mono ?_
  rintro e w2 ⟨bB, gB, rfl, hB, hgeB, hbB⟩
  have H2 := Lib.hid (And.intro hB (And.intro hgeB hbB))
  clear hB hgeB hbB
  go_wp2
  go_ret2
  refine ⟨_, ⟨bB, gB, m, bN, gN, w2.heap.size, noV⟩, rfl, ⟨⟨?_, ?_, ?_, fine_noF _ _, ?_⟩, ini_zinv h2.1 h2.2, ini_tg _ _⟩, ?_, ?_⟩
  · first | exact heap_new2 _ _ _ | exact heap_new _ _
  · rw [er_ini h2.1 h2.2]
    exact (H2.out.1.below (below_one (Below.refl _ _) _)).below (below_one (Below.refl _ _) _)
  · exact ((H1.out.1.below H2.out.2.2).below (below_one (Below.refl _ _) _)).below (below_one (Below.refl _ _) _)
  · exact (tags_made w2).below (below_one (Below.refl _ _) _)
  · have s1 := H1.out.2.1.size
    have s2 := H2.out.2.2.size
    have s3 := H2.out.2.1
    rintro k (o | o | o | o | o)
    · have e := size_alloc w2 (.map #[] 0); omega
    · dsimp only at o; omega
    · dsimp only at o; omega
    · exact H1.out.2.2 k o
    · dsimp only at o; omega
  · exact below_one (below_one (below_then H1.out.2.1 H2.out.2.2) _) _
theorem zNewBad (cpus pages : Int) (w : World) (h : ¬ ((1 ≤ cpus ∧ cpus ≤ 8) ∧ 1 ≤ pages ∧ pages ≤ 1024)) : Calls Try.prog 8 #[.int .i64 cpus, .int .i64 pages] w fun e w' => e = .returned (.tuple #[.pointer none, .int .i64 2]) ∧ Below w.heap.size w w' := by
  by_cases hc : 1 ≤ cpus ∧ cpus ≤ 8
  · obtain ⟨n, rfl⟩ : ∃ n : Nat, cpus = n := ⟨cpus.toNat, by omega⟩
    have hp : pages < 1 ∨ 1024 < pages := by omega
    clear h
    go_enter Try.func8, Try.ntmps8
    go_wp2_with fail
    refine (nCNew n 6 w (by omega) (by decide)).mono ?_
    rintro e w1 ⟨bN, gN, rfl, _, hbN, _⟩
    have H1 := Lib.hid hbN
    clear hbN
    go_wp2_with fail
    refine (cNewBad pages hp _).mono ?_
    rintro e w2 ⟨rfl, rfl⟩
    go_wp2
    go_ret2
    exact ⟨rfl, H1.out⟩
  · clear h
    go_enter Try.func8, Try.ntmps8
    go_wp2_with fail
    refine (nCNewBad cpus 6 w (fun e => hc e.1)).mono ?_
    rintro e w1 ⟨rfl, rfl⟩
    go_wp2
    go_ret2
    exact ⟨rfl, Below.refl _ _⟩
/-! ### none -/
def ZNone (w : World) (v : Value) : Prop := v = .pointer none ∨ ∃ z, v = .pointer (some ⟨z, 0, none⟩) ∧ w.cell? ⟨z, 0, none⟩ = some (.int .i64 0)
section
variable {w w' : World} {v : Value}
theorem ZNone.below (h : ZNone w v) (hb : Below w.heap.size w w') : ZNone w' v := h.imp id fun ⟨z, h1, h2⟩ => ⟨z, h1, cell_keep hb h2⟩
theorem nIsNone (h : ZNone w v) : Calls Try.prog 34 #[v] w fun e w' => e = .returned (.bool true) ∧ w' = w := by
  rcases h with rfl | ⟨z, rfl, hz⟩
  · exact zIsNoneNil w
  · exact zIsNoneZero z w hz
theorem nRefuses (h : ZNone w v) (c : Int) : Calls Try.prog 37 #[v, .int .i64 c] w fun e w' => e = .returned (.int .i64 1) ∧ w' = w := by
  rcases h with rfl | ⟨z, rfl, hz⟩
  · exact zRefusesNil c w
  · exact zRefusesZero c z w hz
set_option maxHeartbeats 1000000 in
theorem nAlloc (h : ZNone w v) (a b c : Int) : Calls Try.prog 21 #[v, .int .i64 a, .int .i64 b, .int .i64 c] w fun e w' => e = .returned (.tuple #[.int .i64 0, .int .i64 1]) ∧ w' = w := by
  go_enter Try.func21, Try.ntmps21
  go_wp2_with (go_at_call 37; refine (nRefuses h _).mono ?_; rintro e w' ⟨rfl, rfl⟩)
  go_ret2
  exact ⟨rfl, rfl⟩
set_option maxHeartbeats 1000000 in
theorem nFree (h : ZNone w v) (a b : Int) : Calls Try.prog 17 #[v, .int .i64 a, .int .i64 b] w fun e w' => e = .returned (.int .i64 1) ∧ w' = w := by
  go_enter Try.func17, Try.ntmps17
  go_wp2_with (go_at_call 37; refine (nRefuses h _).mono ?_; rintro e w' ⟨rfl, rfl⟩)
  go_ret
  exact ⟨rfl, rfl⟩
set_option maxHeartbeats 1000000 in
theorem nDrain (h : ZNone w v) (a : Int) : Calls Try.prog 19 #[v, .int .i64 a] w fun e w' => e = .returned (.int .i64 1) ∧ w' = w := by
  go_enter Try.func19, Try.ntmps19
  go_wp2_with (go_at_call 37; refine (nRefuses h _).mono ?_; rintro e w' ⟨rfl, rfl⟩)
  go_ret
  exact ⟨rfl, rfl⟩
set_option maxHeartbeats 1000000 in
theorem nLeft (h : ZNone w v) : Calls Try.prog 15 #[v] w fun e w' => e = .returned (.int .i64 0) ∧ w' = w := by
  go_enter Try.func15, Try.ntmps15
  go_wp2_with (go_at_call 34; refine (nIsNone h).mono ?_; rintro e w' ⟨rfl, rfl⟩)
  go_ret
  exact ⟨rfl, rfl⟩
set_option maxHeartbeats 1000000 in
theorem nNear (h : ZNone w v) (a : Int) : Calls Try.prog 18 #[v, .int .i64 a] w fun e w' => e = .returned (.int .i64 0) ∧ w' = w := by
  go_enter Try.func18, Try.ntmps18
  go_wp2_with (go_at_call 34; refine (nIsNone h).mono ?_; rintro e w' ⟨rfl, rfl⟩)
  go_ret
  exact ⟨rfl, rfl⟩
set_option maxHeartbeats 1000000 in
theorem nWhole (h : ZNone w v) : Calls Try.prog 20 #[v] w fun e w' => e = .returned (.bool false) ∧ w' = w := by
  go_enter Try.func20, Try.ntmps20
  go_wp2_with (go_at_call 34; refine (nIsNone h).mono ?_; rintro e w' ⟨rfl, rfl⟩)
  go_ret
  exact ⟨rfl, rfl⟩
set_option maxHeartbeats 1000000 in
theorem nTag (h : ZNone w v) (a : Int) : Calls Try.prog 16 #[v, .int .i64 a] w fun e w' => e = .returned (.tuple #[.agg #[.int .i64 0, .int .i64 0, .int .i64 0], .bool false]) ∧ Below w.heap.size w w' := by
  have h1 := h.below (below_one (Below.refl _ w) (.cells #[.int .i64 0, .int .i64 0, .int .i64 0] 44))
  go_enter Try.func16, Try.ntmps16
  go_wp2_with (go_at_call 34; refine (nIsNone h1).mono ?_; rintro e w' ⟨rfl, rfl⟩)
  refine bodyPost_ret (res_Tag _ _ w.heap.size 0 0 0 false rfl rfl ?_) rfl ⟨rfl, ?_⟩
  · exact heap_new _ _
  · exact below_one (Below.refl _ _) _
end
end Go.Proofs.Ytlljomnpdgmifaa
