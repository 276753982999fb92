/-
  New, check, Has, Held, Drain of the program.
-/
import Derived.Test.YthjonjkeaiobdaaSv
import Derived.Laws.MakeOwn
import Derived.BigQuiet
set_option linter.unusedVariables false
set_option linter.unusedSimpArgs false
namespace Go.Proofs.Ythjonjkeaiobdaa
open Go Go.RowKit

theorem infoK : (Try.prog.info? 55).map (fun i => (i.zero, i.size, i.bytes)) = some (some (.agg #[.int .i64 0, .int .i64 0]), 2, 16) := by kernel_rfl
theorem makeK (n : Nat) (hn : n ≤ 10000) : ∃ O : Obj, (∀ w : World, (Instr.makeSlice 46 (.int .i64 (n : Int)) (.int .i64 (n : Int))).run Try.prog w = .ok (.slice (some ⟨w.heap.size, 0, none⟩) n n) (w.alloc O)) ∧ ∀ w : World, RowG (w.alloc O) w.heap.size 55 (n * 2) (fun _ => .int .i64 0) := by
  obtain ⟨i0, hi, hz0, hz1, hz2⟩ := info_parts infoK
  refine ⟨.cells (madeCells (Value.agg #[.int .i64 0, .int .i64 0]).cells (n * 2)) 55, fun w => ?_, fun w => ⟨_, heap_new w _, fun j hj => ?_⟩⟩
  · have h := run_make (P := Try.prog) w 46 55 i0 _ Try.underlying46 hi hz0 .i64 .i64 (n : Int) (n : Int) (by omega) (Int.le_refl _) (by rw [hz2]; omega) (by omega)
    rw [hz1] at h
    simpa using h
  · have hsz : (Value.agg #[.int .i64 0, .int .i64 0]).cells.size = 2 := rfl
    have h3 : j % 2 < 2 := Nat.mod_lt _ (by decide)
    simp only [madeCells, Array.getElem?_map, Array.getElem?_range, hj, if_true, Option.map_some, hsz]
    rcases (by omega : j % 2 = 0 ∨ j % 2 = 1) with h | h <;> rw [h] <;> rfl
theorem infoO : (Try.prog.info? 57).map (fun i => (i.zero, i.size, i.bytes)) = some (some (.agg #[.int .i64 0, .int .i64 0]), 2, 16) := by kernel_rfl
theorem makeO (n : Nat) (hn : n ≤ 10000) : ∃ O : Obj, (∀ w : World, (Instr.makeSlice 50 (.int .i64 (n : Int)) (.int .i64 (n : Int))).run Try.prog w = .ok (.slice (some ⟨w.heap.size, 0, none⟩) n n) (w.alloc O)) ∧ ∀ w : World, RowG (w.alloc O) w.heap.size 57 (n * 2) (fun _ => .int .i64 0) := by
  obtain ⟨i0, hi, hz0, hz1, hz2⟩ := info_parts infoO
  refine ⟨.cells (madeCells (Value.agg #[.int .i64 0, .int .i64 0]).cells (n * 2)) 57, fun w => ?_, fun w => ⟨_, heap_new w _, fun j hj => ?_⟩⟩
  · have h := run_make (P := Try.prog) w 50 57 i0 _ Try.underlying50 hi hz0 .i64 .i64 (n : Int) (n : Int) (by omega) (Int.le_refl _) (by rw [hz2]; omega) (by omega)
    rw [hz1] at h
    simpa using h
  · have hsz : (Value.agg #[.int .i64 0, .int .i64 0]).cells.size = 2 := rfl
    have h3 : j % 2 < 2 := Nat.mod_lt _ (by decide)
    simp only [madeCells, Array.getElem?_map, Array.getElem?_range, hj, if_true, Option.map_some, hsz]
    rcases (by omega : j % 2 = 0 ∨ j % 2 = 1) with h | h <;> rw [h] <;> rfl
theorem sv_new {w : World} {T E : TypeId} {O : Obj} {c K : Nat} (hK : w.heap.size = K) (h1 : 1 ≤ c) (h2 : c ≤ 8) (hr : RowG (w.alloc O) w.heap.size E (c * 2) (fun _ => .int .i64 0)) : SV ((w.alloc O).alloc (.cells #[.slice (some ⟨K, 0, none⟩) c c] T)) T E (K + 1) K c noS := by
  subst hK
  refine ⟨heap_new2 w _ _, (hr.kept (S := fun _ => False) (Kept.ofBelow (below_one (Below.refl _ _) _)) (fun e => e)).congr (fun i hi => ?_), h1, h2, by omega⟩
  unfold skF noS
  simp
section
variable {S : Nat → Prop} {w w' : World} {T E : TypeId} {B r c : Nat} {t t' : Sk} {p : Option Addr} {x g n e : Int} {Ts : List TypeId}
set_option maxHeartbeats 1000000 in
theorem cNew (c : Nat) (h1 : 1 ≤ c) (h2 : c ≤ 8) (w : World) : Calls Try.prog 7 #[.int .i64 c] w fun e w' => ∃ B r, e = .returned (.tuple #[.pointer (some ⟨B, 0, none⟩), .int .i64 0]) ∧ SV w' 48 55 B r c noS ∧ Below w.heap.size w w' ∧ w.heap.size ≤ B ∧ w.heap.size ≤ r := by
  obtain ⟨O, hO, hr⟩ := makeK c (by omega)
  have HN := Lib.hid (sv_new (w := w) (T := 48) rfl h1 h2 (hr w))
  have h3 : ¬ (c : Int) < 1 := by omega
  have h4 : ¬ (8 : Int) < c := by omega
  clear hr
  go_enter Try.func7, Try.ntmps7
  go_wp2
  go_ret2
  exact ⟨_, rfl, _, HN.out, below_one (below_one (Below.refl _ _) _) _, by omega, by omega⟩
set_option maxHeartbeats 1000000 in
theorem cNewNo (x : Int) (h : ¬ (1 ≤ x ∧ x ≤ 8)) (w : World) : Calls Try.prog 7 #[.int .i64 x] w fun e w' => e = .returned (.tuple #[.pointer none, .int .i64 2]) ∧ w' = w := by
  by_cases h1 : x < 1
  · clear h
    go_enter Try.func7, Try.ntmps7
    go_wp2
    go_ret2
    exact ⟨rfl, rfl⟩
  · have h2 : 8 < x := by omega
    clear h
    go_enter Try.func7, Try.ntmps7
    go_wp2
    go_ret2
    exact ⟨rfl, rfl⟩
set_option maxHeartbeats 1000000 in
theorem rNew (c : Nat) (h1 : 1 ≤ c) (h2 : c ≤ 8) (w : World) : Calls Try.prog 8 #[.int .i64 c] w fun e w' => ∃ B r, e = .returned (.tuple #[.pointer (some ⟨B, 0, none⟩), .int .i64 0]) ∧ SV w' 52 57 B r c noS ∧ Below w.heap.size w w' ∧ w.heap.size ≤ B ∧ w.heap.size ≤ r := by
  obtain ⟨O, hO, hr⟩ := makeO c (by omega)
  have HN := Lib.hid (sv_new (w := w) (T := 52) rfl h1 h2 (hr w))
  have h3 : ¬ (c : Int) < 1 := by omega
  have h4 : ¬ (8 : Int) < c := by omega
  clear hr
  go_enter Try.func8, Try.ntmps8
  go_wp2
  go_ret2
  exact ⟨_, rfl, _, HN.out, below_one (below_one (Below.refl _ _) _) _, by omega, by omega⟩
set_option maxHeartbeats 1000000 in
theorem rNewNo (x : Int) (h : ¬ (1 ≤ x ∧ x ≤ 8)) (w : World) : Calls Try.prog 8 #[.int .i64 x] w fun e w' => e = .returned (.tuple #[.pointer none, .int .i64 2]) ∧ w' = w := by
  by_cases h1 : x < 1
  · clear h
    go_enter Try.func8, Try.ntmps8
    go_wp2
    go_ret2
    exact ⟨rfl, rfl⟩
  · have h2 : 8 < x := by omega
    clear h
    go_enter Try.func8, Try.ntmps8
    go_wp2
    go_ret2
    exact ⟨rfl, rfl⟩
set_option maxHeartbeats 2000000 in
theorem cCheck (h : SV w 48 55 B r c t) (x g n q : Int) (hq : askE c x g n = q) :
    Calls Try.prog 25 #[.pointer (some ⟨B, 0, none⟩), .int .i64 x, .int .i64 g, .int .i64 n] w fun e w' => e = .returned (.int .i64 q) ∧ w' = w := by
  have HA := Lib.hid h
  have c0 := h.c0
  have n1 := h.n1
  have hc0 : ((c : Int) == 0) = false := by simp; omega
  clear h
  rcases askE_cases c x g n with ⟨e, h1⟩ | ⟨e, h1, h2⟩ | ⟨e, h1, h2, h3⟩ | ⟨e, h1, h2, h3⟩
  · rw [e] at hq
    subst hq
    have HC := Lib.hid (decide_eq_false h1)
    clear h1 e
    go_enter Try.func25, Try.ntmps25
    go_wp2_with (go_at_call 22; refine (cIsCpu HA.out x _ HC.out).mono ?_; rintro e w1 ⟨rfl, rfl⟩)
    go_ret
    exact ⟨rfl, rfl⟩
  · rw [e] at hq
    subst hq
    have HC := Lib.hid (decide_eq_true h1)
    clear h1 e
    by_cases g1 : g < 1
    · clear h2
      go_enter Try.func25, Try.ntmps25
      go_wp2_with (go_at_call 22; refine (cIsCpu HA.out x _ HC.out).mono ?_; rintro e w1 ⟨rfl, rfl⟩)
      go_ret
      exact ⟨rfl, rfl⟩
    · have g2 : 16 < g := by unfold isG at h2; omega
      clear h2
      go_enter Try.func25, Try.ntmps25
      go_wp2_with (go_at_call 22; refine (cIsCpu HA.out x _ HC.out).mono ?_; rintro e w1 ⟨rfl, rfl⟩)
      go_ret
      exact ⟨rfl, rfl⟩
  · rw [e] at hq
    subst hq
    have HC := Lib.hid (decide_eq_true h1)
    have g1 : ¬ g < 1 := by unfold isG at h2; omega
    have g2 : ¬ 16 < g := by unfold isG at h2; omega
    clear h1 e h2
    by_cases m1 : n < 0
    · clear h3
      go_enter Try.func25, Try.ntmps25
      go_wp2_with (go_at_call 22; refine (cIsCpu HA.out x _ HC.out).mono ?_; rintro e w1 ⟨rfl, rfl⟩)
      go_ret
      exact ⟨rfl, rfl⟩
    · have m2 : 9007199254740991 < n := by unfold isN at h3; omega
      clear h3
      go_enter Try.func25, Try.ntmps25
      go_wp2_with (go_at_call 22; refine (cIsCpu HA.out x _ HC.out).mono ?_; rintro e w1 ⟨rfl, rfl⟩)
      go_ret
      exact ⟨rfl, rfl⟩
  · rw [e] at hq
    subst hq
    have HC := Lib.hid (decide_eq_true h1)
    have g1 : ¬ g < 1 := by unfold isG at h2; omega
    have g2 : ¬ 16 < g := by unfold isG at h2; omega
    have m1 : ¬ n < 0 := by unfold isN at h3; omega
    have m2 : ¬ 9007199254740991 < n := by unfold isN at h3; omega
    clear h1 e h2 h3
    go_enter Try.func25, Try.ntmps25
    go_wp2_with (go_at_call 22; refine (cIsCpu HA.out x _ HC.out).mono ?_; rintro e w1 ⟨rfl, rfl⟩)
    go_ret
    exact ⟨rfl, rfl⟩
set_option maxHeartbeats 1000000 in
theorem cHas (h : SV w 48 55 B r c t) (x a b : Int) (ha : hasG c t x = a) (hb : hasN c t x = b) :
    Calls Try.prog 10 #[.pointer (some ⟨B, 0, none⟩), .int .i64 x] w fun e w' => e = .returned (.tuple #[.int .i64 a, .int .i64 b]) ∧ Below w.heap.size w w' := by
  have HA := Lib.hid h
  by_cases hx : isC c x
  · obtain ⟨k, rfl, hk⟩ := hx.nat
    rw [hasG_at t hk] at ha
    rw [hasN_at t hk] at hb
    have c0 := h.c0
    have cg := h.cg hk
    have cn := h.cn hk
    rw [ha] at cg
    rw [hb] at cn
    have HC := Lib.hid (decide_eq_true hx)
    have hk2 : (k : Int) < (c : Int) := by omega
    clear h hx ha hb
    go_enter Try.func10, Try.ntmps10
    go_wp2_with (go_at_call 22; refine (cIsCpu HA.out _ _ HC.out).mono ?_; rintro e w1 ⟨rfl, rfl⟩)
    go_quiet (fail)
    go_wp2
    go_ret2
    exact ⟨rfl, below_drewN (Below.refl _ _) _⟩
  · rw [hasG_no t hx] at ha
    rw [hasN_no t hx] at hb
    subst ha hb
    have HC := Lib.hid (decide_eq_false hx)
    clear h hx
    go_enter Try.func10, Try.ntmps10
    go_wp2_with (go_at_call 22; refine (cIsCpu HA.out _ _ HC.out).mono ?_; rintro e w1 ⟨rfl, rfl⟩)
    go_ret2
    exact ⟨rfl, Below.refl _ _⟩
set_option maxHeartbeats 2000000 in
set_option maxRecDepth 100000 in
theorem cHeld (h : SV w 48 55 B r c t) (hs : SI c t) (x y : Int) (hy : held t x c = y) :
    Calls Try.prog 12 #[.pointer (some ⟨B, 0, none⟩), .int .i64 x] w fun e w' => e = .returned (.int .i64 y) ∧ Below w.heap.size w w' := by
  have HA := Lib.hid h
  have HS := Lib.hid hs
  have HY := Lib.hid hy
  have c0 := h.c0
  clear h hs hy
  go_enter Try.func12, Try.ntmps12
  go_wp2
  go_loopw [5, 15] (fun s i wr => ∃ (k : Nat) (z : Int), k ≤ c ∧ i = .int .i64 k ∧ s = .int .i64 z ∧ Hid (z = held t x k) ∧ Hid (Below w.heap.size w wr)) (fun s i _ => c - (intOf i).toNat)
  case atStart => exact ⟨0, 0, by omega, rfl, rfl, Lib.hid rfl, Lib.hid (Below.refl _ _)⟩
  case round =>
    obtain ⟨k, z, hk, rfl, rfl, HZ, HB⟩ := hrel
    by_cases hlt : k < c
    · have cg := (HA.out.below HB.out).cg hlt
      have cn := (HA.out.below HB.out).cn hlt
      have hb1 := held_bounds HS.out x hk
      have hb2 := (HS.out k hlt).b
      have hc8 := HA.out.n2
      have HST := Lib.hid (held_step t x k)
      rw [← HZ.out] at hb1 HST
      generalize t.g k = G at cg HST
      generalize t.n k = N at cn hb2 HST
      have HB1 := Lib.hid (below_one HB.out (.cells #[.int .i64 G, .int .i64 N] 55))
      have hw : IntKind.i64.wrap (z + N) = z + N := IntWalk.i64_in _ (by omega)
      clear HZ hb1 hb2
      by_cases hx : G = x
      · have hq : (G == x) = true := by simp [hx]
        have HT : Hid (held t x (k + 1) = z + N) := Lib.hid (by rw [HST.out, if_pos hx])
        clear HST hx
        go_wp2
        go_roundw
        case rel => exact ⟨k + 1, z + N, by omega, by go_num, rfl, Lib.hid HT.out.symm, HB1⟩
        case measure => simp [intOf]; omega
      · have hq : (G == x) = false := by simp [hx]
        have HT : Hid (held t x (k + 1) = z) := Lib.hid (by rw [HST.out, if_neg hx, Int.add_zero])
        clear HST hx
        go_wp2
        go_roundw
        case rel => exact ⟨k + 1, z, by omega, by go_num, rfl, Lib.hid HT.out.symm, HB1⟩
        case measure => simp [intOf]; omega
    · obtain rfl : k = c := by omega
      have HE : Hid (z = y) := Lib.hid (by rw [HZ.out, HY.out])
      go_wp2
      go_ret
      exact ⟨ret_int HE.out, HB.out⟩
end
end Go.Proofs.Ythjonjkeaiobdaa
