/-
  The program's Check, call by call.
-/
import Derived.Test.YtifkkblmcdggmaaPure
set_option linter.unusedVariables false
set_option linter.unusedSimpArgs false
namespace Go.Proofs.Ytifkkblmcdggmaa
open Go Go.RowKit

set_option maxHeartbeats 1000000 in
theorem cWithin (n lo hi : Int) (w : World) : Calls Try.prog 25 #[.int .i64 n, .int .i64 lo, .int .i64 hi] w fun e w' => e = .returned (.bool (okI lo hi n)) ∧ w' = w := by
  by_cases h1 : lo ≤ n
  · by_cases h2 : n ≤ hi
    · have hR : okI lo hi n = true := okI_iff.2 ⟨h1, h2⟩
      rw [hR]
      clear hR
      go_enter Try.func25, Try.ntmps25
      go_wp2
      go_ret
      exact ⟨rfl, rfl⟩
    · have hR : okI lo hi n = false := by rw [Bool.eq_false_iff]; intro h; exact h2 (okI_iff.1 h).2
      rw [hR]
      clear hR
      go_enter Try.func25, Try.ntmps25
      go_wp2
      go_ret
      exact ⟨rfl, rfl⟩
  · have hR : okI lo hi n = false := by rw [Bool.eq_false_iff]; intro h; exact h1 (okI_iff.1 h).1
    rw [hR]
    clear hR
    go_enter Try.func25, Try.ntmps25
    go_wp2
    go_ret
    exact ⟨rfl, rfl⟩
theorem wWithin {n lo hi : Int} {b : Bool} (h : okI lo hi n = b) (w : World) : Calls Try.prog 25 #[.int .i64 n, .int .i64 lo, .int .i64 hi] w fun e w' => e = .returned (.bool b) ∧ w' = w := by
  have := cWithin n lo hi w
  rwa [h] at this

set_option maxHeartbeats 1000000 in
set_option maxRecDepth 100000 in
theorem cCall (c : Cl) (w : World) : Calls Try.prog 33 #[c.agg] w fun e w' => e = .returned (.bool (okC c)) ∧ Below w.heap.size w w' := by
  obtain ⟨op, a, b, cc⟩ := c
  have hb : ∀ o, Below w.heap.size w (w.alloc o) := fun o => (Below.refl _ w).alloc (Nat.le_refl _) o
  unfold okC Cl.agg
  dsimp only
  obtain ⟨p, hp⟩ : ∃ p, okI 0 13 op = p := ⟨_, rfl⟩
  obtain ⟨q, hq⟩ : ∃ q, okI 0 255 a = q := ⟨_, rfl⟩
  obtain ⟨r, hr⟩ : ∃ r, okI 0 65535 b = r := ⟨_, rfl⟩
  obtain ⟨s, hs⟩ : ∃ s, okI 0 255 cc = s := ⟨_, rfl⟩
  rw [hp, hq, hr, hs]
  have HP := Lib.hid hp
  have HQ := Lib.hid hq
  have HR := Lib.hid hr
  have HS := Lib.hid hs
  clear hp hq hr hs
  go_enter Try.func33, Try.ntmps33
  go_wp2_with fail
  refine (wWithin HP.out _).mono ?_
  rintro e w1 ⟨rfl, rfl⟩
  cases p
  · go_wp2
    go_ret
    exact ⟨rfl, hb _⟩
  go_wp2_with fail
  refine (wWithin HQ.out _).mono ?_
  rintro e w1 ⟨rfl, rfl⟩
  cases q
  · go_wp2
    go_ret
    exact ⟨rfl, hb _⟩
  go_wp2_with fail
  refine (wWithin HR.out _).mono ?_
  rintro e w1 ⟨rfl, rfl⟩
  cases r
  · go_wp2
    go_ret
    exact ⟨rfl, hb _⟩
  go_wp2_with fail
  refine (wWithin HS.out _).mono ?_
  rintro e w1 ⟨rfl, rfl⟩
  go_wp2
  go_ret
  exact ⟨by cases s <;> rfl, hb _⟩

theorem all_take {α : Type} [Inhabited α] (p : α → Bool) (l : List α) (k : Nat) (hk : k < l.length) : (l.take (k + 1)).all p = ((l.take k).all p && p l[k]) := by
  rw [List.take_succ_eq_append_getElem hk, List.all_append]
  simp
theorem all_not {α : Type} (p : α → Bool) (l : List α) (k : Nat) (hk : k < l.length) (h : p l[k] = false) : l.all p = false := by
  rw [Bool.eq_false_iff]
  intro hall
  rw [List.all_eq_true.1 hall _ (List.getElem_mem hk)] at h
  cases h


/-- the cells of call k, in a world that has come since -/
theorem call_cells {w wr : World} {b o k : Nat} {c : Cl} (hb : Below w.heap.size w wr)
    (h : w.cell? ⟨b, o + k * 4, none⟩ = some (.int .i64 c.op) ∧ w.cell? ⟨b, o + k * 4 + 1, none⟩ = some (.int .i64 c.a) ∧ w.cell? ⟨b, o + k * 4 + 2, none⟩ = some (.int .i64 c.b) ∧ w.cell? ⟨b, o + k * 4 + 3, none⟩ = some (.int .i64 c.c)) :
    b < w.heap.size ∧ wr.cell? ⟨b, o + k * 4, none⟩ = some (.int .i64 c.op) ∧ wr.cell? ⟨b, o + k * 4 + 1, none⟩ = some (.int .i64 c.a) ∧ wr.cell? ⟨b, o + k * 4 + 2, none⟩ = some (.int .i64 c.b) ∧ wr.cell? ⟨b, o + k * 4 + 3, none⟩ = some (.int .i64 c.c) := by
  obtain ⟨c0, c1, c2, c3⟩ := h
  have hB : b < w.heap.size := World.block_lt_of_cell? w _ c0
  exact ⟨hB, (hb.cell (p := ⟨b, o + k * 4, none⟩) hB).trans c0, (hb.cell (p := ⟨b, o + k * 4 + 1, none⟩) hB).trans c1, (hb.cell (p := ⟨b, o + k * 4 + 2, none⟩) hB).trans c2, (hb.cell (p := ⟨b, o + k * 4 + 3, none⟩) hB).trans c3⟩
theorem below_one {w wr : World} (hb : Below w.heap.size w wr) (o : Obj) : Below w.heap.size w (wr.alloc o) := hb.alloc hb.size o
theorem below_then {w wr w' : World} (hb : Below w.heap.size w wr) (h : Below wr.heap.size wr w') : Below w.heap.size w w' := hb.trans (h.mono hb.size)
theorem wCall {c : Cl} {b : Bool} (h : okC c = b) (w : World) : Calls Try.prog 33 #[.agg #[.int .i64 c.op, .int .i64 c.a, .int .i64 c.b, .int .i64 c.c]] w fun e w' => e = .returned (.bool b) ∧ Below w.heap.size w w' := by
  have := cCall c w
  rwa [h] at this

set_option maxHeartbeats 1000000 in
set_option maxRecDepth 100000 in
theorem cCalls (v : Value) (l : List Cl) (w : World) (hv : ShowCalls w v l) :
    Calls Try.prog 26 #[v] w fun e w' => e = .returned (.bool (okL l)) ∧ Below w.heap.size w w' := by
  obtain ⟨ao, cap, rfl, hcap, hat⟩ := hv.form
  clear hv
  by_cases h64 : l.length ≤ 64
  · have HR : Hid (okL l = l.all okC) := Lib.hid (by unfold okL; rw [decide_eq_true h64, Bool.true_and])
    rw [HR.out]
    go_enter Try.func26, Try.ntmps26
    go_wp2
    go_loopw [10] (fun i wr => ∃ k : Nat, k ≤ l.length ∧ i = .int .i64 k ∧ (l.take k).all okC = true ∧ Below w.heap.size w wr) (fun i _ => l.length - (intOf i).toNat)
    case atStart => exact ⟨0, by omega, rfl, rfl, Below.refl _ _⟩
    case round =>
      obtain ⟨k, hk, rfl, hall, hb⟩ := hrel
      have HA := Lib.hid hall
      clear hall
      by_cases hlt : k < l.length
      · obtain ⟨b, o, rfl, hcs⟩ := hat k hlt
        obtain ⟨hB, c0, c1, c2, c3⟩ := call_cells hb hcs
        have hz := hb.size
        obtain ⟨q, hq⟩ : ∃ q, okC l[k] = q := ⟨_, rfl⟩
        have HQ := Lib.hid hq
        clear hq
        go_wp2_with fail
        refine (wCall HQ.out _).mono ?_
        rintro e w1 ⟨rfl, hb1⟩
        have hb2 := below_then (below_one hb _) hb1
        cases q
        · go_wp2
          go_ret
          exact ⟨ret_bool (all_not okC l k hlt HQ.out).symm, hb2⟩
        · go_wp2
          go_roundw
          case rel => exact ⟨k + 1, by omega, by go_num, by rw [all_take okC l k hlt, HA.out, HQ.out]; rfl, hb2⟩
          case measure => simp [intOf]; omega
      · have hke : k = l.length := by omega
        subst hke
        go_wp2
        go_ret
        exact ⟨ret_bool (by have := HA.out; rw [List.take_length] at this; exact this.symm), hb⟩
  · have HR : Hid (okL l = false) := Lib.hid (by unfold okL; rw [decide_eq_false h64, Bool.false_and])
    go_enter Try.func26, Try.ntmps26
    go_wp2
    go_ret
    exact ⟨ret_bool HR.out.symm, Below.refl _ _⟩
theorem wCalls {v : Value} {l : List Cl} {q : Bool} (h : okL l = q) (w : World) (hv : ShowCalls w v l) :
    Calls Try.prog 26 #[v] w fun e w' => e = .returned (.bool q) ∧ Below w.heap.size w w' := by
  have := cCalls v l w hv
  rwa [h] at this

theorem heap_new (w : World) (o : Obj) : (w.alloc o).heap[w.heap.size]? = some o := Array.getElem?_push_size
/-- The error of a script. -/
def errOf (b : Bool) : Int := if b then 0 else 2
theorem okS_false {S : Scr} (h : ¬ ((1 ≤ S.cpus ∧ S.cpus ≤ 8) ∧ (1 ≤ S.pages ∧ S.pages ≤ 1024) ∧ (S.calls.length : Int) = S.cpus ∧ S.picks.length ≤ 4096 ∧ (∀ l ∈ S.calls, okL l = true) ∧ ∀ x ∈ S.picks, 0 ≤ x ∧ x ≤ 255)) : okS S = false := by
  rw [Bool.eq_false_iff]
  exact fun h' => h (okS_iff.1 h')

set_option maxHeartbeats 4000000 in
set_option maxRecDepth 100000 in
theorem cCheck (v : Value) (S : Scr) (w : World) (hv : ShowScr w v S) :
    Calls Try.prog 12 #[v] w fun e w' => e = .returned (.int .i64 (errOf (okS S))) ∧ Below w.heap.size w w' := by
  obtain ⟨vc, vp, rfl, hc, hp⟩ := hv
  obtain ⟨cpus, pages, L, P⟩ := S
  dsimp only at hc hp ⊢
  obtain ⟨ao, cap, rfl, hcap, hat⟩ := hc.form
  obtain ⟨ap, capp, rfl, hcapp, hatp⟩ := hp.form
  clear hc hp
  have hb0 : ∀ o, Below w.heap.size w (w.alloc o) := fun o => below_one (Below.refl _ w) o
  obtain ⟨p, hp⟩ : ∃ p, okI 1 8 cpus = p := ⟨_, rfl⟩
  obtain ⟨q, hq⟩ : ∃ q, okI 1 1024 pages = q := ⟨_, rfl⟩
  have HP := Lib.hid hp
  have HQ := Lib.hid hq
  have HS : Hid (okS ⟨cpus, pages, L, P⟩ = (p && q && decide ((L.length : Int) = cpus) && decide (P.length ≤ 4096) && L.all okL && P.all (okI 0 255))) := Lib.hid (by unfold okS; dsimp only; rw [hp, hq])
  clear hp hq
  go_enter Try.func12, Try.ntmps12
  go_wp2_with fail
  refine (wWithin HP.out _).mono ?_
  rintro e w1 ⟨rfl, rfl⟩
  cases p
  · go_wp2
    go_ret
    exact ⟨ret_int (by rw [HS.out]; simp [errOf]), hb0 _⟩
  go_wp2_with fail
  refine (wWithin HQ.out _).mono ?_
  rintro e w1 ⟨rfl, rfl⟩
  cases q
  · go_wp2
    go_ret
    exact ⟨ret_int (by rw [HS.out]; simp [errOf]), hb0 _⟩
  by_cases hn' : ¬ (L.length : Int) = cpus
  · go_wp2
    go_ret
    exact ⟨ret_int (by rw [HS.out, decide_eq_false hn']; simp [errOf]), hb0 _⟩
  have hn := Decidable.not_not.1 hn'
  clear hn'
  by_cases hm' : ¬ P.length ≤ 4096
  · go_wp2
    go_ret
    exact ⟨ret_int (by rw [HS.out, decide_eq_false hm']; simp [errOf]), hb0 _⟩
  have hm := Decidable.not_not.1 hm'
  clear hm'
  have HS2 : Hid (okS ⟨cpus, pages, L, P⟩ = (L.all okL && P.all (okI 0 255))) := Lib.hid (by rw [HS.out, decide_eq_true hn, decide_eq_true hm]; rfl)
  clear HS HP HQ
  subst hn
  go_wp2
  go_loopw [32] (fun i wr => ∃ k : Nat, k ≤ L.length ∧ i = .int .i64 k ∧ (L.take k).all okL = true ∧ Below w.heap.size w wr ∧ wr.heap[w.heap.size]? = some (.cells #[.int .i64 L.length, .int .i64 pages, .slice ao L.length cap, .slice ap P.length capp] 25 (0, 0))) (fun i _ => L.length - (intOf i).toNat)
  case atStart => exact ⟨0, by omega, rfl, rfl, hb0 _, heap_new _ _⟩
  case round =>
    obtain ⟨k, hk, rfl, hall, hb, hself⟩ := hrel
    have HA := Lib.hid hall
    clear hall
    by_cases hlt : k < L.length
    · obtain ⟨b, o, u, rfl, hu, hcs⟩ := hat k hlt
      have hB : b < w.heap.size := World.block_lt_of_cell? w _ hu
      have hu2 := (hb.cell (p := ⟨b, o + k, none⟩) hB).trans hu
      have hz := hb.size
      have hcs2 := hcs.below hb
      obtain ⟨q, hq⟩ : ∃ q, okL L[k] = q := ⟨_, rfl⟩
      have HQ := Lib.hid hq
      clear hq hu
      go_wp2_with fail
      refine (wCalls HQ.out _ hcs2).mono ?_
      rintro e w2 ⟨rfl, hb1⟩
      have hb2 := below_then hb hb1
      have hself2 : w2.heap[w.heap.size]? = _ := (hb1.block _ (Array.getElem?_eq_some_iff.1 hself).1).trans hself
      cases q
      · go_wp2
        go_ret
        exact ⟨ret_int (by rw [HS2.out, all_not okL L k hlt HQ.out]; rfl), hb2⟩
      · go_wp2
        go_roundw
        case rel => exact ⟨k + 1, by omega, by go_num, by rw [all_take okL L k hlt, HA.out, HQ.out]; rfl, hb2, hself2⟩
        case measure => simp [intOf]; omega
    · have hke : k = L.length := by omega
      subst hke
      have HA2 : Hid (okS ⟨L.length, pages, L, P⟩ = P.all (okI 0 255)) := Lib.hid (by have := HA.out; rw [List.take_length] at this; rw [HS2.out, this, Bool.true_and])
      clear HA
      have hcell : wr.cell? ⟨w.heap.size, 3, none⟩ = some (.slice ap P.length capp) := by unfold World.cell?; rw [hself]; rfl
      go_wp2
      go_loop [43] (fun i => ∃ k : Nat, k ≤ P.length ∧ i = .int .i64 k ∧ (P.take k).all (okI 0 255) = true) (fun i => P.length - (intOf i).toNat)
      case atStart => exact ⟨0, by omega, rfl, rfl⟩
      case round =>
        obtain ⟨k, hk, rfl, hall⟩ := hrel
        have HA := Lib.hid hall
        clear hall
        by_cases hlt : k < P.length
        · obtain ⟨b, o, rfl, hu⟩ := hatp k hlt
          have hB : b < w.heap.size := World.block_lt_of_cell? w _ hu
          have hu2 := (hb.cell (p := ⟨b, o + k, none⟩) hB).trans hu
          obtain ⟨q, hq⟩ : ∃ q, okI 0 255 P[k] = q := ⟨_, rfl⟩
          have HN : Hid (q = false → P.all (okI 0 255) = false) := Lib.hid (fun h => all_not (okI 0 255) P k hlt (hq.trans h))
          have HT : Hid (q = true → (P.take (k + 1)).all (okI 0 255) = true) := Lib.hid (fun h => by rw [all_take (okI 0 255) P k hlt, HA.out, hq, h]; rfl)
          clear hu
          generalize P[k] = x at hu2 hq
          have HQ := Lib.hid hq
          clear hq
          go_wp2_with fail
          refine (wWithin HQ.out _).mono ?_
          rintro e w2 ⟨rfl, rfl⟩
          cases q
          · go_wp2
            go_ret
            exact ⟨ret_int (by rw [HA2.out, HN.out trivial]; rfl), hb⟩
          · go_wp2
            go_round
            case rel => exact ⟨k + 1, by omega, by go_num, HT.out trivial⟩
            case measure => simp [intOf]; omega
        · have hke : k = P.length := by omega
          subst hke
          go_wp2
          go_ret
          exact ⟨ret_int (by have := HA.out; rw [List.take_length] at this; rw [HA2.out, this]; rfl), hb⟩
end Go.Proofs.Ytifkkblmcdggmaa
