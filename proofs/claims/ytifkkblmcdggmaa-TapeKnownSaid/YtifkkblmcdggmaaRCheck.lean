/-
  The document's own Check.
-/
import Derived.Test.YtifkkblmcdggmaaCheck
import Derived.Test.YtifkkblmcdggmaaSmall
set_option linter.unusedVariables false
set_option linter.unusedSimpArgs false
namespace Go.Proofs.Ytifkkblmcdggmaa
open Go Go.RowKit

set_option maxHeartbeats 1000000 in
theorem cRWithin (n lo hi : Int) (w : World) : Calls Try.prog 27 #[.int .i64 n, .int .i64 lo, .int .i64 hi] w fun e w' => e = .returned (.bool (okI lo hi n)) ∧ w' = w := by
  by_cases h1 : lo ≤ n
  · by_cases h2 : n ≤ hi
    · have hR : okI lo hi n = true := okI_iff.2 ⟨h1, h2⟩
      rw [hR]
      clear hR
      go_enter Try.func27, Try.ntmps27
      go_wp2
      go_ret
      exact ⟨rfl, rfl⟩
    · have hR : okI lo hi n = false := by rw [Bool.eq_false_iff]; intro h; exact h2 (okI_iff.1 h).2
      rw [hR]
      clear hR
      go_enter Try.func27, Try.ntmps27
      go_wp2
      go_ret
      exact ⟨rfl, rfl⟩
  · have hR : okI lo hi n = false := by rw [Bool.eq_false_iff]; intro h; exact h1 (okI_iff.1 h).1
    rw [hR]
    clear hR
    go_enter Try.func27, Try.ntmps27
    go_wp2
    go_ret
    exact ⟨rfl, rfl⟩
theorem wRWithin {n lo hi : Int} {b : Bool} (h : okI lo hi n = b) (w : World) : Calls Try.prog 27 #[.int .i64 n, .int .i64 lo, .int .i64 hi] w fun e w' => e = .returned (.bool b) ∧ w' = w := by
  have := cRWithin n lo hi w
  rwa [h] at this
theorem self_of {w wr : World} {o : Obj} (hb : Below (w.heap.size + 1) (w.alloc o) wr) : wr.heap[w.heap.size]? = some o := (hb.block w.heap.size (by omega)).trans (heap_new _ _)

theorem cell_keep' {w w' : World} {p : Addr} {u : Value} (hb : Below w.heap.size w w') (h : w.cell? p = some u) : w'.cell? p = some u := (hb.cell (World.block_lt_of_cell? w _ h)).trans h
theorem all_prefix {α : Type} (p : α → Bool) (l : List α) (k : Nat) (b : Bool) (hk : k ≤ l.length) (h : (l.take k).all p = b) (hgo : ¬ (k < l.length ∧ b = true)) : l.all p = b := by
  by_cases h1 : k < l.length
  · cases b
    · rw [Bool.eq_false_iff] at h ⊢
      intro h2
      refine h ?_
      rw [List.all_eq_true] at h2 ⊢
      exact fun x hx => h2 x (List.mem_of_mem_take hx)
    · exact absurd ⟨h1, rfl⟩ hgo
  · rwa [List.take_of_length_le (by omega)] at h
theorem and_prefix {α : Type} (bb : Bool) (p : α → Bool) (l : List α) (k : Nat) (b : Bool) (hk : k ≤ l.length) (h : (bb && (l.take k).all p) = b) (hgo : ¬ (k < l.length ∧ b = true)) : (bb && l.all p) = b := by
  cases bb
  · simpa using h
  · rw [Bool.true_and] at h ⊢
    exact all_prefix p l k b hk h hgo
theorem okL_prefix (l : List Cl) (k : Nat) (b : Bool) (hk : k ≤ l.length) (h : (decide (l.length ≤ 64) && (l.take k).all okC) = b) (hgo : ¬ (k < l.length ∧ b = true)) : okL l = b := by
  unfold okL
  by_cases h6 : decide (l.length ≤ 64) = true
  · rw [h6, Bool.true_and] at h ⊢
    exact all_prefix okC l k b hk h hgo
  · have h6' : decide (l.length ≤ 64) = false := by simpa using h6
    rw [h6', Bool.false_and] at h ⊢
    exact h

set_option maxHeartbeats 4000000 in
set_option maxRecDepth 100000 in
theorem cRCheck (v : Value) (S : Scr) (w : World) (hv : ShowScr w v S) :
    Calls Try.prog 13 #[v] w fun e w' => e = .returned (.int .i64 (errOf (okS S))) ∧ Below w.heap.size w w' := by
  obtain ⟨vc, vp, rfl, hc, hp⟩ := hv
  obtain ⟨cpus, pages, L, P⟩ := S
  dsimp only at hc hp ⊢
  obtain ⟨ao, cap, rfl, hcap, hat⟩ := hc.form
  obtain ⟨ap, capp, rfl, hcapp, hatp⟩ := hp.form
  clear hc hp
  obtain ⟨p, hp⟩ : ∃ p, okI 1 8 cpus = p := ⟨_, rfl⟩
  obtain ⟨q, hq⟩ : ∃ q, okI 1 1024 pages = q := ⟨_, rfl⟩
  have HP := Lib.hid hp
  have HQ := Lib.hid hq
  have HS : Hid (okS ⟨cpus, pages, L, P⟩ = (p && q && decide ((L.length : Int) = cpus) && decide (P.length ≤ 4096) && L.all okL && P.all (okI 0 255))) := Lib.hid (by unfold okS; dsimp only; rw [hp, hq])
  clear hp hq
  have hb0 : ∀ o, Below w.heap.size w (w.alloc o) := fun o => below_one (Below.refl _ w) o
  have hbz : ∀ o, Below (w.heap.size + 1) (w.alloc o) (w.alloc o) := fun o => Below.refl _ _
  go_enter Try.func13, Try.ntmps13
  go_wp2_with fail
  refine (wRWithin HP.out _).mono ?_
  rintro e w1 ⟨rfl, rfl⟩
  cases p
  · have HF : Hid (okS ⟨cpus, pages, L, P⟩ = false) := Lib.hid (by rw [HS.out]; simp)
    go_wp2
    go_loopw [3, 4] (fun ok i wr => ok = .bool false ∧ i = .int .i64 0 ∧ Below w.heap.size w wr ∧ Below (w.heap.size + 1) (w.alloc (.cells #[.int .i64 cpus, .int .i64 pages, .slice ao L.length cap, .slice ap P.length capp] 25)) wr) (fun _ _ _ => 0)
    case atStart => exact ⟨by first | rfl | exact congrArg Value.bool (decide_eq_false (by omega)), rfl, hb0 _, hbz _⟩
    case round =>
      obtain ⟨rfl, rfl, hb, hb2⟩ := hrel
      obtain ⟨e0, e1, e2, e3⟩ := self4 (self_of hb2)
      by_cases hl0 : 0 < L.length
      all_goals
        go_wp2
        go_loopw [3, 7] (fun ok i wr' => ok = .bool false ∧ i = .int .i64 0 ∧ wr' = wr) (fun _ _ _ => 0)
        case atStart => exact ⟨rfl, rfl, rfl⟩
        case round =>
          obtain ⟨rfl, rfl, rfl⟩ := hrel
          by_cases hl1 : 0 < P.length
          all_goals
            first
              | (exfalso; omega)
              | (go_wp2
                 go_ret
                 exact ⟨ret_int (by rw [HF.out]; rfl), hb⟩)
  go_wp2_with fail
  refine (wRWithin HQ.out _).mono ?_
  rintro e w1 ⟨rfl, rfl⟩
  cases q
  · have HF : Hid (okS ⟨cpus, pages, L, P⟩ = false) := Lib.hid (by rw [HS.out]; simp)
    go_wp2
    go_loopw [3, 4] (fun ok i wr => ok = .bool false ∧ i = .int .i64 0 ∧ Below w.heap.size w wr ∧ Below (w.heap.size + 1) (w.alloc (.cells #[.int .i64 cpus, .int .i64 pages, .slice ao L.length cap, .slice ap P.length capp] 25)) wr) (fun _ _ _ => 0)
    case atStart => exact ⟨by first | rfl | exact congrArg Value.bool (decide_eq_false (by omega)), rfl, hb0 _, hbz _⟩
    case round =>
      obtain ⟨rfl, rfl, hb, hb2⟩ := hrel
      obtain ⟨e0, e1, e2, e3⟩ := self4 (self_of hb2)
      by_cases hl0 : 0 < L.length
      all_goals
        go_wp2
        go_loopw [3, 7] (fun ok i wr' => ok = .bool false ∧ i = .int .i64 0 ∧ wr' = wr) (fun _ _ _ => 0)
        case atStart => exact ⟨rfl, rfl, rfl⟩
        case round =>
          obtain ⟨rfl, rfl, rfl⟩ := hrel
          by_cases hl1 : 0 < P.length
          all_goals
            first
              | (exfalso; omega)
              | (go_wp2
                 go_ret
                 exact ⟨ret_int (by rw [HF.out]; rfl), hb⟩)
  by_cases hn : (L.length : Int) = cpus
  rotate_left
  · have HF : Hid (okS ⟨cpus, pages, L, P⟩ = false) := Lib.hid (by rw [HS.out, decide_eq_false hn]; simp)
    have hne : ((L.length : Int) == cpus) = false := by simpa using hn
    go_wp2
    go_loopw [3, 4] (fun ok i wr => ok = .bool false ∧ i = .int .i64 0 ∧ Below w.heap.size w wr ∧ Below (w.heap.size + 1) (w.alloc (.cells #[.int .i64 cpus, .int .i64 pages, .slice ao L.length cap, .slice ap P.length capp] 25)) wr) (fun _ _ _ => 0)
    case atStart => exact ⟨by first | rfl | exact congrArg Value.bool (decide_eq_false (by omega)), rfl, hb0 _, hbz _⟩
    case round =>
      obtain ⟨rfl, rfl, hb, hb2⟩ := hrel
      obtain ⟨e0, e1, e2, e3⟩ := self4 (self_of hb2)
      by_cases hl0 : 0 < L.length
      all_goals
        go_wp2
        go_loopw [3, 7] (fun ok i wr' => ok = .bool false ∧ i = .int .i64 0 ∧ wr' = wr) (fun _ _ _ => 0)
        case atStart => exact ⟨rfl, rfl, rfl⟩
        case round =>
          obtain ⟨rfl, rfl, rfl⟩ := hrel
          by_cases hl1 : 0 < P.length
          all_goals
            first
              | (exfalso; omega)
              | (go_wp2
                 go_ret
                 exact ⟨ret_int (by rw [HF.out]; rfl), hb⟩)
  subst hn
  by_cases hm : P.length ≤ 4096
  rotate_left
  · have HF : Hid (okS ⟨(L.length : Int), pages, L, P⟩ = false) := Lib.hid (by rw [HS.out, decide_eq_false hm]; simp)
    go_wp2
    go_loopw [3, 4] (fun ok i wr => ok = .bool false ∧ i = .int .i64 0 ∧ Below w.heap.size w wr ∧ Below (w.heap.size + 1) (w.alloc (.cells #[.int .i64 L.length, .int .i64 pages, .slice ao L.length cap, .slice ap P.length capp] 25)) wr) (fun _ _ _ => 0)
    case atStart => exact ⟨by first | rfl | exact congrArg Value.bool (decide_eq_false (by omega)), rfl, hb0 _, hbz _⟩
    case round =>
      obtain ⟨rfl, rfl, hb, hb2⟩ := hrel
      obtain ⟨e0, e1, e2, e3⟩ := self4 (self_of hb2)
      by_cases hl0 : 0 < L.length
      all_goals
        go_wp2
        go_loopw [3, 7] (fun ok i wr' => ok = .bool false ∧ i = .int .i64 0 ∧ wr' = wr) (fun _ _ _ => 0)
        case atStart => exact ⟨rfl, rfl, rfl⟩
        case round =>
          obtain ⟨rfl, rfl, rfl⟩ := hrel
          by_cases hl1 : 0 < P.length
          all_goals
            first
              | (exfalso; omega)
              | (go_wp2
                 go_ret
                 exact ⟨ret_int (by rw [HF.out]; rfl), hb⟩)
  have HS2 : Hid (okS ⟨(L.length : Int), pages, L, P⟩ = (L.all okL && P.all (okI 0 255))) := Lib.hid (by rw [HS.out, decide_eq_true hm]; simp)
  clear HS HP HQ
  go_wp2
  go_loopw [3, 4] (fun ok i wr => ∃ (k : Nat) (b : Bool), k ≤ L.length ∧ ok = .bool b ∧ i = .int .i64 k ∧ (L.take k).all okL = b ∧ Below w.heap.size w wr ∧ Below (w.heap.size + 1) (w.alloc (.cells #[.int .i64 L.length, .int .i64 pages, .slice ao L.length cap, .slice ap P.length capp] 25)) wr) (fun _ i _ => L.length - (intOf i).toNat)
  case atStart => exact ⟨0, true, by omega, by first | rfl | exact congrArg Value.bool (decide_eq_true (by omega)), rfl, rfl, hb0 _, hbz _⟩
  case round =>
    obtain ⟨wo, hwo⟩ : ∃ x, x = wr := ⟨_, rfl⟩
    subst hwo
    obtain ⟨k, b, hk, rfl, rfl, hall, hb, hb2⟩ := hrel
    have HA := Lib.hid hall
    clear hall
    have hz := hb2.size
    rw [size_alloc] at hz
    obtain ⟨e0, e1, e2, e3⟩ := self4 (self_of hb2)
    by_cases hgo : k < L.length ∧ b = true
    · obtain ⟨hlt, rfl⟩ := hgo
      obtain ⟨bb, o, u, rfl, hu, hcs⟩ := hat k hlt
      have hB : bb < w.heap.size := World.block_lt_of_cell? w _ hu
      have hu2 := (hb.cell (p := ⟨bb, o + k, none⟩) hB).trans hu
      have hcs2 := hcs.below hb
      have HN : Hid (∀ x, okL L[k] = x → (L.take (k + 1)).all okL = x) := Lib.hid (fun x hx => by rw [all_take okL L k hlt, HA.out, hx]; rfl)
      clear hu hcs
      generalize L[k] = l at hcs2 HN
      obtain ⟨lo, lcap, rfl, hlcap, hlat⟩ := hcs2.form
      clear hcs2
      go_wp2
      go_loopw [3, 5] (fun ok i wr => ∃ (j : Nat) (b : Bool), j ≤ l.length ∧ ok = .bool b ∧ i = .int .i64 j ∧ (decide (l.length ≤ 64) && (l.take j).all okC) = b ∧ Below wo.heap.size wo wr) (fun _ i _ => l.length - (intOf i).toNat)
      case atStart => exact ⟨0, _, by omega, rfl, rfl, by simp; omega, Below.refl _ _⟩
      case round =>
        obtain ⟨j, b, hj, rfl, rfl, hbj, hbi⟩ := hrel
        have HB := Lib.hid hbj
        clear hbj
        have e0 := cell_keep' hbi e0
        have e1 := cell_keep' hbi e1
        have e2 := cell_keep' hbi e2
        have e3 := cell_keep' hbi e3
        have hu2 := cell_keep' hbi hu2
        have hzi := hbi.size
        by_cases hgo : j < l.length ∧ b = true
        · obtain ⟨hjl, rfl⟩ := hgo
          obtain ⟨b3, o3, rfl, hcl⟩ := hlat j hjl
          obtain ⟨hB3, f0, f1, f2, f3⟩ := call_cells hbi hcl
          have HC : Hid (∀ x, okC l[j] = x → (decide (l.length ≤ 64) && (l.take (j + 1)).all okC) = x) := Lib.hid (fun x hx => by
            rw [all_take okC l j hjl, ← Bool.and_assoc, HB.out, hx]
            rfl)
          clear hcl
          generalize l[j] = c at f0 f1 f2 f3 HC
          obtain ⟨op, a, b, cc⟩ := c
          dsimp only at f0 f1 f2 f3
          obtain ⟨r0, hr0⟩ : ∃ x, okI 0 13 op = x := ⟨_, rfl⟩
          obtain ⟨r1, hr1⟩ : ∃ x, okI 0 255 a = x := ⟨_, rfl⟩
          obtain ⟨r2, hr2⟩ : ∃ x, okI 0 65535 b = x := ⟨_, rfl⟩
          obtain ⟨r3, hr3⟩ : ∃ x, okI 0 255 cc = x := ⟨_, rfl⟩
          have HC2 : Hid (∀ x, (r0 && r1 && r2 && r3) = x → (decide (l.length ≤ 64) && (l.take (j + 1)).all okC) = x) := Lib.hid (fun x hx => HC.out x (by unfold okC; dsimp only; rw [hr0, hr1, hr2, hr3]; exact hx))
          have R0 := Lib.hid hr0
          have R1 := Lib.hid hr1
          have R2 := Lib.hid hr2
          have R3 := Lib.hid hr3
          clear hr0 hr1 hr2 hr3 HC
          have hbn := below_one hbi (.cells #[.int .i64 op, .int .i64 a, .int .i64 b, .int .i64 cc] 44)
          go_wp2_with fail
          refine (wRWithin R0.out _).mono ?_
          rintro e w2 ⟨rfl, rfl⟩
          cases r0
          · have HX := Lib.hid (HC2.out false rfl)
            go_wp2
            go_roundw
            case rel => exact ⟨j + 1, false, by omega, rfl, by go_num, HX.out, hbn⟩
            case measure => simp [intOf]; omega
          go_wp2_with fail
          refine (wRWithin R1.out _).mono ?_
          rintro e w2 ⟨rfl, rfl⟩
          cases r1
          · have HX := Lib.hid (HC2.out false rfl)
            go_wp2
            go_roundw
            case rel => exact ⟨j + 1, false, by omega, rfl, by go_num, HX.out, hbn⟩
            case measure => simp [intOf]; omega
          go_wp2_with fail
          refine (wRWithin R2.out _).mono ?_
          rintro e w2 ⟨rfl, rfl⟩
          cases r2
          · have HX := Lib.hid (HC2.out false rfl)
            go_wp2
            go_roundw
            case rel => exact ⟨j + 1, false, by omega, rfl, by go_num, HX.out, hbn⟩
            case measure => simp [intOf]; omega
          go_wp2_with fail
          refine (wRWithin R3.out _).mono ?_
          rintro e w2 ⟨rfl, rfl⟩
          have HX := Lib.hid (HC2.out r3 rfl)
          go_wp2
          go_roundw
          case rel => exact ⟨j + 1, r3, by omega, by cases r3 <;> rfl, by go_num, HX.out, hbn⟩
          case measure => simp [intOf]; omega
        · have HX : Hid (okL l = b) := Lib.hid (okL_prefix l j b hj HB.out hgo)
          have HY := Lib.hid (HN.out b HX.out)
          have hbo := below_then hb hbi
          have hbo2 := hb2.trans (hbi.mono hz)
          have hside : (j < l.length ∧ b = false) ∨ (l.length ≤ j ∧ j ≤ l.length) := by
            by_cases h1 : j < l.length
            · left
              refine ⟨h1, ?_⟩
              cases b
              · rfl
              · exact absurd ⟨h1, rfl⟩ hgo
            · right
              omega
          clear hgo HB HX HN
          rcases hside with ⟨hs1, rfl⟩ | ⟨hs1, hs2⟩
          all_goals
            go_wp2
            go_roundw
            case rel => exact ⟨k + 1, _, by omega, rfl, by go_num, HY.out, hbo, hbo2⟩
            case measure => simp [intOf]; omega
    · have HX : Hid (L.all okL = b) := Lib.hid (all_prefix okL L k b hk HA.out hgo)
      obtain ⟨bb, hbb⟩ : ∃ bb, bb = b := ⟨_, rfl⟩
      have HY : Hid (okS ⟨(L.length : Int), pages, L, P⟩ = (bb && P.all (okI 0 255))) := Lib.hid (by rw [HS2.out, HX.out, hbb])
      have HBB := Lib.hid hbb
      clear hbb
      have hside : (k < L.length ∧ b = false) ∨ (L.length ≤ k ∧ k ≤ L.length) := by
        by_cases h1 : k < L.length
        · left
          refine ⟨h1, ?_⟩
          cases b
          · rfl
          · exact absurd ⟨h1, rfl⟩ hgo
        · right
          omega
      clear hgo HA HX
      rcases hside with ⟨hs1, rfl⟩ | ⟨hs1, hs2⟩
      all_goals
        go_wp2
        go_loop [3, 7] (fun ok i => ∃ (q : Nat) (c : Bool), q ≤ P.length ∧ ok = .bool c ∧ i = .int .i64 q ∧ (bb && (P.take q).all (okI 0 255)) = c) (fun _ i => P.length - (intOf i).toNat)
        case atStart => exact ⟨0, _, by omega, rfl, rfl, by rw [HBB.out]; simp⟩
        case round =>
          obtain ⟨q, c, hq, rfl, rfl, hallq⟩ := hrel
          have HA := Lib.hid hallq
          clear hallq
          by_cases hgo : q < P.length ∧ c = true
          · obtain ⟨hqt, rfl⟩ := hgo
            obtain ⟨b4, o4, rfl, hu4⟩ := hatp q hqt
            have hu5 := (hb.cell (p := ⟨b4, o4 + q, none⟩) (World.block_lt_of_cell? w _ hu4)).trans hu4
            have HN : Hid (∀ x, okI 0 255 P[q] = x → (bb && (P.take (q + 1)).all (okI 0 255)) = x) := Lib.hid (fun x hx => by rw [all_take (okI 0 255) P q hqt, ← Bool.and_assoc, HA.out, hx]; rfl)
            clear hu4
            generalize P[q] = y at hu5 HN
            obtain ⟨r, hr⟩ : ∃ r, okI 0 255 y = r := ⟨_, rfl⟩
            have HX := Lib.hid (HN.out r hr)
            have HR := Lib.hid hr
            clear hr HN
            go_wp2_with fail
            refine (wRWithin HR.out _).mono ?_
            rintro e w2 ⟨rfl, rfl⟩
            go_wp2
            go_round
            case rel => exact ⟨q + 1, r, by omega, rfl, by go_num, HX.out⟩
            case measure => simp [intOf]; omega
          · have HZ : Hid (okS ⟨(L.length : Int), pages, L, P⟩ = c) := Lib.hid (by rw [HY.out]; exact and_prefix bb (okI 0 255) P q c hq HA.out hgo)
            have hside2 : (q < P.length ∧ c = false) ∨ (P.length ≤ q ∧ q ≤ P.length) := by
              by_cases h1 : q < P.length
              · left
                refine ⟨h1, ?_⟩
                cases c
                · rfl
                · exact absurd ⟨h1, rfl⟩ hgo
              · right
                omega
            clear hgo HA
            rcases hside2 with ⟨ht1, rfl⟩ | ⟨ht1, ht2⟩
            · go_wp2
              go_ret
              exact ⟨ret_int (by rw [HZ.out]; rfl), hb⟩
            · cases c
              all_goals
                go_wp2
                go_ret
                exact ⟨ret_int (by rw [HZ.out]; rfl), hb⟩
end Go.Proofs.Ytifkkblmcdggmaa
