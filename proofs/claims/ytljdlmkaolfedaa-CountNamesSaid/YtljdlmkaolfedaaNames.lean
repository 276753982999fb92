/-
  The closed law CountNames, walked.
-/
import Derived.Test.YtljdlmkaolfedaaWorks
set_option linter.unusedVariables false
set_option linter.unusedSimpArgs false
namespace Go.Proofs.Ytljdlmkaolfedaa
open Go Go.RowKit

/-- how many below n a test is true of -/
def cntB (f : Nat → Bool) : Nat → Nat
  | 0 => 0
  | n + 1 => cntB f n + (if f n then 1 else 0)
/-- the same from a on, 2 ^ k of them, by halves -/
def cntX (f : Nat → Bool) : Nat → Nat → Nat
  | 0, a => if f a then 1 else 0
  | k + 1, a => cntX f k a + cntX f k (a + 2 ^ k)
theorem cntB_add (f : Nat → Bool) (n : Nat) : ∀ m, cntB f (n + m) = cntB f n + cntB (fun i => f (n + i)) m
  | 0 => rfl
  | m + 1 => by
    show cntB f (n + m) + (if f (n + m) = true then 1 else 0) = cntB f n + (cntB (fun i => f (n + i)) m + (if f (n + m) = true then 1 else 0))
    rw [cntB_add f n m]
    omega
theorem cntX_is (f : Nat → Bool) : ∀ k a, cntX f k a = cntB (fun i => f (a + i)) (2 ^ k)
  | 0, a => by simp [cntX, cntB]
  | k + 1, a => by
    show cntX f k a + cntX f k (a + 2 ^ k) = _
    rw [cntX_is f k a, cntX_is f k (a + 2 ^ k), Nat.pow_succ, Nat.mul_two, cntB_add]
    simp only [Nat.add_assoc]
theorem cntB_le (f : Nat → Bool) : ∀ n, cntB f n ≤ n
  | 0 => Nat.le_refl _
  | n + 1 => by
    show cntB f n + _ ≤ n + 1
    have := cntB_le f n
    split <;> omega
def tH (n : Nat) : Bool := decide (isH n)
def tP (n : Nat) : Bool := decide (isP n)
theorem none_above {f : Nat → Bool} (a : Nat) : ∀ m, (∀ i, i < m → f (a + i) = false) → cntB (fun i => f (a + i)) m = 0
  | 0, _ => rfl
  | m + 1, h => by
    show cntB (fun i => f (a + i)) m + (if f (a + m) = true then 1 else 0) = 0
    rw [none_above a m (fun i hi => h i (by omega)), h m (by omega)]
    rfl
/-- none from 4096 on: a head's slab is below 32, a part's number below 64 -/
theorem tH_above {n : Nat} (h : 4096 ≤ n) : tH n = false := by
  apply decide_eq_false
  intro e
  have e' : mayH ((n : Int) / 64 - 1) ((n : Int) % 64 - 1) := e
  have := mayH_range e'
  omega
theorem tP_above {n : Nat} (h : 4096 ≤ n) : tP n = false := by
  apply decide_eq_false
  intro e
  have e' : mayP ((n : Int) % 64 - 1) ((n : Int) / 64) := e
  have := mayP_range e'
  omega
theorem cntB_top {f : Nat → Bool} {c : Nat} (h : ∀ n, 4096 ≤ n → f n = false) (hc : cntX f 12 0 = c) : cntB f 4200 = c := by
  rw [show 4200 = 4096 + 104 from rfl, cntB_add, none_above 4096 104 (fun i _ => h _ (by omega)), ← hc, cntX_is]
  simp
theorem heads_known : cntB tH 4200 = 545 := cntB_top (fun n h => tH_above h) (by decide +kernel)
theorem parts_known : cntB tP 4200 = 2017 := cntB_top (fun n h => tP_above h) (by decide +kernel)
theorem cntB_step (f : Nat → Bool) (n : Nat) : (f n = true ∧ cntB f (n + 1) = cntB f n + 1) ∨ (f n = false ∧ cntB f (n + 1) = cntB f n) := by
  have e : cntB f (n + 1) = cntB f n + (if f n = true then 1 else 0) := rfl
  rw [e]
  cases h : f n
  · exact Or.inr ⟨rfl, by simp⟩
  · exact Or.inl ⟨rfl, by simp⟩
theorem far_known : decide (isC 262144) = false ∧ decide (isH 9223372036854775808) = false ∧ decide (isP 9223372036854775873) = false := by decide
/-! the counts that are asked -/
def tab : List Ct := [⟨0, 0, false, false⟩, ⟨0, 0, false, true⟩, ⟨0, 1, false, false⟩, ⟨2, 1, false, true⟩, ⟨0, 17, false, true⟩, ⟨16, 16, false, true⟩, ⟨0, 0, true, false⟩, ⟨-1, 5, false, true⟩]
def tabAt (j : Nat) : Ct := tab.getD j zC
theorem tab_ask {j : Nat} (h : j < 8) : packE (tabAt j) = if j = 0 ∨ j = 5 then 0 else 2 := by
  have h2 : ∀ j : Fin 8, packE (tabAt j.val) = if j.val = 0 ∨ j.val = 5 then 0 else 2 := by decide
  exact h2 ⟨j, h⟩
def tabA : Array Value := #[.int .i64 0, .int .i64 0, .bool false, .bool false, .int .i64 0, .int .i64 0, .bool false, .bool true, .int .i64 0, .int .i64 1, .bool false, .bool false, .int .i64 2, .int .i64 1, .bool false, .bool true, .int .i64 0, .int .i64 17, .bool false, .bool true, .int .i64 16, .int .i64 16, .bool false, .bool true, .int .i64 0, .int .i64 0, .bool true, .bool false, .int .i64 (-1), .int .i64 5, .bool false, .bool true]
theorem tab_cells {w : World} {K j : Nat} (h : w.heap[K]? = some (.cells tabA 23 (0, 0))) (hj : j < 8) :
    w.cell? ⟨K, j * 4, none⟩ = some (.int .i64 (tabAt j).i) ∧ w.cell? ⟨K, j * 4 + 1, none⟩ = some (.int .i64 (tabAt j).n) ∧ w.cell? ⟨K, j * 4 + 2, none⟩ = some (.bool (tabAt j).f) ∧ w.cell? ⟨K, j * 4 + 3, none⟩ = some (.bool (tabAt j).l) := by
  rcases (by omega : j = 0 ∨ j = 1 ∨ j = 2 ∨ j = 3 ∨ j = 4 ∨ j = 5 ∨ j = 6 ∨ j = 7) with rfl | rfl | rfl | rfl | rfl | rfl | rfl | rfl <;>
    exact ⟨self_cell h _ _ rfl, self_cell h _ _ rfl, self_cell h _ _ rfl, self_cell h _ _ rfl⟩
set_option maxHeartbeats 4000000 in
set_option maxRecDepth 100000 in
theorem walkNames (W : World) : Calls Try.prog 7 #[] W fun e W' => e = .returned (.bool true) ∧ Below W.heap.size W W' := by
  have HH : Hid (∀ n : Nat, n < 4200 → ∃ s o, ∀ w, Calls Try.prog 17 #[.int .u64 n] w fun e w' => e = .returned (.tuple #[.int .i64 s, .int .i64 o, .bool (tH n)]) ∧ Below w.heap.size w w') := Lib.hid (fun n hn => ⟨_, _, cOfH n ⟨by omega, by omega⟩⟩)
  have HP : Hid (∀ n : Nat, n < 4200 → ∃ s o, ∀ w, Calls Try.prog 19 #[.int .u64 n] w fun e w' => e = .returned (.tuple #[.int .i64 s, .int .i64 o, .bool (tP n)]) ∧ Below w.heap.size w w') := Lib.hid (fun n hn => ⟨_, _, cOfP n ⟨by omega, by omega⟩⟩)
  obtain ⟨f1, f2, f3⟩ := far_known
  have hc := cCounts 262144 (by decide)
  rw [f1] at hc
  generalize cntV 262144 = X at hc
  have hh := cOfH 9223372036854775808 (by decide)
  rw [f2] at hh
  generalize hS 9223372036854775808 = s1 at hh
  generalize hO 9223372036854775808 = s2 at hh
  have hp := cOfP 9223372036854775873 (by decide)
  rw [f3] at hp
  generalize pS 9223372036854775873 = t1 at hp
  generalize pM 9223372036854775873 = t2 at hp
  have HC := Lib.hid hc
  have H1 := Lib.hid hh
  have H2 := Lib.hid hp
  clear f1 f2 f3 hc hh hp
  go_enter Try.func7, Try.ntmps7
  go_wp2
  go_loopw [1, 2, 3] (fun a b i wr => ∃ n : Nat, n ≤ 4200 ∧ i = .int .u64 n ∧ a = .int .i64 (cntB tH n : Nat) ∧ b = .int .i64 (cntB tP n : Nat) ∧ Hid (Below W.heap.size W wr)) (fun _ _ i _ => 4200 - (intOf i).toNat)
  case atStart => exact ⟨0, by omega, rfl, rfl, rfl, Lib.hid (Below.refl _ _)⟩
  case round =>
    obtain ⟨n, hn, rfl, rfl, rfl, HW⟩ := hrel
    by_cases hlt : n < 4200
    · obtain ⟨s, o, h1⟩ := HH.out n hlt
      obtain ⟨p, m, h2⟩ := HP.out n hlt
      have hA := cntB_le tH n
      have hB := cntB_le tP n
      have hA1 := cntB_step tH n
      have hB1 := cntB_step tP n
      generalize tH n = z at h1 hA1
      generalize tP n = y at h2 hB1
      obtain ⟨A, eA⟩ : ∃ A, cntB tH n = A := ⟨_, rfl⟩
      obtain ⟨B, eB⟩ : ∃ B, cntB tP n = B := ⟨_, rfl⟩
      rw [eA] at hA hA1 ⊢
      rw [eB] at hB hB1 ⊢
      have G1 := Lib.hid h1
      have G2 := Lib.hid h2
      have HA1 := Lib.hid hA1
      have HB1 := Lib.hid hB1
      clear h1 h2 hA1 hB1 eA eB
      go_wp2_with fail
      refine (G1.out _).mono ?_
      rintro e w1 ⟨rfl, hb1⟩
      have HW1 := Lib.hid (below_then HW.out hb1)
      clear hb1 HW
      go_wp2_with fail
      refine (G2.out _).mono ?_
      rintro e w2 ⟨rfl, hb2⟩
      have HW2 := Lib.hid (below_then HW1.out hb2)
      clear hb2 HW1 G1 G2
      rcases HA1.out with ⟨rfl, eA⟩ | ⟨rfl, eA⟩ <;> rcases HB1.out with ⟨rfl, eB⟩ | ⟨rfl, eB⟩ <;> have EA := Lib.hid eA <;> have EB := Lib.hid eB <;> clear HA1 HB1 eA eB
      · go_wp2
        go_roundw
        case rel => exact ⟨n + 1, by omega, by go_num, by rw [EA.out]; go_num, by rw [EB.out]; go_num, HW2⟩
        case measure => simp [intOf]; omega
      · go_wp2
        go_roundw
        case rel => exact ⟨n + 1, by omega, by go_num, by rw [EA.out]; go_num, by rw [EB.out], HW2⟩
        case measure => simp [intOf]; omega
      · go_wp2
        go_roundw
        case rel => exact ⟨n + 1, by omega, by go_num, by rw [EA.out], by rw [EB.out]; go_num, HW2⟩
        case measure => simp [intOf]; omega
      · go_wp2
        go_roundw
        case rel => exact ⟨n + 1, by omega, by go_num, by rw [EA.out], by rw [EB.out], HW2⟩
        case measure => simp [intOf]; omega
    · obtain rfl : n = 4200 := by omega
      rw [heads_known, parts_known, show ((4200 : Nat) : Int) = 4200 from rfl, show ((545 : Nat) : Int) = 545 from rfl, show ((2017 : Nat) : Int) = 2017 from rfl]
      clear HH HP
      go_wp2
      have HT : Hid ((wr.alloc (.cells tabA 23)).heap[wr.heap.size]? = some (.cells tabA 23 (0, 0))) := Lib.hid (heap_new _ _)
      have HW0 := Lib.hid (below_one HW.out (.cells tabA 23))
      obtain ⟨g, hg⟩ : ∃ g, wr.heap.size = g := ⟨_, rfl⟩
      obtain ⟨w0, hw0⟩ : ∃ w0, wr.alloc (.cells tabA 23) = w0 := ⟨_, rfl⟩
      rw [hg, hw0] at HT
      rw [hw0] at HW0
      unfold tabA at hw0
      rw [hg, hw0]
      clear hg hw0 HW
      go_loopw [11] (fun i wx => ∃ j : Nat, j ≤ 8 ∧ i = .int .i64 j ∧ Hid (wx.heap[g]? = some (.cells tabA 23 (0, 0))) ∧ Hid (Below W.heap.size W wx)) (fun i _ => 8 - (intOf i).toNat)
      case atStart => exact ⟨0, by omega, rfl, HT, HW0⟩
      case round =>
        clear HT HW0
        obtain ⟨j, hj, rfl, HT, HW⟩ := hrel
        by_cases hlt : j < 8
        · obtain ⟨c0, c1, c2, c3⟩ := tab_cells HT.out hlt
          have he := tab_ask hlt
          have hpk := cPack (tabAt j)
          rw [he] at hpk
          generalize packV (tabAt j) = V at hpk
          generalize tabAt j = X at *
          by_cases h0 : j = 0
          · have hj0 : ((j : Int) == 0) = true := by simp [h0]
            rw [if_pos (Or.inl h0)] at hpk
            have HK := Lib.hid hpk
            clear hpk he h0
            go_wp2_with fail
            refine (HK.out _).mono ?_
            rintro e w1 ⟨rfl, hb1⟩
            have HW1 := Lib.hid (below_then HW.out hb1)
            have HT1 := Lib.hid (keep_block HT.out hb1)
            clear hb1 HW HT c0 c1 c2 c3
            go_wp2
            go_roundw
            case rel => exact ⟨j + 1, by omega, by go_num, HT1, HW1⟩
            case measure => simp [intOf]; omega
          · have hj0 : ((j : Int) == 0) = false := by simpa using h0
            by_cases h5 : j = 5
            · have hj5 : ((j : Int) == 5) = true := by simp [h5]
              rw [if_pos (Or.inr h5)] at hpk
              have HK := Lib.hid hpk
              clear hpk he h0 h5
              go_wp2_with fail
              refine (HK.out _).mono ?_
              rintro e w1 ⟨rfl, hb1⟩
              have HW1 := Lib.hid (below_then HW.out hb1)
              have HT1 := Lib.hid (keep_block HT.out hb1)
              clear hb1 HW HT c0 c1 c2 c3
              go_wp2
              go_roundw
              case rel => exact ⟨j + 1, by omega, by go_num, HT1, HW1⟩
              case measure => simp [intOf]; omega
            · have hj5 : ((j : Int) == 5) = false := by
                have : (j : Int) ≠ 5 := by omega
                simpa using this
              rw [if_neg (by omega)] at hpk
              have HK := Lib.hid hpk
              clear hpk he h0 h5
              go_wp2_with fail
              refine (HK.out _).mono ?_
              rintro e w1 ⟨rfl, hb1⟩
              have HW1 := Lib.hid (below_then HW.out hb1)
              have HT1 := Lib.hid (keep_block HT.out hb1)
              clear hb1 HW HT c0 c1 c2 c3
              go_wp2
              go_roundw
              case rel => exact ⟨j + 1, by omega, by go_num, HT1, HW1⟩
              case measure => simp [intOf]; omega
        · obtain rfl : j = 8 := by omega
          clear HT
          go_wp2_with fail
          refine (HC.out _).mono ?_
          rintro e w3 ⟨rfl, hb3⟩
          have HW3 := Lib.hid (below_then HW.out hb3)
          clear hb3 HW
          go_wp2_with (refine wpList_storeC (by rfl) _ _ (by rfl) w3.heap.size X (by rfl) (by rfl) _ (zero_new w3) rfl ?_; intro w4 h4 hk4; have HW4 := Lib.hid (below_then HW3.out (below_one_kept (below_one (Below.refl w3.heap.size w3) _) hk4 (Nat.le_refl _))); clear h4 hk4 HW3; refine Stop.mk ?_)
          unfold Stop
          go_wp2_with fail
          refine (H1.out _).mono ?_
          rintro e w5 ⟨rfl, hb5⟩
          have HW5 := Lib.hid (below_then HW4.out hb5)
          clear hb5 HW4
          go_wp2_with fail
          refine (H2.out _).mono ?_
          rintro e w6 ⟨rfl, hb6⟩
          have HW6 := Lib.hid (below_then HW5.out hb6)
          clear hb6 HW5
          go_wp2_with fail
          refine (works _).mono ?_
          rintro e w7 ⟨rfl, hb7⟩
          have HW7 := Lib.hid (below_then HW6.out hb7)
          clear hb7 HW6
          go_wp2
          go_ret
          exact ⟨rfl, HW7.out⟩
end Go.Proofs.Ytljdlmkaolfedaa
