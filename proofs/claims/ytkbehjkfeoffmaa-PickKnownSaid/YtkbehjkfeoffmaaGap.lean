/-
  Gap and Fair, of the program and of the document's answer: one function of the picks.
-/
import Derived.Test.YtkbehjkfeoffmaaMem
set_option linter.unusedVariables false
set_option linter.unusedSimpArgs false
namespace Go.Proofs.Ytkbehjkfeoffmaa
open Go Go.RowKit

/-- the longest gap, and the one under way, behind k picks -/
def gapK (l : List Int) (c : Int) : Nat → Nat × Nat
  | 0 => (0, 0)
  | k + 1 => (max (gapK l c k).1 (if pk l k = c then 0 else (gapK l c k).2 + 1), if pk l k = c then 0 else (gapK l c k).2 + 1)
theorem gapK_le (l : List Int) (c : Int) (k : Nat) : (gapK l c k).1 ≤ k ∧ (gapK l c k).2 ≤ k := by
  induction k with
  | zero => simp [gapK]
  | succ k ih =>
    simp only [gapK]
    split <;> omega
theorem gapK_hit (l : List Int) (c : Int) (k : Nat) (h : pk l k = c) : gapK l c (k + 1) = ((gapK l c k).1, 0) := by
  simp [gapK, h]
theorem gapK_miss (l : List Int) (c : Int) (k : Nat) (h : pk l k ≠ c) : gapK l c (k + 1) = (max (gapK l c k).1 ((gapK l c k).2 + 1), (gapK l c k).2 + 1) := by
  simp [gapK, h]
def gapF (l : List Int) (c : Int) : Nat := (gapK l c l.length).1
theorem gapF_le (l : List Int) (c : Int) : gapF l c ≤ l.length := (gapK_le l c _).1
def fairF (l : List Int) (n m : Int) : Bool := decide (1 ≤ n ∧ n ≤ 8 ∧ 1 ≤ m ∧ ∀ c : Nat, c < n.toNat → (gapF l (c : Int) : Int) < m)
theorem fairF_no (l : List Int) (n m : Int) (h : ¬ (1 ≤ n ∧ n ≤ 8 ∧ 1 ≤ m)) : fairF l n m = false := by
  unfold fairF
  exact decide_eq_false (fun g => h ⟨g.1, g.2.1, g.2.2.1⟩)
set_option maxHeartbeats 2000000 in
set_option maxRecDepth 100000 in
theorem cGap (u : Value) (l : List Int) (c : Int) (w : World) (hs : ShowI w u l) :
    Calls Try.prog 14 #[u, .int .i64 c] w fun e w' => e = .returned (.int .i64 (gapF l c)) ∧ Below w.heap.size w w' := by
  obtain ⟨ao, cap, rfl, hcap, hat⟩ := hs.form
  clear hs
  go_enter Try.func14, Try.ntmps14
  go_wp2
  go_loopw [5, 6, 11] (fun x y z wr => ∃ k p q : Nat, k ≤ l.length ∧ z = .int .i64 k ∧ x = .int .i64 p ∧ y = .int .i64 q ∧ p ≤ k ∧ q ≤ k ∧ Hid (gapK l c k = (p, q)) ∧ Below w.heap.size w wr) (fun x y z _ => l.length - (intOf z).toNat)
  case atStart => exact ⟨0, 0, 0, by omega, rfl, rfl, rfl, by omega, by omega, Lib.hid rfl, Below.refl _ _⟩
  case round =>
    obtain ⟨k, p, q, hk, rfl, rfl, rfl, hp, hq, HG, hb⟩ := hrel
    by_cases hlt : k < l.length
    · obtain ⟨b1, o1, rfl, c1⟩ := hat k hlt
      have d1 := (hb.cell (p := ⟨b1, o1 + k, none⟩) (World.block_lt_of_cell? w _ c1)).trans c1
      have HH := Lib.hid (gapK_hit l c k)
      have HM := Lib.hid (gapK_miss l c k)
      clear c1
      generalize pk l k = x at d1 HH HM
      by_cases hx : c = x
      · subst hx
        have H1 : Hid (gapK l c (k + 1) = (p, 0)) := Lib.hid (by rw [HH.out rfl, HG.out])
        clear HH HM HG
        go_wp2
        go_roundw
        case rel => exact ⟨k + 1, p, 0, by omega, by go_num, by first | rfl | go_num, by first | rfl | go_num, by omega, by omega, H1, hb⟩
        case measure => simp [intOf]; omega
      · have hne : (x == c) = false := by simpa using (fun h => hx h.symm)
        obtain ⟨r, hr⟩ : ∃ r : Nat, max p (q + 1) = r := ⟨_, rfl⟩
        have hr' : (if (p : Int) < (q : Int) + 1 then (q : Int) + 1 else (p : Int)) = (r : Int) := by split <;> omega
        have H1 : Hid (gapK l c (k + 1) = (r, q + 1)) := Lib.hid (by rw [HM.out (fun h => hx h.symm), HG.out, ← hr])
        have hrk : r ≤ k + 1 := by omega
        clear HH HM HG hx hr
        go_wp2
        go_roundw
        case rel => exact ⟨k + 1, r, q + 1, by omega, by go_num, by first | rfl | go_num, by first | rfl | go_num, by omega, by omega, H1, hb⟩
        case measure => simp [intOf]; omega
    · have hke : k = l.length := by omega
      subst hke
      have H1 : Hid (gapF l c = p) := Lib.hid (by unfold gapF; rw [HG.out])
      go_wp2
      go_ret
      exact ⟨(ret_int (by rw [H1.out])).symm, hb⟩
set_option maxHeartbeats 2000000 in
set_option maxRecDepth 100000 in
theorem rGap (u : Value) (l : List Int) (c : Int) (w : World) (hs : ShowI w u l) :
    Calls Try.prog 15 #[u, .int .i64 c] w fun e w' => e = .returned (.int .i64 (gapF l c)) ∧ Below w.heap.size w w' := by
  obtain ⟨ao, cap, rfl, hcap, hat⟩ := hs.form
  clear hs
  go_enter Try.func15, Try.ntmps15
  go_wp2
  go_loopw [5, 6, 7] (fun x y z wr => ∃ k p q : Nat, k ≤ l.length ∧ z = .int .i64 k ∧ x = .int .i64 p ∧ y = .int .i64 q ∧ p ≤ k ∧ q ≤ k ∧ Hid (gapK l c k = (p, q)) ∧ Below w.heap.size w wr) (fun x y z _ => l.length - (intOf z).toNat)
  case atStart => exact ⟨0, 0, 0, by omega, rfl, rfl, rfl, by omega, by omega, Lib.hid rfl, Below.refl _ _⟩
  case round =>
    obtain ⟨k, p, q, hk, rfl, rfl, rfl, hp, hq, HG, hb⟩ := hrel
    by_cases hlt : k < l.length
    · obtain ⟨b1, o1, rfl, c1⟩ := hat k hlt
      have d1 := (hb.cell (p := ⟨b1, o1 + k, none⟩) (World.block_lt_of_cell? w _ c1)).trans c1
      have HH := Lib.hid (gapK_hit l c k)
      have HM := Lib.hid (gapK_miss l c k)
      clear c1
      generalize pk l k = x at d1 HH HM
      by_cases hx : c = x
      · subst hx
        have H1 : Hid (gapK l c (k + 1) = (p, 0)) := Lib.hid (by rw [HH.out rfl, HG.out])
        clear HH HM HG
        go_wp2
        go_roundw
        case rel => exact ⟨k + 1, p, 0, by omega, by go_num, by first | rfl | go_num, by first | rfl | go_num, by omega, by omega, H1, hb⟩
        case measure => simp [intOf]; omega
      · have hne : (x == c) = false := by simpa using (fun h => hx h.symm)
        obtain ⟨r, hr⟩ : ∃ r : Nat, max p (q + 1) = r := ⟨_, rfl⟩
        have hr' : (if (p : Int) < (q : Int) + 1 then (q : Int) + 1 else (p : Int)) = (r : Int) := by split <;> omega
        have H1 : Hid (gapK l c (k + 1) = (r, q + 1)) := Lib.hid (by rw [HM.out (fun h => hx h.symm), HG.out, ← hr])
        have hrk : r ≤ k + 1 := by omega
        clear HH HM HG hx hr
        go_wp2
        go_roundw
        case rel => exact ⟨k + 1, r, q + 1, by omega, by go_num, by first | rfl | go_num, by first | rfl | go_num, by omega, by omega, H1, hb⟩
        case measure => simp [intOf]; omega
    · have hke : k = l.length := by omega
      subst hke
      have H1 : Hid (gapF l c = p) := Lib.hid (by unfold gapF; rw [HG.out])
      go_wp2
      go_ret
      exact ⟨(ret_int (by rw [H1.out])).symm, hb⟩

/-- behind the processors below k -/
theorem fairF_stop (l : List Int) (n m : Int) (k : Nat) (hk : (k : Int) < n) (h : m ≤ gapF l k) : fairF l n m = false := by
  unfold fairF
  refine decide_eq_false (fun g => ?_)
  have := g.2.2.2 k (by omega)
  omega
theorem fairF_end (l : List Int) (n m : Int) (k : Nat) (h1 : 1 ≤ n) (h2 : n ≤ 8) (h3 : 1 ≤ m) (hk : n ≤ k) (h : ∀ c : Nat, c < k → (gapF l c : Int) < m) : fairF l n m = true := by
  unfold fairF
  exact decide_eq_true ⟨h1, h2, h3, fun c hc => h c (by omega)⟩
theorem all_succ {m : Int} {l : List Int} {k : Nat} (h : ∀ c : Nat, c < k → (gapF l c : Int) < m) (h1 : (gapF l k : Int) < m) : ∀ c : Nat, c < k + 1 → (gapF l c : Int) < m := by
  intro c hc
  by_cases e : c = k
  · subst e; exact h1
  · exact h c (by omega)
theorem fairF_short (l : List Int) (n m : Int) (h1 : 1 ≤ n) (h2 : n ≤ 8) (h3 : 1 ≤ m) (h : (l.length : Int) < m) : fairF l n m = true := by
  unfold fairF
  refine decide_eq_true ⟨h1, h2, h3, fun c hc => ?_⟩
  have := gapF_le l c
  omega
set_option maxHeartbeats 2000000 in
set_option maxRecDepth 100000 in
theorem cFair (u : Value) (l : List Int) (n m : Int) (w : World) (hs : ShowI w u l) :
    Calls Try.prog 16 #[u, .int .i64 n, .int .i64 m] w fun e w' => e = .returned (.bool (fairF l n m)) ∧ Below w.heap.size w w' := by
  by_cases hn : 1 ≤ n
  · by_cases hn8 : n ≤ 8
    · by_cases hm : 1 ≤ m
      · go_enter Try.func16, Try.ntmps16
        go_wp2
        go_loopw [19] (fun z wr => ∃ k : Nat, (k : Int) ≤ n ∧ z = .int .i64 k ∧ Hid (∀ c : Nat, c < k → (gapF l c : Int) < m) ∧ Below w.heap.size w wr) (fun z _ => n.toNat - (intOf z).toNat)
        case atStart => exact ⟨0, by omega, rfl, Lib.hid (fun c h => by omega), Below.refl _ _⟩
        case round =>
          obtain ⟨k, hk, rfl, HA, hb⟩ := hrel
          by_cases hlt : (k : Int) < n
          · have hcall := cGap u l k wr (hs.below hb)
            have hle := gapF_le l k
            have HS := Lib.hid (all_succ (m := m) (l := l) (k := k) HA.out)
            have HF := Lib.hid (fairF_stop l n m k hlt)
            obtain ⟨g, hg⟩ : ∃ g, gapF l k = g := ⟨_, rfl⟩
            rw [hg] at hcall HS HF
            clear hle hg HA
            by_cases hgm : (g : Int) < m
            · have HS1 := Lib.hid (HS.out hgm)
              clear HS HF
              go_wp2_with fail
              refine hcall.mono ?_
              rintro e w1 ⟨rfl, hb1⟩
              have hb2 := below_then hb hb1
              go_wp2
              go_roundw
              case rel => exact ⟨k + 1, by omega, by go_num, HS1, hb2⟩
              case measure => simp [intOf]; omega
            · have hmg : m ≤ (g : Int) := by omega
              have HF1 := Lib.hid (HF.out hmg)
              clear HS HF
              go_wp2_with fail
              refine hcall.mono ?_
              rintro e w1 ⟨rfl, hb1⟩
              have hb2 := below_then hb hb1
              go_wp2
              go_ret
              exact ⟨(ret_bool HF1.out).symm, hb2⟩
          · have HF := Lib.hid (fairF_end l n m k hn hn8 hm (by omega) HA.out)
            go_wp2
            go_ret
            exact ⟨(ret_bool HF.out).symm, hb⟩
      · have HF := Lib.hid (fairF_no l n m (fun h => hm h.2.2))
        go_enter Try.func16, Try.ntmps16
        go_wp2
        go_ret
        exact ⟨(ret_bool HF.out).symm, Below.refl _ _⟩
    · have HF := Lib.hid (fairF_no l n m (fun h => hn8 h.2.1))
      go_enter Try.func16, Try.ntmps16
      go_wp2
      go_ret
      exact ⟨(ret_bool HF.out).symm, Below.refl _ _⟩
  · have HF := Lib.hid (fairF_no l n m (fun h => hn h.1))
    go_enter Try.func16, Try.ntmps16
    go_wp2
    go_ret
    exact ⟨(ret_bool HF.out).symm, Below.refl _ _⟩
set_option maxHeartbeats 2000000 in
set_option maxRecDepth 100000 in
theorem rFair (u : Value) (l : List Int) (n m : Int) (w : World) (hs : ShowI w u l) :
    Calls Try.prog 17 #[u, .int .i64 n, .int .i64 m] w fun e w' => e = .returned (.bool (fairF l n m)) ∧ Below w.heap.size w w' := by
  obtain ⟨ao, cap, rfl, hcap, _⟩ := hs.form
  by_cases hn : 1 ≤ n
  · by_cases hn8 : n ≤ 8
    · by_cases hm : 1 ≤ m
      · by_cases hlm : m ≤ (l.length : Int)
        · go_enter Try.func17, Try.ntmps17
          go_wp2
          go_loopw [7] (fun z wr => ∃ k : Nat, (k : Int) ≤ n ∧ z = .int .i64 k ∧ Hid (∀ c : Nat, c < k → (gapF l c : Int) < m) ∧ Below w.heap.size w wr) (fun z _ => n.toNat - (intOf z).toNat)
          case atStart => exact ⟨0, by omega, rfl, Lib.hid (fun c h => by omega), Below.refl _ _⟩
          case round =>
            obtain ⟨k, hk, rfl, HA, hb⟩ := hrel
            by_cases hlt : (k : Int) < n
            · have hcall := rGap _ l k wr (hs.below hb)
              have HS := Lib.hid (all_succ (m := m) (l := l) (k := k) HA.out)
              have HF := Lib.hid (fairF_stop l n m k hlt)
              obtain ⟨g, hg⟩ : ∃ g, gapF l k = g := ⟨_, rfl⟩
              rw [hg] at hcall HS HF
              clear hg HA
              by_cases hgm : (g : Int) < m
              · have HS1 := Lib.hid (HS.out hgm)
                clear HS HF
                go_wp2_with fail
                refine hcall.mono ?_
                rintro e w1 ⟨rfl, hb1⟩
                have hb2 := below_then hb hb1
                go_wp2
                go_roundw
                case rel => exact ⟨k + 1, by omega, by go_num, HS1, hb2⟩
                case measure => simp [intOf]; omega
              · have hmg : m ≤ (g : Int) := by omega
                have HF1 := Lib.hid (HF.out hmg)
                clear HS HF
                go_wp2_with fail
                refine hcall.mono ?_
                rintro e w1 ⟨rfl, hb1⟩
                have hb2 := below_then hb hb1
                go_wp2
                go_ret
                exact ⟨(ret_bool HF1.out).symm, hb2⟩
            · have HF := Lib.hid (fairF_end l n m k hn hn8 hm (by omega) HA.out)
              go_wp2
              go_ret
              exact ⟨(ret_bool HF.out).symm, hb⟩
        · have HF := Lib.hid (fairF_short l n m hn hn8 hm (by omega))
          have hlm' : (l.length : Int) < m := by omega
          go_enter Try.func17, Try.ntmps17
          go_wp2
          go_loopw [7] (fun z wr => z = .int .i64 0 ∧ Below w.heap.size w wr) (fun z _ => 0)
          case atStart => exact ⟨rfl, Below.refl _ _⟩
          case round =>
            obtain ⟨rfl, hb⟩ := hrel
            go_wp2
            go_ret
            exact ⟨(ret_bool HF.out).symm, hb⟩
      · have HF := Lib.hid (fairF_no l n m (fun h => hm h.2.2))
        go_enter Try.func17, Try.ntmps17
        go_wp2
        go_ret
        exact ⟨(ret_bool HF.out).symm, Below.refl _ _⟩
    · have HF := Lib.hid (fairF_no l n m (fun h => hn8 h.2.1))
      go_enter Try.func17, Try.ntmps17
      go_wp2
      go_ret
      exact ⟨(ret_bool HF.out).symm, Below.refl _ _⟩
  · have HF := Lib.hid (fairF_no l n m (fun h => hn h.1))
    go_enter Try.func17, Try.ntmps17
    go_wp2
    go_ret
    exact ⟨(ret_bool HF.out).symm, Below.refl _ _⟩
end Go.Proofs.Ytkbehjkfeoffmaa
