/-
  Next, of the document's answer.
-/
import Derived.Test.YtkbehjkfeoffmaaNext
set_option linter.unusedVariables false
set_option linter.unusedSimpArgs false
namespace Go.Proofs.Ytkbehjkfeoffmaa
open Go Go.RowKit

theorem ret_pairv {x : Int} {r : Nat} {o : Option Nat} (h : x = r) (ho : o = some r) : Ending.returned (.tuple #[.int .i64 x, .bool true]) = .returned (pairOf o) := by rw [h, ho]; rfl
set_option maxHeartbeats 4000000 in
set_option maxRecDepth 100000 in
theorem rNextA (u : Value) (l : List Bool) (last : Int) (hl : last < 0) (hlen : l.length ≤ 1099511627776) (w : World) (hs : ShowB w u l) :
    Calls Try.prog 12 #[u, .int .i64 last] w fun e w' => e = .returned (pairOf (nextF l last)) ∧ Below w.heap.size w w' := by
  obtain ⟨ao, cap, rfl, hcap, hat⟩ := hs.form
  clear hs
  have HST : Hid (startN l.length last = 0) := Lib.hid (by unfold startN; rw [if_neg (by omega)])
  go_enter Try.func12, Try.ntmps12
  go_wp2
  go_loopw [7] (fun x wr => ∃ k : Nat, 1 ≤ k ∧ k ≤ l.length + 1 ∧ x = .int .i64 k ∧ Hid (Seen l 0 (k - 1)) ∧ Below w.heap.size w wr) (fun x _ => l.length + 1 - (intOf x).toNat)
  case atStart => exact ⟨1, by omega, by omega, rfl, Lib.hid (Seen.zero l 0), Below.refl _ _⟩
  case round =>
    obtain ⟨k, hk1, hk, rfl, HS, hb⟩ := hrel
    by_cases hlt : k ≤ l.length
    · obtain ⟨r, hr⟩ : ∃ r : Nat, (0 + (k - 1)) % l.length = r := ⟨_, rfl⟩
      have hrl : r < l.length := by rw [← hr]; exact Nat.mod_lt _ (by omega)
      have hri : (((l.length : Int) - 1) + (k : Int)) % (l.length : Int) = (r : Int) := by
        rw [← hr]
        have e : ((l.length : Int) - 1 + (k : Int)) = ((0 + (k - 1) : Nat) : Int) + (l.length : Int) := by omega
        rw [e, Int.add_emod_right]
        simp
      obtain ⟨b1, o1, rfl, c1⟩ := hat r hrl
      have d1 := (hb.cell (p := ⟨b1, o1 + r, none⟩) (World.block_lt_of_cell? w _ c1)).trans c1
      have HM : Hid (run l r = false → Seen l 0 (k + 1 - 1)) := Lib.hid (fun h => by
        rw [show k + 1 - 1 = (k - 1) + 1 by omega]
        exact HS.out.more hr h)
      have HH : Hid (run l r = true → nextF l last = some r) := Lib.hid (fun h => next_hit HST.out (k := k - 1) (by omega) HS.out hr h)
      generalize run l r = q at d1 HM HH
      clear c1 HS hr
      cases q
      · have HM1 := Lib.hid (HM.out rfl)
        clear HM HH
        go_wp2
        go_roundw
        case rel => exact ⟨k + 1, by omega, by omega, by go_num, HM1, hb⟩
        case measure => simp [intOf]; omega
      · have HH1 := Lib.hid (HH.out rfl)
        clear HM HH
        go_wp2
        go_ret2
        exact ⟨ret_pairv hri HH1.out, hb⟩
    · have hke : k = l.length + 1 := by omega
      have HN : Hid (nextF l last = none) := Lib.hid (next_none HST.out (by have := HS.out; rwa [show k - 1 = l.length by omega] at this))
      have hkl : (l.length : Int) < (k : Int) := by omega
      clear HS hke
      go_wp2
      go_ret2
      exact ⟨(ret_pair HN.out).symm, hb⟩
set_option maxHeartbeats 4000000 in
set_option maxRecDepth 100000 in
theorem rNextB (u : Value) (l : List Bool) (last : Int) (hl0 : 0 ≤ last) (hl : (l.length : Int) ≤ last) (hlen : l.length ≤ 1099511627776) (w : World) (hs : ShowB w u l) :
    Calls Try.prog 12 #[u, .int .i64 last] w fun e w' => e = .returned (pairOf (nextF l last)) ∧ Below w.heap.size w w' := by
  obtain ⟨ao, cap, rfl, hcap, hat⟩ := hs.form
  clear hs
  have HST : Hid (startN l.length last = 0) := Lib.hid (by unfold startN; rw [if_neg (by omega)])
  go_enter Try.func12, Try.ntmps12
  go_wp2
  go_loopw [7] (fun x wr => ∃ k : Nat, 1 ≤ k ∧ k ≤ l.length + 1 ∧ x = .int .i64 k ∧ Hid (Seen l 0 (k - 1)) ∧ Below w.heap.size w wr) (fun x _ => l.length + 1 - (intOf x).toNat)
  case atStart => exact ⟨1, by omega, by omega, rfl, Lib.hid (Seen.zero l 0), Below.refl _ _⟩
  case round =>
    obtain ⟨k, hk1, hk, rfl, HS, hb⟩ := hrel
    by_cases hlt : k ≤ l.length
    · obtain ⟨r, hr⟩ : ∃ r : Nat, (0 + (k - 1)) % l.length = r := ⟨_, rfl⟩
      have hrl : r < l.length := by rw [← hr]; exact Nat.mod_lt _ (by omega)
      have hri : (((l.length : Int) - 1) + (k : Int)) % (l.length : Int) = (r : Int) := by
        rw [← hr]
        have e : ((l.length : Int) - 1 + (k : Int)) = ((0 + (k - 1) : Nat) : Int) + (l.length : Int) := by omega
        rw [e, Int.add_emod_right]
        simp
      obtain ⟨b1, o1, rfl, c1⟩ := hat r hrl
      have d1 := (hb.cell (p := ⟨b1, o1 + r, none⟩) (World.block_lt_of_cell? w _ c1)).trans c1
      have HM : Hid (run l r = false → Seen l 0 (k + 1 - 1)) := Lib.hid (fun h => by
        rw [show k + 1 - 1 = (k - 1) + 1 by omega]
        exact HS.out.more hr h)
      have HH : Hid (run l r = true → nextF l last = some r) := Lib.hid (fun h => next_hit HST.out (k := k - 1) (by omega) HS.out hr h)
      generalize run l r = q at d1 HM HH
      clear c1 HS hr
      cases q
      · have HM1 := Lib.hid (HM.out rfl)
        clear HM HH
        go_wp2
        go_roundw
        case rel => exact ⟨k + 1, by omega, by omega, by go_num, HM1, hb⟩
        case measure => simp [intOf]; omega
      · have HH1 := Lib.hid (HH.out rfl)
        clear HM HH
        go_wp2
        go_ret2
        exact ⟨ret_pairv hri HH1.out, hb⟩
    · have hke : k = l.length + 1 := by omega
      have HN : Hid (nextF l last = none) := Lib.hid (next_none HST.out (by have := HS.out; rwa [show k - 1 = l.length by omega] at this))
      have hkl : (l.length : Int) < (k : Int) := by omega
      clear HS hke
      go_wp2
      go_ret2
      exact ⟨(ret_pair HN.out).symm, hb⟩
set_option maxHeartbeats 4000000 in
set_option maxRecDepth 100000 in
theorem rNextC (u : Value) (l : List Bool) (t : Nat) (hl : t < l.length) (hlen : l.length ≤ 1099511627776) (w : World) (hs : ShowB w u l) :
    Calls Try.prog 12 #[u, .int .i64 (t : Int)] w fun e w' => e = .returned (pairOf (nextF l (t : Int))) ∧ Below w.heap.size w w' := by
  obtain ⟨ao, cap, rfl, hcap, hat⟩ := hs.form
  clear hs
  have HST : Hid (startN l.length (t : Int) = t + 1) := Lib.hid (by unfold startN; rw [if_pos (by omega)]; simp)
  have hnl : ¬ l.length ≤ t := by omega
  have hnt : ¬ (t : Int) < 0 := by omega
  go_enter Try.func12, Try.ntmps12
  go_wp2
  go_loopw [7] (fun x wr => ∃ k : Nat, 1 ≤ k ∧ k ≤ l.length + 1 ∧ x = .int .i64 k ∧ Hid (Seen l (t + 1) (k - 1)) ∧ Below w.heap.size w wr) (fun x _ => l.length + 1 - (intOf x).toNat)
  case atStart => exact ⟨1, by omega, by omega, rfl, Lib.hid (Seen.zero l (t + 1)), Below.refl _ _⟩
  case round =>
    obtain ⟨k, hk1, hk, rfl, HS, hb⟩ := hrel
    by_cases hlt : k ≤ l.length
    · obtain ⟨r, hr⟩ : ∃ r : Nat, ((t + 1) + (k - 1)) % l.length = r := ⟨_, rfl⟩
      have hrl : r < l.length := by rw [← hr]; exact Nat.mod_lt _ (by omega)
      have hri : ((t : Int) + (k : Int)) % (l.length : Int) = (r : Int) := by
        rw [← hr]
        have e : ((t : Int) + (k : Int)) = ((t + 1 + (k - 1) : Nat) : Int) := by omega
        rw [e]
        rfl
      obtain ⟨b1, o1, rfl, c1⟩ := hat r hrl
      have d1 := (hb.cell (p := ⟨b1, o1 + r, none⟩) (World.block_lt_of_cell? w _ c1)).trans c1
      have HM : Hid (run l r = false → Seen l (t + 1) (k + 1 - 1)) := Lib.hid (fun h => by
        rw [show k + 1 - 1 = (k - 1) + 1 by omega]
        exact HS.out.more hr h)
      have HH : Hid (run l r = true → nextF l (t : Int) = some r) := Lib.hid (fun h => next_hit HST.out (k := k - 1) (by omega) HS.out hr h)
      generalize run l r = q at d1 HM HH
      clear c1 HS hr
      cases q
      · have HM1 := Lib.hid (HM.out rfl)
        clear HM HH
        go_wp2
        go_roundw
        case rel => exact ⟨k + 1, by omega, by omega, by go_num, HM1, hb⟩
        case measure => simp [intOf]; omega
      · have HH1 := Lib.hid (HH.out rfl)
        clear HM HH
        go_wp2
        go_ret2
        exact ⟨ret_pairv hri HH1.out, hb⟩
    · have hke : k = l.length + 1 := by omega
      have HN : Hid (nextF l (t : Int) = none) := Lib.hid (next_none HST.out (by have := HS.out; rwa [show k - 1 = l.length by omega] at this))
      have hkl : (l.length : Int) < (k : Int) := by omega
      clear HS hke
      go_wp2
      go_ret2
      exact ⟨(ret_pair HN.out).symm, hb⟩
theorem rNext (u : Value) (l : List Bool) (last : Int) (hlen : l.length ≤ 1099511627776) (w : World) (hs : ShowB w u l) :
    Calls Try.prog 12 #[u, .int .i64 last] w fun e w' => e = .returned (pairOf (nextF l last)) ∧ Below w.heap.size w w' := by
  by_cases h : last < 0
  · exact rNextA u l last h hlen w hs
  · by_cases h1 : (l.length : Int) ≤ last
    · exact rNextB u l last (by omega) h1 hlen w hs
    · obtain ⟨t, rfl⟩ : ∃ t : Nat, last = t := ⟨last.toNat, by omega⟩
      exact rNextC u l t (by omega) hlen w hs
end Go.Proofs.Ytkbehjkfeoffmaa
