/-
  MemAdds: adds in whichever order come to the same.
-/
import Derived.Test.YtkcogdojohlpcaaWorks
set_option linter.unusedVariables false
set_option linter.unusedSimpArgs false
namespace Go.Proofs.Ytkcogdojohlpcaa
open Go Go.RowKit

/-- the sum of words, modulo 2^64 -/
def ssum (l : List Int) : Int := l.sum % 18446744073709551616
theorem ssum_snoc (l : List Int) (x : Int) : IntKind.u64.wrap (ssum l + x) = ssum (l ++ [x]) := by
  show (l.sum % 18446744073709551616 + x) % 18446744073709551616 = (l ++ [x]).sum % 18446744073709551616
  rw [List.sum_append]
  simp
theorem ssum_take (l : List Int) (j : Nat) (h : j < l.length) : IntKind.u64.wrap (ssum (l.take j) + l[j]) = ssum (l.take (j + 1)) := by
  rw [ssum_snoc, List.take_succ_eq_append_getElem h]
/-- turned by k -/
def turned (l : List Int) (k : Nat) : List Int := l.drop k ++ l.take k
theorem turned_length (l : List Int) (k : Nat) (h : k ≤ l.length) : (turned l k).length = l.length := by
  simp [turned]; omega
theorem turned_sum (l : List Int) (k : Nat) : ssum (turned l k) = ssum l := by
  unfold ssum turned
  rw [List.sum_append, Int.add_comm, ← List.sum_append, List.take_append_drop]
theorem turned_at (l : List Int) (k j : Nat) (hk : k < l.length) (hj : j < l.length) : (turned l k)[j]? = l[(j + k) % l.length]? := by
  unfold turned
  by_cases h : j < l.length - k
  · rw [List.getElem?_append_left (by simpa using h), List.getElem?_drop, Nat.mod_eq_of_lt (by omega), Nat.add_comm]
  · rw [List.getElem?_append_right (by simp; omega), List.getElem?_take]
    have e : (j + k) % l.length = j - (l.length - k) := by
      rw [Nat.mod_eq_sub_mod (by omega), Nat.mod_eq_of_lt (by omega)]
      omega
    rw [e]
    simp only [List.length_drop]
    rw [if_pos (by omega)]
/-- a memory of three, of which the word at 1 is looked at -/
def Mem3 (w : World) (a b k : Nat) (x : Int) (c : Nat) : Prop := ∃ F, MemAt w a b k 3 F c ∧ F 1 = x
theorem Mem3.kept {S : Nat → Prop} {w w' : World} {a b k c : Nat} {x : Int} (h : Mem3 w a b k x c) (hk : Kept S w w') (ha : ¬ S a) (hb : ¬ S b) (hc : ¬ S k) : Mem3 w' a b k x c := by
  obtain ⟨F, h1, h2⟩ := h
  exact ⟨F, h1.kept hk ha hb hc, h2⟩
theorem add3 {w : World} {a b k c : Nat} {x y z : Int} (h : Mem3 w a b k x c) (hc : c ≤ 1000000) (hz : IntKind.u64.wrap (x + y) = z) :
    Calls Try.prog 19 #[.pointer (some ⟨a, 0, none⟩), .int .i64 1, .int .u64 y] w fun e w' => e = .returned (.tuple #[.int .u64 x, .int .i64 0]) ∧ Mem3 w' a b k z (c + 1) ∧ Kept (fun x => x = a ∨ x = b) w w' := by
  obtain ⟨F, h1, h2⟩ := h
  refine (mAdd h1 1 y (by decide) hc h2 (fun _ _ => rfl)).mono ?_
  rintro e w' ⟨he, hm, hk⟩
  exact ⟨he, ⟨_, hm, by simpa using hz⟩, hk⟩
theorem load3 {w : World} {a b k c : Nat} {x : Int} (h : Mem3 w a b k x c) (hc : c ≤ 1000000) :
    Calls Try.prog 20 #[.pointer (some ⟨a, 0, none⟩), .int .i64 1] w fun e w' => e = .returned (.tuple #[.int .u64 x, .int .i64 0]) ∧ Mem3 w' a b k x (c + 1) ∧ Kept (fun x => x = a ∨ x = b) w w' := by
  obtain ⟨F, h1, h2⟩ := h
  refine (mLoad h1 1 (by decide) hc h2).mono ?_
  rintro e w' ⟨he, hm, hk⟩
  exact ⟨he, ⟨_, hm, h2⟩, hk⟩
set_option maxHeartbeats 1000000 in
set_option maxRecDepth 100000 in
theorem walkAdds (u : Value) (l : List Int) (first : Int) (W : World) (hs : ShowU W u l) :
    Calls Try.prog 4 #[u, .int .i64 first] W fun e w' => e = .returned (.bool true) ∧ Below W.heap.size W w' := by
  obtain ⟨ao, cap, rfl, hcap, hat⟩ := hs.form
  clear hs
  by_cases hl0 : l.length = 0
  · rw [hl0]
    clear hat hcap hl0
    go_enter Try.func4, Try.ntmps4
    go_wp2_with fail
    refine (works _).mono ?_
    rintro e w1 ⟨rfl, hb1⟩
    go_wp2_with fail
    refine (works _).mono ?_
    rintro e w2 ⟨rfl, hb2⟩
    go_wp2
    go_ret
    exact ⟨rfl, below_then hb1 hb2⟩
  obtain ⟨b1, o1, rfl, _⟩ := hat 0 (by omega)
  have hl1 : 1 ≤ l.length := by omega
  obtain ⟨n, hn⟩ : ∃ n : Nat, (if (60 : Int) < (l.length : Int) then (60 : Int) else (l.length : Int)) = (n : Int) := by
    by_cases h : (60 : Int) < (l.length : Int)
    · exact ⟨60, by rw [if_pos h]; rfl⟩
    · exact ⟨l.length, by rw [if_neg h]⟩
  have hnl : n ≤ l.length := by split at hn <;> omega
  have hn60 : n ≤ 60 := by split at hn <;> omega
  have hn1 : 1 ≤ n := by split at hn <;> omega
  go_enter Try.func4, Try.ntmps4
  go_wp2_with fail
  refine (works _).mono ?_
  rintro e w1 ⟨rfl, hb1⟩
  go_wp2_with fail
  refine (cBring first n _ hn1 (by omega)).mono ?_
  rintro e w2 ⟨rfl, rfl⟩
  have hkn := bring_lt first n hn1
  obtain ⟨kb, hkb⟩ : ∃ kb, bring first n = kb := ⟨_, rfl⟩
  rw [hkb] at hkn ⊢
  clear hkb
  go_wp2_with fail
  refine (cNew 3 _ (by decide) (by decide)).mono ?_
  rintro e w3 ⟨a, b, k, rfl, hm3, hb3, ha, hb, hk⟩
  have hbw3 := below_then hb1 hb3
  go_wp2_with fail
  refine (cNew 3 _ (by decide) (by decide)).mono ?_
  rintro e w4 ⟨a', b', k', rfl, hm4, hb4, ha', hb', hk'⟩
  have hbw4 := below_then hbw3 hb4
  obtain ⟨la, lb, lk⟩ := hm3.lt
  have z1 := hb1.size
  have hA : Mem3 w4 a b k 0 0 := ⟨_, hm3.below hb4, rfl⟩
  have hB : Mem3 w4 a' b' k' 0 0 := ⟨_, hm4, rfl⟩
  have hS := ab_ge (W := W) (a := a) (b := b) (by omega) (by omega)
  have hS' := ab_ge (W := W) (a := a') (b := b') (by omega) (by omega)
  have hne : a ≠ a' ∧ a ≠ b' ∧ b ≠ a' ∧ b ≠ b' ∧ k ≠ a' ∧ k ≠ b' := by omega
  have hne' : a' ≠ a ∧ a' ≠ b ∧ b' ≠ a ∧ b' ≠ b ∧ k' ≠ a ∧ k' ≠ b := by omega
  clear hm3 hm4 hb3 hb4 la lb lk hb1 hbw3 ha hb hk ha' hb' hk' z1
  obtain ⟨L, hL⟩ : ∃ L, l.take n = L := ⟨_, rfl⟩
  have hLn : Hid (L.length = n) := Lib.hid (by rw [← hL, List.length_take]; omega)
  have hcell : ∀ i (h : i < n) (h' : i < L.length), W.cell? ⟨b1, o1 + i, none⟩ = some (.int .u64 L[i]) := by
    intro i h h'
    obtain ⟨b2, o2, e, hc⟩ := hat i (by omega)
    simp only [Option.some.injEq, Addr.mk.injEq, and_true] at e
    obtain ⟨rfl, rfl⟩ := e
    rw [hc]
    subst hL
    simp
  clear hL hat
  go_wp2
  go_loopw [10, 11] (fun x y wr => ∃ j : Nat, j ≤ n ∧ x = .int .u64 (ssum (L.take j)) ∧ y = .int .i64 j ∧ Mem3 wr a b k (ssum (L.take j)) j ∧ Mem3 wr a' b' k' (ssum ((turned L kb).take j)) j ∧ Below W.heap.size W wr) (fun x y _ => n - (intOf y).toNat)
  case atStart => exact ⟨0, by omega, rfl, rfl, hA, hB, hbw4⟩
  case round =>
    obtain ⟨j, hj, rfl, rfl, hA1, hB1, hb⟩ := hrel
    have hLl := hLn.out
    by_cases hlt : j < n
    · have hjL : j < L.length := by omega
      have c1 := hcell j hlt hjL
      have lc1 := World.block_lt_of_cell? W _ c1
      have d1 := (hb.cell (p := ⟨b1, o1 + j, none⟩) lc1).trans c1
      obtain ⟨r, hrr⟩ : ∃ r, (j + kb) % n = r := ⟨_, rfl⟩
      have hr0 : r < n := by rw [← hrr]; exact Nat.mod_lt _ hn1
      have hrL : r < L.length := by omega
      have c2 := hcell r hr0 hrL
      have lc2 := World.block_lt_of_cell? W _ c2
      have HA : Hid (IntKind.u64.wrap (ssum (L.take j) + L[j]) = ssum (L.take (j + 1))) := Lib.hid (ssum_take L j hjL)
      have HB : Hid (IntKind.u64.wrap (ssum ((turned L kb).take j) + L[r]) = ssum ((turned L kb).take (j + 1))) := Lib.hid (by
        have ht := turned_length L kb (by omega)
        have e : L[r] = (turned L kb)[j]'(by omega) := by
          have h := turned_at L kb j (by omega) hjL
          rw [List.getElem?_eq_getElem (by omega), hLl, hrr, List.getElem?_eq_getElem hrL] at h
          exact (Option.some.inj h).symm
        rw [e]
        exact ssum_take _ j (by omega))
      have hr : ((j : Int) + (kb : Int)) % (n : Int) = (r : Int) := by rw [← hrr]; simp
      clear hLl hrr
      generalize L[j] = x at c1 d1 HA
      generalize L[r] = y at c2 HB
      clear hrL hjL
      generalize ssum (L.take j) = s at hA1 HA
      generalize ssum ((turned L kb).take j) = t at hB1 HB
      go_wp2_with fail
      refine (add3 hA1 (by omega) HA.out).mono ?_
      rintro e w5 ⟨rfl, hA2, hk5⟩
      have hb5 := below_kept hb hk5 hS
      have hB2 := hB1.kept hk5 (by omega) (by omega) (by omega)
      have d2 := (hb5.cell (p := ⟨b1, o1 + r, none⟩) lc2).trans c2
      clear hA1 hB1 hk5 hb
      go_wp2_with fail
      refine (add3 hB2 (by omega) HB.out).mono ?_
      rintro e w6 ⟨rfl, hB3, hk6⟩
      have hb6 := below_kept hb5 hk6 hS'
      have hA3 := hA2.kept hk6 (by omega) (by omega) (by omega)
      have d3 := (hb6.cell (p := ⟨b1, o1 + j, none⟩) lc1).trans c1
      clear hA2 hB2 hk6 hb5 d1 d2 hr c2
      go_wp2
      go_roundw
      case rel => exact ⟨j + 1, by omega, by rw [HA.out], by go_num, hA3, hB3, hb6⟩
      case measure => simp [intOf]; omega
    · obtain rfl : j = n := by omega
      have HS : Hid (ssum ((turned L kb).take j) = ssum (L.take j)) := Lib.hid (by
        rw [List.take_of_length_le (by rw [turned_length L kb (by omega)]; omega), List.take_of_length_le (by omega), turned_sum])
      rw [HS.out] at hB1
      generalize ssum (L.take j) = s at hA1 hB1
      clear HS
      go_wp2_with fail
      refine (load3 hA1 (by omega)).mono ?_
      rintro e w5 ⟨rfl, hA2, hk5⟩
      have hb5 := below_kept hb hk5 hS
      have hB2 := hB1.kept hk5 (by omega) (by omega) (by omega)
      clear hA1 hB1 hk5 hb
      go_wp2_with fail
      refine (load3 hB2 (by omega)).mono ?_
      rintro e w6 ⟨rfl, hB3, hk6⟩
      have hb6 := below_kept hb5 hk6 hS'
      go_wp2
      go_ret
      exact ⟨rfl, hb6⟩
end Go.Proofs.Ytkcogdojohlpcaa
