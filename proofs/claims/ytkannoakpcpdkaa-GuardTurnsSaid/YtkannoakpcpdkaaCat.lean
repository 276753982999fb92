/-
  slices.Grow of nil; slices.Concat.
-/
import Derived.Test.YtkannoakpcpdkaaRep
import Derived.Lib.AppendZeros
set_option linter.unusedVariables false
set_option linter.unusedSimpArgs false
namespace Go.Proofs.Ytkannoakpcpdkaa
open Go Go.RowKit

set_option maxHeartbeats 2000000 in
theorem cGrow (n : Nat) (h1 : 1 ≤ n) (h2 : n ≤ 10000) (w : World) :
    Calls Try.prog 33 #[.slice none 0 0, .int .i64 n] w fun e w' => ∃ g cap, e = .returned (.slice (some ⟨g, 0, none⟩) 0 cap) ∧ OwnB w.heap.size w' (.slice (some ⟨g, 0, none⟩) 0 cap) [] ∧ Below w.heap.size w w' := by
  obtain ⟨i0, hi, hz0, hz1, hz2⟩ := info_parts infoB
  have happ := Lib.run_append_nil_zeros (P := Try.prog) w 22 3 22 5 i0 (.int .u8 0) .i64 .i64 Try.underlying22 Try.underlying3 hi hz0 n (by omega) (by omega) (by omega) (by rw [hz2]; omega)
  have hge : n ≤ grownCap w n 0 5 := grownCap_ge w _ 0 _
  have hle : grownCap w n 0 5 ≤ maxLen := grownCap_le_maxLen w _ 0 _ (by unfold maxLen; omega)
  generalize grownCap w n 0 5 = cap at happ hge hle
  obtain ⟨Z, hZ⟩ : ∃ Z, Builtin.zeroCells (Value.int .u8 0).cells n ++ Builtin.zeroCells (Value.int .u8 0).cells (cap - n) = Z := ⟨_, rfl⟩
  have hZs : Z.size = cap := by rw [← hZ]; simp [size_zeroCells, Value.cells]; omega
  rw [hZ] at happ
  have HO : Hid (OwnB w.heap.size (w.alloc (.cells Z 5)).drew (.slice (some ⟨w.heap.size, 0, none⟩) 0 cap) []) := Lib.hid ⟨rfl, .inr ⟨w.heap.size, cap, Z, rfl, Nat.le_refl _, heap_new w _, Nat.zero_le _, hle, by omega, by simp⟩⟩
  have hle2 : cap ≤ 9223372036854775807 := by unfold maxLen at hle; omega
  clear hZ hle
  go_enter Try.func33, Try.ntmps33
  go_wp2_with (at_builtin; refine Lib.wpList_append_run _ rfl _ _ _ _ rfl _ _ rfl rfl _ _ happ ?_)
  go_wp2
  go_ret
  exact ⟨_, _, rfl, HO.out, (below_one (Below.refl _ w) _).drew⟩
/-- a slice of slices of bytes -/
def ShowL (w : World) (v : Value) (L : List (List Int)) : Prop := ∃ vs : List Value, Shows w v L.length 1 vs ∧ ∀ i, (h : i < L.length) → ∃ x, vs[i]? = some x ∧ ShowB w x L[i]
def tot (L : List (List Int)) (j : Nat) : Nat := (L.take j).flatten.length
theorem tot_succ {L : List (List Int)} {j : Nat} (h : j < L.length) : tot L (j + 1) = tot L j + L[j].length := by
  unfold tot
  rw [List.take_succ_eq_append_getElem h]
  simp only [List.flatten_append, List.length_append, List.flatten_cons, List.flatten_nil, List.append_nil]
theorem tot_le {L : List (List Int)} (j : Nat) : tot L j ≤ L.flatten.length := by
  unfold tot
  have := congrArg (fun l => (List.flatten l).length) (List.take_append_drop j L)
  simp only [List.flatten_append, List.length_append] at this
  omega
theorem tot_all (L : List (List Int)) : tot L L.length = L.flatten.length := by
  unfold tot
  rw [List.take_length]
theorem ShowL.at {w : World} {v : Value} {L : List (List Int)} (h : ShowL w v L) : ∃ ao cap, v = .slice ao L.length cap ∧ (L.length ≤ cap ∧ cap ≤ 9223372036854775807) ∧
    ∀ i, (hi : i < L.length) → ∃ b o a c, ao = some ⟨b, o, none⟩ ∧ w.cell? ⟨b, o + i, none⟩ = some (.slice a L[i].length c) ∧ ShowB w (.slice a L[i].length c) L[i] := by
  obtain ⟨vs, ⟨hl, ao, cap, hv, hc, hs⟩, hall⟩ := h
  refine ⟨ao, cap, hv, by unfold maxLen at hc; omega, fun i hi => ?_⟩
  obtain ⟨b, o, ha, hx⟩ := hs (by omega)
  obtain ⟨x, h1, h2⟩ := hall i hi
  obtain ⟨a, c, rfl, _⟩ := h2.form
  refine ⟨b, o, a, c, ha, ?_, h2⟩
  rw [hx i (by omega), h1]
set_option maxHeartbeats 4000000 in
theorem cConcat (u : Value) (L : List (List Int)) (w : World) (hu : ShowL w u L) (h1 : 1 ≤ L.flatten.length) (h2 : L.flatten.length ≤ 10000) :
    Calls Try.prog 30 #[u] w fun e w' => ∃ ao cap, e = .returned (.slice ao L.flatten.length cap) ∧ OwnB w.heap.size w' (.slice ao L.flatten.length cap) L.flatten ∧ Below w.heap.size w w' := by
  obtain ⟨ao, cap, rfl, hcap, hat⟩ := hu.at
  have HAT := Lib.hid hat
  clear hat hu
  obtain ⟨T, hT⟩ : ∃ T, L.flatten.length = T := ⟨_, rfl⟩
  have HT := Lib.hid hT
  have hTA : Hid (tot L L.length = T) := Lib.hid (by rw [tot_all, hT])
  rw [hT] at h1 h2
  have hTL : Hid (∀ j, tot L j ≤ T) := Lib.hid (fun j => by rw [← hT]; exact tot_le j)
  rw [hT]
  clear hT
  go_enter Try.func30, Try.ntmps30
  go_wp2
  go_loopw [3, 5, 11] (fun s x i wr => ∃ j : Nat, j ≤ L.length ∧ i = .int .i64 j ∧ s = .int .i64 (tot L j) ∧ w = wr) (fun s x i _ => L.length - (intOf i).toNat)
  case atStart => exact ⟨0, by omega, by first | rfl | go_num, by first | rfl | go_num, rfl⟩
  case round =>
    obtain ⟨j, hj, rfl, rfl, rfl⟩ := hrel
    by_cases hlt : j < L.length
    · obtain ⟨b, o, a, c, rfl, hc, _⟩ := HAT.out j hlt
      have hs := tot_succ hlt
      have hb1 := hTL.out j
      have hb2 := hTL.out (j + 1)
      generalize L[j].length = m at hc hs
      obtain ⟨S, hS⟩ : ∃ S, tot L j = S := ⟨_, rfl⟩
      obtain ⟨S2, hS2⟩ : ∃ S2, tot L (j + 1) = S2 := ⟨_, rfl⟩
      rw [hS] at hs hb1 ⊢
      rw [hS2] at hs hb2
      have HS2 : Hid (tot L (j + 1) = S + m) := Lib.hid (by omega)
      have hbm : S + m ≤ 10000 := by omega
      clear hS hS2 hs hb2
      go_wp2
      go_roundw
      case rel => exact ⟨j + 1, by omega, by go_num, by rw [HS2.out]; go_num, by first | trivial | rfl⟩
      case measure => simp [intOf]; omega
    · obtain rfl : j = L.length := by omega
      rw [hTA.out]
      go_wp2_with fail
      refine (cGrow T h1 h2 w).mono ?_
      rintro e w' ⟨g, gc, rfl, h3, h4⟩
      have H3 := Lib.hid h3
      have H4 := Lib.hid h4
      clear h3 h4
      go_wp2
      go_loopw [6, 8, 27] (fun s x i wr => ∃ (j : Nat) (a : Option Addr) (c : Nat), j ≤ L.length ∧ i = .int .i64 j ∧ s = .slice a (tot L j) c ∧ Hid (OwnB w.heap.size wr (.slice a (tot L j) c) (L.take j).flatten) ∧ Hid (Below w.heap.size w wr)) (fun s x i _ => L.length - (intOf i).toNat)
      case atStart => exact ⟨0, _, _, by omega, by first | rfl | go_num, rfl, H3, H4⟩
      case round =>
        obtain ⟨j, a, c, hj, rfl, rfl, HO, HB⟩ := hrel
        by_cases hlt : j < L.length
        · obtain ⟨b, o, a2, c2, rfl, hc, hsh⟩ := HAT.out j hlt
          have hs := tot_succ hlt
          have hb2 := hTL.out (j + 1)
          have hc2 := cell_keep HB.out hc
          have HSH := Lib.hid (hsh.below HB.out)
          have hcat : (L.take j).flatten ++ L[j] = (L.take (j + 1)).flatten := by
            rw [List.take_succ_eq_append_getElem hlt]
            simp only [List.flatten_append, List.flatten_cons, List.flatten_nil, List.append_nil]
          have HC := Lib.hid hcat
          have hl1 : (L.take j).flatten.length = tot L j := rfl
          have HL : Hid ((L.take j).flatten.length + L[j].length ≤ 10000) := Lib.hid (by rw [hl1]; omega)
          have HL2 : Hid (((L.take j).flatten ++ L[j]).length = tot L (j + 1)) := Lib.hid (by rw [hcat]; rfl)
          generalize L[j] = lj at *
          obtain ⟨S, hS⟩ : ∃ S, tot L j = S := ⟨_, rfl⟩
          obtain ⟨S2, hS2⟩ : ∃ S2, tot L (j + 1) = S2 := ⟨_, rfl⟩
          have HS2 := Lib.hid hS2
          rw [hS] at HO
          rw [hS2] at HL2
          simp only [hS]
          clear hS hS2 hs hb2 hc hsh hcat hl1
          go_wp2_with (at_builtin; refine wpList_appendB (by rfl) _ _ (by rfl) w.heap.size _ _ _ _ S2 (by rfl) (by rfl) HO.out HSH.out HL.out HB.out.size HL2.out ?_)
          intro a3 c3 w3 h3 h4
          have H3' : Hid (OwnB w.heap.size w3 (.slice a3 (tot L (j + 1)) c3) (L.take (j + 1)).flatten) := Lib.hid (by rw [HS2.out, ← HC.out]; exact h3)
          have H4' : Hid (Below w.heap.size w w3) := Lib.hid (HB.out.trans h4)
          clear h3 h4 HO HSH
          go_wp2
          go_roundw
          case rel => exact ⟨j + 1, a3, c3, by omega, by go_num, by rw [HS2.out], H3', H4'⟩
          case measure => simp [intOf]; omega
        · obtain rfl : j = L.length := by omega
          have HO2 : Hid (OwnB w.heap.size wr (.slice a T c) L.flatten) := Lib.hid (by have := HO.out; rwa [hTA.out, List.take_length] at this)
          rw [hTA.out]
          clear HO
          go_wp2
          go_ret
          exact ⟨a, c, rfl, HO2.out, HB.out⟩
end Go.Proofs.Ytkannoakpcpdkaa
