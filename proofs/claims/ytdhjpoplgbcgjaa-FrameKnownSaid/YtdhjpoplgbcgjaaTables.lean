/-
  FrameTables: Check, Head and Free, program against document's answer.
-/
import Derived.Test.YtdhjpoplgbcgjaaWorks
set_option linter.unusedVariables false
set_option linter.unusedSimpArgs false
namespace Go.Proofs.Ytdhjpoplgbcgjaa
open Go Go.RowKit

theorem cut200 (n : Nat) : ∃ m : Nat, (if (200 : Int) < (n : Int) then (200 : Int) else (n : Int)) = (m : Int) ∧ m ≤ n ∧ m ≤ 200 := by
  by_cases h : (200 : Int) < (n : Int)
  · exact ⟨200, by rw [if_pos h]; rfl, by omega, Nat.le_refl _⟩
  · exact ⟨n, by rw [if_neg h], Nat.le_refl _, by omega⟩
theorem shows_cut {w : World} {ao : Option Addr} {cap m : Nat} {l : List Pg} (h : ShowP w (.slice ao l.length cap) l) (hm : m ≤ l.length) : ∃ L : List Pg, L.length = m ∧ ShowP w (.slice ao m cap) L :=
  ⟨l.take m, by rw [List.length_take]; omega, h.first hm⟩
set_option maxHeartbeats 4000000 in
set_option maxRecDepth 100000 in
theorem walkTables (u : Value) (l : List Pg) (page : Int) (W : World) (hs : ShowP W u l) :
    Calls Try.prog 3 #[u, .int .i64 page] W fun e W' => e = .returned (.bool true) ∧ Below W.heap.size W W' := by
  have hs0 := hs
  obtain ⟨ao, cap, rfl, hcap, hat⟩ := hs.form
  obtain ⟨m, hm, hml, hm200⟩ := cut200 l.length
  obtain ⟨L, rfl, hsL⟩ := shows_cut hs0 hml
  obtain ⟨a, c, hhd⟩ : ∃ a c, headF L page = (a, c) := ⟨_, _, rfl⟩
  obtain ⟨k, hk⟩ : ∃ k, chkF L = k := ⟨_, rfl⟩
  obtain ⟨f, hf⟩ : ∃ f, freeF L = f := ⟨_, rfl⟩
  have HH := Lib.hid hhd
  have HK := Lib.hid hk
  have HF := Lib.hid hf
  have HS := Lib.hid hsL
  clear hs hs0 hat hhd hk hf hsL
  go_enter Try.func3, Try.ntmps3
  go_wp2_with fail
  refine (cHead _ L page a c HH.out _ HS.out).mono ?_
  rintro e w1 ⟨rfl, hb⟩
  have hb1 := hb
  go_wp2_with fail
  refine (rHead _ L page a c HH.out _ (HS.out.below hb1)).mono ?_
  rintro e w2 ⟨rfl, hb⟩
  have hb2 := below_then hb1 hb
  go_wp2_with fail
  refine (cCheck _ L k HK.out _ (HS.out.below hb2)).mono ?_
  rintro e w3 ⟨rfl, hb⟩
  have hb3 := below_then hb2 hb
  go_wp2_with fail
  refine (rCheck _ L k HK.out _ (HS.out.below hb3)).mono ?_
  rintro e w4 ⟨rfl, hb⟩
  have hb4 := below_then hb3 hb
  go_wp2_with fail
  refine (cFree _ L f HF.out _ (HS.out.below hb4)).mono ?_
  rintro e w5 ⟨rfl, hb⟩
  have hb5 := below_then hb4 hb
  go_wp2_with fail
  refine (rFree _ L f HF.out _ (HS.out.below hb5)).mono ?_
  rintro e w6 ⟨rfl, hb⟩
  have hb6 := below_then hb5 hb
  go_wp2_with fail
  refine (works _).mono ?_
  rintro e w7 ⟨rfl, hb⟩
  have hb7 := below_then hb6 hb
  go_wp2
  go_ret
  exact ⟨rfl, hb7⟩
end Go.Proofs.Ytdhjpoplgbcgjaa
