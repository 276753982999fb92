/-
  The walk of TapeBytes: Check and Bytes answer as the chapter says, of all scripts.
-/
import Derived.Test.YtifkkblmcdggmaaScripts
import Derived.Test.YtifkkblmcdggmaaRBytes
import Derived.Test.YtifkkblmcdggmaaCopy
set_option linter.unusedVariables false
set_option linter.unusedSimpArgs false
namespace Go.Proofs.Ytifkkblmcdggmaa
open Go Go.RowKit

def encOf (S : Scr) : List Int := if okS S = true then enc S else []
theorem encOf_bytey (S : Scr) : Bytey (encOf S) := by
  unfold encOf
  split
  · exact enc_bytey (by assumption)
  · exact fun x hx => by simp at hx
theorem anyBytes {v : Value} {S : Scr} {n : Int} {l : List Int} (hn : errOf (okS S) = n) (hl : encOf S = l) (w : World) (hv : ShowScr w v S) :
    Calls Try.prog 10 #[v] w fun e w' => ∃ ab nb cb, e = .returned (.tuple #[.slice ab nb cb, .int .i64 n]) ∧ ShowBytes w' (.slice ab nb cb) l ∧ Below w.heap.size w w' := by
  subst hn hl
  unfold encOf
  by_cases hok : okS S = true
  · rw [if_pos hok, hok]
    refine (cBytes v S w hv hok).mono ?_
    rintro e w' ⟨vb, rfl, h1, h2⟩
    have hs := h1.shows
    obtain ⟨ab, cb, rfl⟩ := own_form h1
    exact ⟨ab, _, cb, rfl, hs, h2⟩
  · have hno : okS S = false := by simpa using hok
    rw [if_neg hok, hno]
    refine (cBytesNo v S w hv hno).mono ?_
    rintro e w' ⟨rfl, h2⟩
    exact ⟨none, 0, 0, rfl, show_nil w', h2⟩
theorem anyRBytes {v : Value} {S : Scr} {n : Int} {l : List Int} (hn : errOf (okS S) = n) (hl : encOf S = l) (w : World) (hv : ShowScr w v S) :
    Calls Try.prog 11 #[v] w fun e w' => ∃ ab nb cb, e = .returned (.tuple #[.slice ab nb cb, .int .i64 n]) ∧ ShowBytes w' (.slice ab nb cb) l ∧ Below w.heap.size w w' := by
  subst hn hl
  unfold encOf
  by_cases hok : okS S = true
  · rw [if_pos hok, hok]
    refine (cRBytes v S w hv hok).mono ?_
    rintro e w' ⟨vb, rfl, h1, h2⟩
    have hs := h1.shows
    obtain ⟨ab, cb, rfl⟩ := own_form h1
    exact ⟨ab, _, cb, rfl, hs, h2⟩
  · have hno : okS S = false := by simpa using hok
    rw [if_neg hok, hno]
    refine (cRBytesNo v S w hv hno).mono ?_
    rintro e w' ⟨rfl, h2⟩
    exact ⟨none, 0, 0, rfl, show_nil w', h2⟩

set_option maxHeartbeats 2000000 in
set_option maxRecDepth 100000 in
theorem walkBytes (v : Value) (S : Scr) (w : World) (hv : ShowScr w v S) (hP : S.picks.length * 8 ≤ 140737488355328) (hL : S.calls.length * 24 ≤ 140737488355328) (hC : ∀ l ∈ S.calls, l.length * 32 ≤ 140737488355328) :
    Calls Try.prog 3 #[v] w fun e w' => e = .returned (.bool true) ∧ Below w.heap.size w w' := by
  have hv0 := hv
  obtain ⟨a1, n1, c1, a2, c2, rfl, _⟩ := scr_form hv
  obtain ⟨n, hn⟩ : ∃ n, errOf (okS S) = n := ⟨_, rfl⟩
  obtain ⟨l, hl⟩ : ∃ l, encOf S = l := ⟨_, rfl⟩
  have HN := Lib.hid hn
  have HL := Lib.hid hl
  have HY : Hid (Bytey l) := Lib.hid (by rw [← hl]; exact encOf_bytey S)
  have hnn : (n == n) = true := by simp
  clear hn hl hv
  go_enter Try.func3, Try.ntmps3
  go_wp2_with fail
  refine (cCopy _ S _ (hv0.below (below_one (Below.refl _ _) _)) hP hL hC).mono ?_
  rintro e w1 ⟨b1, m1, e1, b2, m2, e2, rfl, hs1, hb1⟩
  have hbw1 := below_then (below_one (Below.refl _ w) _) hb1
  have hself1 := (hb1.block w.heap.size (by rw [size_alloc]; omega)).trans (heap_new w _)
  have hz1 := hb1.size
  rw [size_alloc] at hz1
  go_wp2_with fail
  refine (anyBytes HN.out HL.out _ (hs1.below (below_one (Below.refl _ _) _))).mono ?_
  rintro e w2 ⟨ab, nb, cb, rfl, hsa, hb2⟩
  have hb12 := below_then (below_one (Below.refl _ w1) _) hb2
  have hself1 := (hb12.block w.heap.size (by omega)).trans hself1
  have hself2 := (hb2.block w1.heap.size (by rw [size_alloc]; omega)).trans (heap_new w1 _)
  have hbw2 := below_then hbw1 hb12
  have hs2 := hs1.below hb12
  have hz2 := hb2.size
  rw [size_alloc] at hz2
  obtain ⟨q0, q1, q2, q3⟩ := self4 hself1
  go_wp2_with fail
  refine (anyRBytes HN.out HL.out _ (hv0.below hbw2)).mono ?_
  rintro e w3 ⟨at', nt, ct, rfl, hsb, hb3⟩
  have hself1 := (hb3.block w.heap.size (by omega)).trans hself1
  have hself2 := (hb3.block w1.heap.size (by omega)).trans hself2
  have hk1 := self4 hself1
  have hk2 := self4 hself2
  have HA := Lib.hid (hsa.below hb3)
  have HB := Lib.hid hsb
  have HS := Lib.hid (hs2.below hb3)
  have HV := Lib.hid (hv0.below (below_then hbw2 hb3))
  have HW := Lib.hid (below_then hbw2 hb3)
  clear hbw1 hbw2 hb12 hs1 hs2 hsa hsb hself1 hself2 q0 q1 q2 q3 hb1 hb2 hb3 hv0
  go_wp2
  go_region_held3 (fun w' => (w'.cell? ⟨w.heap.size, 0, none⟩ = some (.int .i64 S.cpus) ∧ w'.cell? ⟨w.heap.size, 1, none⟩ = some (.int .i64 S.pages) ∧ w'.cell? ⟨w.heap.size, 2, none⟩ = some (.slice a1 n1 c1) ∧ w'.cell? ⟨w.heap.size, 3, none⟩ = some (.slice a2 S.picks.length c2)) ∧ (w'.cell? ⟨w1.heap.size, 0, none⟩ = some (.int .i64 S.cpus) ∧ w'.cell? ⟨w1.heap.size, 1, none⟩ = some (.int .i64 S.pages) ∧ w'.cell? ⟨w1.heap.size, 2, none⟩ = some (.slice b1 m1 e1) ∧ w'.cell? ⟨w1.heap.size, 3, none⟩ = some (.slice b2 m2 e2)) ∧ Below w3.heap.size w3 w')
    (first | exact key8 hk1 hk2 (by assumption) | exact key8 hk1 hk2 (Below.drew (Below.refl _ _)))
    (first
      | (go_at_call 12; refine (Go.Proofs.Ytifkkblmcdggmaa.wCheck HN.out _ (HS.out.below (show _ ∧ _ ∧ Below w3.heap.size w3 _ from by assumption).2.2)).mono ?_; rintro e w5 ⟨rfl, h5⟩; have hb5 : Below w3.heap.size w3 w5 := below_then (show _ ∧ _ ∧ Below w3.heap.size w3 _ from by assumption).2.2 h5)
      | (go_at_call 13; refine (wRCheck HN.out _ (HV.out.below (show _ ∧ _ ∧ Below w3.heap.size w3 _ from by assumption).2.2)).mono ?_; rintro e w6 ⟨rfl, h6⟩; have hb6 : Below w3.heap.size w3 w6 := below_then (show _ ∧ _ ∧ Below w3.heap.size w3 _ from by assumption).2.2 h6)
      | (go_at_call 14; refine (wEqBytes (q := true) (decide_eq_true (rfl : l = l)) _ (HA.out.below (show _ ∧ _ ∧ Below w3.heap.size w3 _ from by assumption).2.2) (HB.out.below (show _ ∧ _ ∧ Below w3.heap.size w3 _ from by assumption).2.2) HY.out HY.out).mono ?_; rintro e w7 ⟨rfl, rfl⟩)
      | (go_at_call 15; refine (wSameR (b := true) (decide_eq_true (rfl : S = S)) _ (HS.out.below (show _ ∧ _ ∧ Below w3.heap.size w3 _ from by assumption).2.2) (HV.out.below (show _ ∧ _ ∧ Below w3.heap.size w3 _ from by assumption).2.2)).mono ?_; rintro e w8 ⟨rfl, h8⟩; have hb8 : Below w3.heap.size w3 w8 := below_then (show _ ∧ _ ∧ Below w3.heap.size w3 _ from by assumption).2.2 h8)
      | (go_at_call 16; refine (works _).mono ?_; rintro e w9 ⟨rfl, h9⟩; have hb9 : Below w3.heap.size w3 w9 := below_then hb8 h9))
  have hbF := below_then HW.out hb9
  go_wp2
  go_ret
  exact ⟨rfl, hbF⟩
end Go.Proofs.Ytifkkblmcdggmaa
