/-
  The walk of TapeBack: whatever the bytes are, their script may be, and is that of its own bytes.
-/
import Derived.Test.YtifkkblmcdggmaaWhole
set_option linter.unusedVariables false
set_option linter.unusedSimpArgs false
namespace Go.Proofs.Ytifkkblmcdggmaa
open Go Go.RowKit

theorem lists_form {w : World} {v : Value} {L : List (List Cl)} (h : ShowLists w v L) : ∃ ao cap, v = .slice ao L.length cap := by
  obtain ⟨ao, cap, h, _⟩ := h.form
  exact ⟨ao, cap, h⟩
theorem ints_form {w : World} {v : Value} {L : List Int} (h : ShowInts w v L) : ∃ ao cap, v = .slice ao L.length cap := by
  obtain ⟨ao, cap, h, _⟩ := h.form
  exact ⟨ao, cap, h⟩
/-- Script, its answer with its slices written out -/
theorem aScript {v : Value} {l : List Int} {S : Scr} (hd : dec l = S) (w : World) (h : ShowBytes w v l) (hy : Bytey l) :
    Calls Try.prog 18 #[v] w fun e w' => ∃ a1 n1 c1 a2 n2 c2, e = .returned (.agg #[.int .i64 S.cpus, .int .i64 S.pages, .slice a1 n1 c1, .slice a2 n2 c2]) ∧ ShowScr w' (.agg #[.int .i64 S.cpus, .int .i64 S.pages, .slice a1 n1 c1, .slice a2 n2 c2]) S ∧ OwnInts w.heap.size w' (.slice a2 n2 c2) S.picks ∧ Below w.heap.size w w' := by
  refine (cScript v l w h hy).mono ?_
  rintro e w' ⟨vc, vp, rfl, h1, h2, h3⟩
  rw [hd] at h1 h2 ⊢
  obtain ⟨a1, c1, rfl⟩ := lists_form h1
  obtain ⟨a2, c2, rfl⟩ := own_form h2
  exact ⟨a1, _, c1, a2, _, c2, rfl, ⟨_, _, rfl, h1, h2.shows⟩, h2, h3⟩

set_option maxHeartbeats 2000000 in
set_option maxRecDepth 100000 in
theorem walkBack (v : Value) (l : List Int) (w : World) (hv : ShowBytes w v l) (hy : Bytey l) :
    Calls Try.prog 5 #[v] w fun e w' => e = .returned (.bool true) ∧ Below w.heap.size w w' := by
  have hok := dec_ok hy
  obtain ⟨S, hS⟩ : ∃ S, dec l = S := ⟨_, rfl⟩
  rw [hS] at hok
  have hlen := enc_length hok
  have hup := enc_upper hok
  have hc := (okS_iff.1 hok).1
  have HS := Lib.hid hS
  have HD := Lib.hid (dec_enc' hok)
  have HY := Lib.hid (enc_bytey hok)
  have HC : Hid (errOf (okS S) = 0) := Lib.hid (by rw [hok]; rfl)
  clear hS
  go_enter Try.func5, Try.ntmps5
  go_wp2_with fail
  refine (works _).mono ?_
  rintro e w1 ⟨rfl, hb1⟩
  go_wp2_with fail
  refine (aScript HS.out _ (hv.below hb1) hy).mono ?_
  rintro e w2 ⟨a1, n1, c1, a2, n2, c2, rfl, hs2, _, hb2⟩
  have hbw := below_then hb1 hb2
  go_wp2_with fail
  refine (cBytes _ S _ (hs2.below (below_one (Below.refl _ _) _)) hok).mono ?_
  rintro e w3 ⟨vb, rfl, hown, hb3⟩
  have hself := (hb3.block w2.heap.size (by rw [size_alloc]; omega)).trans (heap_new _ _)
  have hcells := self4 hself
  have hb23 := below_then (below_one (Below.refl _ w2) _) hb3
  have HW := Lib.hid (below_then hbw hb23)
  have HV := Lib.hid (hs2.below hb23)
  have HB := Lib.hid hown.shows
  obtain ⟨ab, capb, rfl⟩ := own_form hown
  obtain ⟨nb, hnb⟩ : ∃ nb, (enc S).length = nb := ⟨_, rfl⟩
  rw [hnb] at hlen hup HB
  simp only [hnb]
  clear hown hb3 hself hb23 hbw hb1 hb2 hnb hv hs2 hok
  go_wp2
  go_region_held3 (fun w' => w'.cell? ⟨w2.heap.size, 0, none⟩ = some (.int .i64 S.cpus) ∧ w'.cell? ⟨w2.heap.size, 1, none⟩ = some (.int .i64 S.pages) ∧ w'.cell? ⟨w2.heap.size, 2, none⟩ = some (.slice a1 n1 c1) ∧ w'.cell? ⟨w2.heap.size, 3, none⟩ = some (.slice a2 n2 c2) ∧ Below w3.heap.size w3 w')
    (first | exact key4 hcells (by assumption) | exact key4 hcells (Below.drew (Below.refl _ _)))
    (first
      | (go_at_call 12; refine (Go.Proofs.Ytifkkblmcdggmaa.wCheck HC.out _ (HV.out.below (show _ ∧ _ ∧ _ ∧ _ ∧ Below w3.heap.size w3 _ from by assumption).2.2.2.2)).mono ?_; rintro e w5 ⟨rfl, h5⟩; have hb5 : Below w3.heap.size w3 w5 := below_then (show _ ∧ _ ∧ _ ∧ _ ∧ Below w3.heap.size w3 _ from by assumption).2.2.2.2 h5)
      | (go_at_call 18; refine (wScript HD.out _ (HB.out.below hb5) HY.out).mono ?_; rintro e w6 ⟨vs, rfl, h6, h7⟩; have hb6 : Below w3.heap.size w3 w6 := below_then hb5 h7)
      | (go_at_call 20; refine (wSameT (b := true) (decide_eq_true (rfl : S = S)) _ h6 (HV.out.below hb6)).mono ?_; rintro e w8 ⟨rfl, h8⟩; have hb8 : Below w3.heap.size w3 w8 := below_then hb6 h8))
  have hbF := below_then HW.out hb8
  have hge : decide (IntKind.i64.wrap (3 + S.cpus) ≤ (nb : Int)) = true := decide_eq_true (by rw [IntWalk.i64_in _ (by omega)]; exact hlen)
  go_wp2
  go_ret
  exact ⟨ret_bool hge, hbF⟩
end Go.Proofs.Ytifkkblmcdggmaa
