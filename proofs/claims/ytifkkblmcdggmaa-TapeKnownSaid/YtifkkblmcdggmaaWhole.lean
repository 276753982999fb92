/-
  The walk of TapeWhole: Script of Bytes is the script.
-/
import Derived.Test.YtifkkblmcdggmaaWorks
set_option linter.unusedVariables false
set_option linter.unusedSimpArgs false
namespace Go.Proofs.Ytifkkblmcdggmaa
open Go Go.RowKit

theorem wScript {v : Value} {l : List Int} {S : Scr} (hd : dec l = S) (w : World) (h : ShowBytes w v l) (hy : Bytey l) :
    Calls Try.prog 18 #[v] w fun e w' => ∃ vs, e = .returned vs ∧ ShowScr w' vs S ∧ Below w.heap.size w w' := by
  refine (cScript v l w h hy).mono ?_
  rintro e w' ⟨vc, vp, rfl, h1, h2, h3⟩
  rw [hd] at h1 h2 ⊢
  exact ⟨_, rfl, ⟨vc, vp, rfl, h1, h2.shows⟩, h3⟩
theorem wSameT {A B : Scr} {b : Bool} (hd : decide (A = B) = b) {u v : Value} (w : World) (hu : ShowScr w u A) (hv : ShowScr w v B) :
    Calls Try.prog 20 #[u, v] w fun e w' => e = .returned (.bool b) ∧ Below w.heap.size w w' := by
  have := csame u v A B w hu hv
  rwa [hd] at this
/-- what a region that draws goes by: the four cells of a struct, and that all that lay lies as it lay -/
def Held (W0 : World) (K : Nat) (a b c d : Value) (w : World) : Prop := W0.cell? ⟨K, 0, none⟩ = some a ∧ W0.cell? ⟨K, 1, none⟩ = some b ∧ W0.cell? ⟨K, 2, none⟩ = some c ∧ W0.cell? ⟨K, 3, none⟩ = some d
theorem key4 {W0 w : World} {K : Nat} {a b c d : Value} (h : W0.cell? ⟨K, 0, none⟩ = some a ∧ W0.cell? ⟨K, 1, none⟩ = some b ∧ W0.cell? ⟨K, 2, none⟩ = some c ∧ W0.cell? ⟨K, 3, none⟩ = some d) (hb : Below W0.heap.size W0 w) :
    w.cell? ⟨K, 0, none⟩ = some a ∧ w.cell? ⟨K, 1, none⟩ = some b ∧ w.cell? ⟨K, 2, none⟩ = some c ∧ w.cell? ⟨K, 3, none⟩ = some d ∧ Below W0.heap.size W0 w :=
  ⟨cell_keep hb h.1, cell_keep hb h.2.1, cell_keep hb h.2.2.1, cell_keep hb h.2.2.2, hb⟩

set_option maxHeartbeats 1000000 in
set_option maxRecDepth 100000 in
theorem walkWhole (v : Value) (S : Scr) (w : World) (hv : ShowScr w v S) :
    Calls Try.prog 6 #[v] w fun e w' => e = .returned (.bool true) ∧ Below w.heap.size w w' := by
  have hvv := hv
  obtain ⟨vc, vp, rfl, hc, hp⟩ := hv
  have hbx : ∀ o, Below w.heap.size w (w.alloc o) := fun o => below_one (Below.refl _ _) o
  by_cases hok : okS S = true
  · have HD := Lib.hid (dec_enc' hok)
    have HY := Lib.hid (enc_bytey hok)
    go_enter Try.func6, Try.ntmps6
    go_wp2_with fail
    refine (cBytes _ S _ (hvv.below (hbx _)) hok).mono ?_
    rintro e w1 ⟨vb, rfl, hown, hb1⟩
    have hself := (hb1.block w.heap.size (by rw [size_alloc]; omega)).trans (heap_new _ _)
    have hcells := self4 hself
    have hshow := hown.shows
    have hv1 := hvv.below (below_then (hbx _) hb1)
    have hbw := below_then (hbx _) hb1
    have HS := Lib.hid hshow
    have HV := Lib.hid hv1
    have HW := Lib.hid hbw
    clear hown hb1 hself hshow hv1 hbw
    go_wp2
    go_region_held3 (fun w' => w'.cell? ⟨w.heap.size, 0, none⟩ = some (.int .i64 S.cpus) ∧ w'.cell? ⟨w.heap.size, 1, none⟩ = some (.int .i64 S.pages) ∧ w'.cell? ⟨w.heap.size, 2, none⟩ = some vc ∧ w'.cell? ⟨w.heap.size, 3, none⟩ = some vp ∧ Below w1.heap.size w1 w')
      (first | exact key4 hcells (by assumption) | exact key4 hcells (Below.drew (Below.refl _ _)))
      (first
        | (go_at_call 18; refine (wScript HD.out _ (HS.out.below (show _ ∧ _ ∧ _ ∧ _ ∧ Below w1.heap.size w1 _ from by assumption).2.2.2.2) HY.out).mono ?_; rintro e w6 ⟨vs, rfl, h6, h7⟩; have hb6 : Below w1.heap.size w1 w6 := below_then (show _ ∧ _ ∧ _ ∧ _ ∧ Below w1.heap.size w1 _ from by assumption).2.2.2.2 h7)
        | (go_at_call 20; refine (wSameT (b := true) (decide_eq_true (rfl : S = S)) _ h6 (HV.out.below hb6)).mono ?_; rintro e w8 ⟨rfl, h8⟩; have hb8 : Below w1.heap.size w1 w8 := below_then hb6 h8)
        | (go_at_call 16; refine (works _).mono ?_; rintro e w9 ⟨rfl, h9⟩; have hb9 : Below w1.heap.size w1 w9 := below_then hb8 h9))
    have hbF := below_then HW.out hb9
    go_wp2
    go_ret
    exact ⟨rfl, hbF⟩
  · have hno : okS S = false := by simpa using hok
    have HC := fun W h => Go.Proofs.Ytifkkblmcdggmaa.wCheck (v := .agg #[.int .i64 S.cpus, .int .i64 S.pages, vc, vp]) (S := S) (n := 2) (by rw [hno]; rfl) W h
    have HV := Lib.hid hvv
    go_enter Try.func6, Try.ntmps6
    go_wp2_with fail
    refine (cBytesNo _ S _ (hvv.below (hbx _)) hno).mono ?_
    rintro e w1 ⟨rfl, hb1⟩
    have hself := (hb1.block w.heap.size (by rw [size_alloc]; omega)).trans (heap_new _ _)
    obtain ⟨e0, e1, e2, e3⟩ := self4 hself
    have hbw := below_then (hbx _) hb1
    clear hb1 hself
    go_wp2_with fail
    refine (HC _ (HV.out.below hbw)).mono ?_
    rintro e w2 ⟨rfl, hb2⟩
    have hbw2 := below_then hbw hb2
    go_wp2_with fail
    refine (works _).mono ?_
    rintro e w3 ⟨rfl, hb3⟩
    have hbw3 := below_then hbw2 hb3
    go_wp2
    go_ret
    exact ⟨rfl, hbw3⟩
end Go.Proofs.Ytifkkblmcdggmaa
