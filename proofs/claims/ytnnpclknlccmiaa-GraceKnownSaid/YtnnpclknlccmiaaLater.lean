/-
  isLaterWanted, Lock, Unlock, Done, Depth, Waits, Wanted of the program.
-/
import Derived.Test.YtnnpclknlccmiaaConv
set_option linter.unusedVariables false
set_option linter.unusedSimpArgs false
namespace Go.Proofs.Ytnnpclknlccmiaa
open Go Go.RowKit

theorem key2 {w0 W : World} {p q : Addr} {u v : Value} (h : w0.cell? p = some u ∧ w0.cell? q = some v) (hb : Below w0.heap.size w0 W) : (W.cell? p = some u ∧ W.cell? q = some v) ∧ Below w0.heap.size w0 W :=
  ⟨⟨cell_keep hb h.1, cell_keep hb h.2⟩, hb⟩
section
variable {w w' : World} {B p n b : Nat} {vs : Nat → Value} {g g' : Gr}
theorem GV.own (h : GV w B p n vs g) {i : Nat} (hi : i < n) : OwnA 0 w (vs i) (g.rs i) := h.row i hi
theorem rdy_left {l : List Wt} {d : Int} (h : chkF l = 0) : (rdyR l d).length = l.length - cutN d l := by rw [(rdy_ok h).2, List.length_drop]
set_option maxHeartbeats 2000000 in
set_option maxRecDepth 100000 in
theorem cLater (h : GV w B p n vs g) (h1 : 1 ≤ n ∧ n ≤ 8) (hk : ∀ i, i < n → chkF (g.rs i) = 0) (q : Bool) (hq : g.lat n g.nd = q) :
    Calls Try.prog 43 #[.pointer (some ⟨B, 0, none⟩)] w fun e w' => e = .returned (.bool q) ∧ Below w.heap.size w w' := by
  have c0 := h.c0
  have HA := Lib.hid h
  have HK := Lib.hid hk
  have HQ := Lib.hid hq
  obtain ⟨D, hD⟩ : ∃ D, g.nd = D := ⟨_, rfl⟩
  have HD := Lib.hid hD
  clear h hk hq hD
  go_enter Try.func43, Try.ntmps43
  go_wp2
  go_loopw [13] (fun i wr => ∃ k : Nat, k ≤ n ∧ i = .int .i64 k ∧ Hid (∀ j, j < k → ¬ cutN (g.nd : Int) (g.rs j) < (g.rs j).length) ∧ Below w.heap.size w wr) (fun i _ => n - (intOf i).toNat)
  case atStart => exact ⟨0, by omega, rfl, Lib.hid (fun j hj => by omega), Below.refl _ _⟩
  case round =>
    obtain ⟨k, hkn, rfl, HL, hb⟩ := hrel
    by_cases hlt : k < n
    · have hg := HA.out.below hb
      have e1 := hg.cd hlt
      have e2 := hg.cr hlt
      have hown := hg.own hlt
      have en := hg.c1
      rw [HD.out] at en
      obtain ⟨va, vc, hv, _, _⟩ := own_shape hown
      rw [hv] at e2 hown
      obtain ⟨d, hd⟩ : ∃ d, g.dp k = d := ⟨_, rfl⟩
      rw [hd] at e1
      have hlen := chk_len (HK.out k hlt)
      have HC : Hid (chkF (g.rs k) = 0) := Lib.hid (HK.out k hlt)
      have HT : Hid (cutN (g.nd : Int) (g.rs k) < (g.rs k).length → true = q) := Lib.hid (fun e => by rw [← HQ.out]; exact (anyB_iff.2 ⟨k, hlt, by simpa using e⟩).symm)
      have HF : Hid (¬ cutN (g.nd : Int) (g.rs k) < (g.rs k).length → ∀ j, j < k + 1 → ¬ cutN (g.nd : Int) (g.rs j) < (g.rs j).length) := Lib.hid (fun e j hj => by
        by_cases ej : j = k
        · subst ej; exact e
        · exact HL.out j (by omega))
      rw [HD.out] at HT HF
      generalize g.rs k = l at *
      have hb0 : Below wr.heap.size wr (wr.alloc (.cells #[.int .i64 d, .slice va l.length vc] 75)) := below_one (Below.refl _ _) _
      have HO : Hid (OwnA 0 (wr.alloc (.cells #[.int .i64 d, .slice va l.length vc] 75)) (.slice va l.length vc) l) := Lib.hid (own_below hown hb0)
      have HX : Hid ((wr.alloc (.cells #[.int .i64 d, .slice va l.length vc] 75)).cell? ⟨wr.heap.size, 1, none⟩ = some (.slice va l.length vc) ∧ (wr.alloc (.cells #[.int .i64 d, .slice va l.length vc] 75)).cell? ⟨B, 1, none⟩ = some (.int .i64 D)) :=
        Lib.hid ⟨self_cell (heap_new _ _) 1 _ rfl, cell_keep hb0 en⟩
      have HB0 := Lib.hid (hb.trans (hb0.mono hb.size))
      clear HL hg hown hv hd hb0 hb
      go_wp2
      generalize wr.alloc (.cells #[.int .i64 d, .slice va l.length vc] 75) = w0 at *
      go_region_held3 (fun W => (W.cell? ⟨wr.heap.size, 1, none⟩ = some (.slice va l.length vc) ∧ W.cell? ⟨B, 1, none⟩ = some (.int .i64 D)) ∧ Below w0.heap.size w0 W)
        (first | exact key2 HX.out (by assumption) | exact key2 HX.out (Below.drew (Below.refl _ _)))
        (first
          | (go_at_call 40; refine (cQueueOf _ l _ (own_below HO.out (show _ ∧ Below w0.heap.size w0 _ from by assumption).2) hlen).mono ?_; rintro e w5 ⟨qa, qc, rfl, ho5, h5⟩; have hb5 : Below w0.heap.size w0 w5 := below_then (show _ ∧ Below w0.heap.size w0 _ from by assumption).2 h5)
          | (go_at_call 39; refine (cReady _ l D _ (OwnW.shows ho5)).mono ?_; rintro e w6 ⟨ia, ni, ic, ra, nr, rc, hni, hnr, rfl, _, _, h6⟩; have hb6 : Below w0.heap.size w0 w6 := below_then hb5 h6; have HN := Lib.hid hnr; clear hni hnr))
      all_goals
        have HB6 := Lib.hid (HB0.out.trans (hb6.mono HB0.out.size))
        have HNR : Hid (nr = l.length - cutN D l) := Lib.hid (by rw [HN.out]; exact rdy_left HC.out)
        have hcl := cutN_le D l
        by_cases hc : cutN D l < l.length
        · have HT2 := Lib.hid (HT.out hc)
          have hn0 : 0 < nr := by rw [HNR.out]; omega
          clear HT HF hcl hc
          go_wp2
          go_ret
          exact ⟨ret_bool HT2.out, HB6.out⟩
        · have HF2 := Lib.hid (HF.out hc)
          have hn0 : nr = 0 := by rw [HNR.out]; omega
          clear HT HF hcl hc HNR HN
          subst hn0
          go_wp2
          go_roundw
          case rel => exact ⟨k + 1, by omega, by go_num, by rw [HD.out]; exact HF2, HB6.out⟩
          case measure => simp [intOf]; omega
    · obtain rfl : k = n := by omega
      have HQ2 : Hid (false = q) := Lib.hid (by
        rw [← HQ.out]
        exact (anyB_no.2 (fun i hi => by simpa using HL.out i hi)).symm)
      go_wp2
      go_ret
      exact ⟨ret_bool HQ2.out, hb⟩
end
end Go.Proofs.Ytnnpclknlccmiaa
