/-
  The law GraceWaits, walked.
-/
import Derived.Test.YtnnpclknlccmiaaDone
set_option linter.unusedVariables false
set_option linter.unusedSimpArgs false
namespace Go.Proofs.Ytnnpclknlccmiaa
open Go Go.RowKit

theorem book_new (w : World) : KV (w.alloc (.cells #[.int .i64 0, .int .i64 0, .int .i64 0, .slice none 0 0, .slice none 0 0, .slice none 0 0] 41)) w.heap.size noV noB := by
  refine ⟨⟨_, heap_new _ _, rfl, fun i hi => ?_⟩, fun i hi => RowR.nil _, fun i j _ _ _ b e => by simp [noV, Value.ownBlock] at e, fun i _ b e => by simp [noV, Value.ownBlock] at e⟩
  have : i = 0 ∨ i = 1 ∨ i = 2 ∨ i = 3 ∨ i = 4 ∨ i = 5 := by omega
  rcases this with rfl | rfl | rfl | rfl | rfl | rfl <;> rfl
theorem GK.start {W w1 w2 : World} {B p : Nat} (hw : Below W.heap.size W w1) {va : Nat → Value} (ha : GV w2 B p 3 va noG) (hb : Below w1.heap.size w1 w2) (h1 : w1.heap.size ≤ B) (h2 : w1.heap.size ≤ p) :
    GK W (w2.alloc (.cells #[.int .i64 0, .int .i64 0, .int .i64 0, .slice none 0 0, .slice none 0 0, .slice none 0 0] 41)) B p w2.heap.size noG noB := by
  have hz := hw.size
  have hz2 := hb.size
  have hb1 : Below w2.heap.size w2 (w2.alloc (.cells #[.int .i64 0, .int .i64 0, .int .i64 0, .slice none 0 0, .slice none 0 0, .slice none 0 0] 41)) := below_one (Below.refl _ _) _
  refine ⟨⟨⟨va, ha.below hb1⟩, below_then (below_then hw hb) hb1, ?_⟩, noV, book_new w2, ?_⟩
  · rintro k (rfl | rfl) <;> omega
  · rintro b (rfl | ⟨i, _, e⟩)
    · omega
    · simp [noV, Value.ownBlock] at e
set_option maxHeartbeats 16000000 in
set_option maxRecDepth 100000 in
theorem walkWaits (u : Value) (l : List Pg) (W : World) (hs : ShowP W u l) : Calls Try.prog 4 #[u] W fun e W' => e = .returned (.bool true) ∧ Below W.heap.size W W' := by
  obtain ⟨ao, cap, rfl, hcap, hat⟩ := hs.form
  clear hs
  go_enter Try.func4, Try.ntmps4
  go_wp2_with fail
  refine (works _).mono ?_
  rintro e w0 ⟨rfl, hb0⟩
  have H0 := Lib.hid hb0
  clear hb0
  go_wp2_with fail
  refine (cNew 3 w0 (by decide)).mono ?_
  rintro e w1 ⟨B, p, rfl, ha, hb, h1, h2⟩
  have H1 := Lib.hid (GK.start H0.out ha hb h1 h2)
  clear ha hb h1 h2 H0
  go_wp2
  generalize w1.alloc (.cells #[.int .i64 0, .int .i64 0, .int .i64 0, .slice none 0 0, .slice none 0 0, .slice none 0 0] 41) = w2 at *
  generalize w1.heap.size = K at *
  go_loopw [6] (fun i wr => ∃ k : Nat, k ≤ l.length ∧ k ≤ 300 ∧ i = .int .i64 k ∧ Hid (∃ g bk, GK W wr B p K g bk ∧ BI g bk ∧ GI 3 k g)) (fun i _ => l.length - (intOf i).toNat)
  case atStart => exact ⟨0, by omega, by omega, rfl, Lib.hid ⟨_, _, H1.out, BI.new, GI.new (by decide)⟩⟩
  case round =>
    clear H1
    obtain ⟨k, hk, hk300, rfl, HS⟩ := hrel
    obtain ⟨g, bk, hgk, hbi, hgi⟩ := HS.out
    have HG := Lib.hid hgk
    have HB := Lib.hid hbi
    have HI := Lib.hid hgi
    clear hgk hbi hgi HS
    by_cases hlt : k < l.length
    · by_cases hlt2 : k < 300
      · obtain ⟨b1, o1, rfl, c0, c1, c2⟩ := hat k hlt
        have d0 := cell_keep HG.out.ma.low c0
        have d1 := cell_keep HG.out.ma.low c1
        have d2 := cell_keep HG.out.ma.low c2
        clear c0 c1 c2
        generalize pg l k = c at d0 d1 d2
        go_wp2_with fail
        refine (cDone2 HG.out HB.out HI.out (by omega) c).mono ?_
        rintro e w3 ⟨rfl, g3, k3, h3, h4, h5⟩
        have H3 := Lib.hid (And.intro h3 (And.intro h4 h5))
        clear h3 h4 h5 d0 d1 d2 HG HI HB
        go_wp2
        go_loopw [7] (fun y wx => ∃ c : Nat, c ≤ 3 ∧ y = .int .i64 c ∧ Hid (GK W wx B p K g3 k3)) (fun y _ => 3 - (intOf y).toNat)
        case atStart => exact ⟨0, by omega, rfl, Lib.hid H3.out.1⟩
        case round =>
          obtain ⟨c, hc, rfl, HX⟩ := hrel
          by_cases hc3 : c < 3
          · obtain ⟨va, hva⟩ := HX.out.gv
            have HV := Lib.hid hva
            obtain ⟨vb, hvb, _⟩ := HX.out.bk
            have cc := hvb.cc hc3
            obtain ⟨a, cp, hv, _, _⟩ := (hvb.row c hc3).shape
            rw [hv] at cc
            have HW : Hid (waiF 3 g3 c = ((k3.cs c).length : Int)) := Lib.hid (by rw [wai_yes _ hc3, H3.out.2.1.len hc3])
            generalize (k3.cs c).length = M at cc HW
            have hMM : ((M : Int) != M) = false := by simp
            have hcd : (c : Int) < 3 := by omega
            clear hva hvb hv
            go_wp2
            go_quiet ((go_at_call 12; exact Calls.quiet_of_same (cWaits (HV.out.drewN _) (by decide) M HW.out)))
            go_wp2
            go_roundw
            case rel => exact ⟨c + 1, by omega, by go_num, Lib.hid (HX.out.below (below_drewN (Below.refl _ _) _))⟩
            case measure => simp [intOf]; omega
          · obtain rfl : c = 3 := by omega
            go_wp2
            go_roundw
            case rel => exact ⟨k + 1, by omega, by omega, by go_num, Lib.hid ⟨_, _, HX.out, H3.out.2.1, H3.out.2.2⟩⟩
            case measure => simp [intOf]; omega
      · obtain rfl : k = 300 := by omega
        rw [show ((300 : Nat) : Int) = 300 from rfl]
        go_wp2
        go_ret
        exact ⟨rfl, HG.out.ma.low⟩
    · obtain rfl : k = l.length := by omega
      go_wp2
      go_ret
      exact ⟨rfl, HG.out.ma.low⟩
end Go.Proofs.Ytnnpclknlccmiaa
