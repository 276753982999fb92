/-
  The walk of TapeScripts: Script answers as the chapter says, of all bytes.
-/
import Derived.Test.YtifkkblmcdggmaaBack
import Derived.Test.YtifkkblmcdggmaaRScript
import Derived.Test.YtifkkblmcdggmaaApart
set_option linter.unusedVariables false
set_option linter.unusedSimpArgs false
namespace Go.Proofs.Ytifkkblmcdggmaa
open Go Go.RowKit

theorem wRScript {v : Value} {l : List Int} {S : Scr} (hd : dec l = S) (w : World) (h : ShowBytes w v l) (hy : Bytey l) :
    Calls Try.prog 19 #[v] w fun e w' => ∃ vs, e = .returned vs ∧ ShowScr w' vs S ∧ Below w.heap.size w w' := by
  refine (cRScript v l w h hy).mono ?_
  rintro e w' ⟨vc, vp, rfl, h1, h2, h3⟩
  rw [hd] at h1 h2 ⊢
  exact ⟨_, rfl, ⟨vc, vp, rfl, h1, h2.shows⟩, h3⟩
theorem wSameR {A B : Scr} {b : Bool} (hd : decide (A = B) = b) {u v : Value} (w : World) (hu : ShowScr w u A) (hv : ShowScr w v B) :
    Calls Try.prog 15 #[u, v] w fun e w' => e = .returned (.bool b) ∧ Below w.heap.size w w' := by
  have := cSame u v A B w hu hv
  rwa [hd] at this

theorem own_below {W W' : World} {B n size : Nat} {e : TypeId} {v : Value} {xs : List Value} (h : W.ownsRow B e size v n xs) (hb : Below W.heap.size W W') : W'.ownsRow B e size v n xs := by
  refine h.kept (grown_of_below (row := none) hb) ?_
  cases hv : v.ownBlock with
  | none => exact .inl rfl
  | some k => exact .inr (by simp)
set_option maxHeartbeats 2000000 in
set_option maxRecDepth 100000 in
theorem walkScripts (v : Value) (l : List Int) (w : World) (hv : ShowBytes w v l) (hy : Bytey l) (hl : l.length ≤ 140737488355328) :
    Calls Try.prog 4 #[v] w fun e w' => e = .returned (.bool true) ∧ Below w.heap.size w w' := by
  obtain ⟨S, hS⟩ : ∃ S, dec l = S := ⟨_, rfl⟩
  have HS := Lib.hid hS
  have hp4 : S.picks.length ≤ 4096 := by rw [← hS]; exact (okS_iff.1 (dec_ok hy)).2.2.2.1
  clear hS
  go_enter Try.func4, Try.ntmps4
  go_wp2_with fail
  refine (cCopyBytes _ _ _ hv (by omega)).mono ?_
  rintro e w1 ⟨vin, rfl, hown1, hb1⟩
  go_wp2_with fail
  refine (aScript HS.out _ hown1.shows hy).mono ?_
  rintro e w2 ⟨a1, n1, c1, a2, n2, c2, rfl, hs2, hi2, hb2⟩
  have hz1 := hb1.size
  have hz2 := hb2.size
  have hcells := self4 (heap_new w2 (.cells #[.int .i64 S.cpus, .int .i64 S.pages, .slice a1 n1 c1, .slice a2 n2 c2] 25))
  have hb12 := hb2
  have HIN := Lib.hid hown1.shows
  have hbK : Below w1.heap.size w1 (w2.alloc (.cells #[.int .i64 S.cpus, .int .i64 S.pages, .slice a1 n1 c1, .slice a2 n2 c2] 25)) := below_one hb2 _
  have HBK := Lib.hid hbK
  have HV := Lib.hid ((hv.below hb1).below hbK)
  have HV1 := Lib.hid (hv.below hb1)
  have HI3 := Lib.hid (hown1.shows.below hbK)
  have HS2 := Lib.hid (hs2.below (below_one (Below.refl _ w2) (.cells #[.int .i64 S.cpus, .int .i64 S.pages, .slice a1 n1 c1, .slice a2 n2 c2] 25)))
  have hiK := World.ownsRow.alloc hi2 (.cells #[.int .i64 S.cpus, .int .i64 S.pages, .slice a1 n1 c1, .slice a2 n2 c2] 25)
  have HK := Lib.hid (heap_new w2 (.cells #[.int .i64 S.cpus, .int .i64 S.pages, .slice a1 n1 c1, .slice a2 n2 c2] 25))
  have HI := Lib.hid hiK
  have HLT : Hid (∀ g, (Value.slice a2 n2 c2).ownBlock = some g → w1.heap.size ≤ g ∧ g < w2.heap.size) := Lib.hid (fun g hg => World.ownsRow.lt hi2 g hg)
  have HZ3 : Hid (w1.heap.size ≤ (w2.alloc (.cells #[.int .i64 S.cpus, .int .i64 S.pages, .slice a1 n1 c1, .slice a2 n2 c2] 25)).heap.size) := Lib.hid (by rw [size_alloc]; omega)
  have HN2 : Hid (n2 = S.picks.length) := Lib.hid (by obtain ⟨ao, cap, e⟩ := own_form hi2; exact (Value.slice.inj e).2.1)
  have HZ := Lib.hid (size_alloc w2 (.cells #[.int .i64 S.cpus, .int .i64 S.pages, .slice a1 n1 c1, .slice a2 n2 c2] 25))
  go_wp2
  clear hown1 hb2 hs2 hi2 hiK hbK hb12
  generalize w2.alloc (.cells #[.int .i64 S.cpus, .int .i64 S.pages, .slice a1 n1 c1, .slice a2 n2 c2] 25) = w3 at *
  go_region_held3 (fun w' => w'.cell? ⟨w2.heap.size, 0, none⟩ = some (.int .i64 S.cpus) ∧ w'.cell? ⟨w2.heap.size, 1, none⟩ = some (.int .i64 S.pages) ∧ w'.cell? ⟨w2.heap.size, 2, none⟩ = some (.slice a1 n1 c1) ∧ w'.cell? ⟨w2.heap.size, 3, none⟩ = some (.slice a2 n2 c2) ∧ Below w3.heap.size w3 w')
    (first | exact key4 hcells (by assumption) | exact key4 hcells (Below.drew (Below.refl _ _)))
    (first
      | (go_at_call 19; refine (wRScript HS.out _ (HV.out.below (show _ ∧ _ ∧ _ ∧ _ ∧ Below w3.heap.size w3 _ from by assumption).2.2.2.2) hy).mono ?_; rintro e w5 ⟨vs, rfl, h5, h6⟩; have hb5 : Below w3.heap.size w3 w5 := below_then (show _ ∧ _ ∧ _ ∧ _ ∧ Below w3.heap.size w3 _ from by assumption).2.2.2.2 h6)
      | (go_at_call 15; refine (wSameR (b := true) (decide_eq_true (rfl : S = S)) _ (HS2.out.below hb5) h5).mono ?_; rintro e w8 ⟨rfl, h8⟩; have hb8 : Below w3.heap.size w3 w8 := below_then hb5 h8)
      | (go_at_call 14; refine (wEqBytes (q := true) (decide_eq_true (rfl : l = l)) _ (HI3.out.below hb8) (HV.out.below hb8) hy hy).mono ?_; rintro e w9 ⟨rfl, rfl⟩))
  go_wp2
  go_loopw [5] (fun i wr => ∃ (k : Nat) (xs : List Int), k ≤ n2 ∧ i = .int .i64 k ∧ xs.length = n2 ∧ wr.ownsRow w1.heap.size 3 1 (.slice a2 n2 c2) n2 (ints xs) ∧ Below w1.heap.size w1 wr ∧ wr.heap[w2.heap.size]? = w3.heap[w2.heap.size]?) (fun i _ => n2 - (intOf i).toNat)
  case atStart => exact ⟨0, S.picks, by omega, rfl, HN2.out.symm, by rw [HN2.out]; exact own_below (by have := HI.out; rw [HN2.out] at this; exact this) hb8, HBK.out.trans (hb8.mono HZ3.out), hb8.block _ (by rw [HZ.out]; omega)⟩
  case round =>
    clear hb8
    obtain ⟨k, xs, hk, rfl, hxl, hown, hb, hK⟩ := hrel
    have hself := hK.trans HK.out
    obtain ⟨e0, e1, e2, e3⟩ := self4 hself
    have hn24 : n2 ≤ 4096 := by rw [HN2.out]; exact hp4
    by_cases hlt : k < n2
    · have hg2 : ∃ g, a2 = some ⟨g, 0, none⟩ := by
        rcases hown.2 with ⟨h1, h2⟩ | ⟨g, cap, cur, h1, _⟩
        · omega
        · exact ⟨g, (Value.slice.inj h1).1⟩
      obtain ⟨g, rfl⟩ := hg2
      obtain ⟨hg0, hg1⟩ := HLT.out g rfl
      have hcell := hown.cellAt k (by omega)
      have hck : (ints xs)[k]? = some (.int .i64 (xs[k]'(by omega))) := by simp [show k < xs.length by omega]
      rw [hck] at hcell
      have hfz := hown.frozenAt k
      have hst := (hown.stored k (.int .i64 (-1))).1
      have hmap : (ints xs).set k (.int .i64 (-1)) = ints (xs.set k (-1)) := by simp [ints, List.map_set]
      rw [hmap] at hst
      have HST := Lib.hid hst
      have HB := Lib.hid (hb.setCell (p := ⟨g, k, none⟩) hg0 (.int .i64 (-1)))
      have HK2 : Hid ((wr.setCell ⟨g, k, none⟩ (.int .i64 (-1))).heap[w2.heap.size]? = w3.heap[w2.heap.size]?) := Lib.hid ((Below.heap_setCell wr ⟨g, k, none⟩ (.int .i64 (-1)) w2.heap.size (by show w2.heap.size ≠ g; omega)).trans hK)
      clear hst hmap hck
      generalize xs[k] = x at hcell
      go_wp2
      go_roundw
      case rel => exact ⟨k + 1, xs.set k (-1), by omega, by go_num, by rw [List.length_set]; exact hxl, HST.out, HB.out, HK2.out⟩
      case measure => simp [intOf]; omega
    · have hke : k = n2 := by omega
      subst hke
      have hin := HIN.out.below hb
      have hvr := HV1.out.below hb
      have hbw := below_then hb1 hb
      clear hown hself hK
      go_wp2_with fail
      refine (wScript HS.out _ hin hy).mono ?_
      rintro e w5 ⟨vs, rfl, h5, hb5⟩
      go_wp2_with fail
      refine (wRScript HS.out _ (hvr.below hb5) hy).mono ?_
      rintro e w6 ⟨vt, rfl, h6, hb6⟩
      go_wp2_with fail
      refine (wSameR (b := true) (decide_eq_true (rfl : S = S)) _ (h5.below hb6) h6).mono ?_
      rintro e w7 ⟨rfl, hb7⟩
      have hbF := below_then (below_then (below_then hbw hb5) hb6) hb7
      go_wp2_with fail
      refine (works _).mono ?_
      rintro e w8 ⟨rfl, hb8⟩
      have hbG := below_then hbF hb8
      go_wp2
      go_ret
      exact ⟨rfl, hbG⟩
end Go.Proofs.Ytifkkblmcdggmaa
