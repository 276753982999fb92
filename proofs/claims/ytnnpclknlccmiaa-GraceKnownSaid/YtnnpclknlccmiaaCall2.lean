/-
  New and Call of the program.
-/
import Derived.Test.YtnnpclknlccmiaaCall
import Derived.Laws.MakeOwn
set_option linter.unusedVariables false
set_option linter.unusedSimpArgs false
namespace Go.Proofs.Ytnnpclknlccmiaa
open Go Go.RowKit

theorem infoP : (Try.prog.info? 75).map (fun i => (i.zero, i.size, i.bytes)) = some (some (.agg #[.int .i64 0, .slice none 0 0]), 2, 32) := by kernel_rfl
def noV : Nat → Value := fun _ => .slice none 0 0
theorem makeProc (n : Nat) (hn : n ≤ 10000) : ∃ O : Obj, (∀ w : World, (Instr.makeSlice 53 (.int .i64 (n : Int)) (.int .i64 (n : Int))).run Try.prog w = .ok (.slice (some ⟨w.heap.size, 0, none⟩) n n) (w.alloc O)) ∧ ∀ w : World, (w.alloc O).rowIs w.heap.size 75 (2 * n) (tabV noV noG) := by
  obtain ⟨i0, hi, hz0, hz1, hz2⟩ := info_parts infoP
  refine ⟨.cells (madeCells (Value.agg #[.int .i64 0, .slice none 0 0]).cells (n * 2)) 75, fun w => ?_, fun w => ⟨_, heap_new w _, by simp [madeCells]; omega, fun i hi => ?_⟩⟩
  · have h := run_make (P := Try.prog) w 53 75 i0 _ Try.underlying53 hi hz0 .i64 .i64 (n : Int) (n : Int) (by omega) (Int.le_refl _) (by rw [hz2]; omega) (by omega)
    rw [hz1] at h
    simpa using h
  · have hsz : (Value.agg #[.int .i64 0, .slice none 0 0]).cells.size = 2 := rfl
    have hi2 : i < n * 2 := by omega
    simp only [madeCells, Array.getElem?_map, Array.getElem?_range, hi2, if_true, Option.map_some, hsz]
    unfold tabV
    rcases (by omega : i % 2 = 0 ∨ i % 2 = 1) with h | h <;> rw [h] <;> rfl
def NewOk (w : World) (n : Nat) (e : Ending) (w' : World) : Prop := ∃ B p, e = .returned (.tuple #[.pointer (some ⟨B, 0, none⟩), .int .i64 0]) ∧ GV w' B p n noV noG ∧ Below w.heap.size w w' ∧ w.heap.size ≤ B ∧ w.heap.size ≤ p
theorem gv_new (w : World) (n : Nat) (O : Obj) (hr : (w.alloc O).rowIs w.heap.size 75 (2 * n) (tabV noV noG)) :
    GV ((w.alloc O).alloc (.cells #[.slice (some ⟨w.heap.size, 0, none⟩) n n, .int .i64 0, .bool false, .bool false, .bool false, .bool false, .bool false, .bool false, .bool false, .bool false] 56)) (w.heap.size + 1) w.heap.size n noV noG := by
  refine ⟨⟨_, heap_new2 _ _ _, rfl, fun i hi => ?_⟩, hr.alloc _, fun i hi => OwnA.nil _ _⟩
  have : i = 0 ∨ i = 1 ∨ i = 2 ∨ i = 3 ∨ i = 4 ∨ i = 5 ∨ i = 6 ∨ i = 7 ∨ i = 8 ∨ i = 9 := by omega
  rcases this with rfl | rfl | rfl | rfl | rfl | rfl | rfl | rfl | rfl | rfl <;> rfl
set_option maxHeartbeats 2000000 in
set_option maxRecDepth 100000 in
theorem cNew (n : Nat) (w : World) (h1 : 1 ≤ n ∧ n ≤ 8) : Calls Try.prog 6 #[.int .i64 n] w (NewOk w n) := by
  obtain ⟨O, hO, hr⟩ := makeProc n (by omega)
  have HR := Lib.hid (gv_new w n O (hr w))
  clear hr
  go_enter Try.func6, Try.ntmps6
  go_wp2
  go_ret2
  exact ⟨_, _, rfl, HR.out, below_one (below_one (Below.refl _ _) _) _, Nat.le_succ _, Nat.le_refl _⟩
set_option maxHeartbeats 2000000 in
set_option maxRecDepth 100000 in
theorem cNewBad (x : Int) (w : World) (h : ¬ (1 ≤ x ∧ x ≤ 8)) : Calls Try.prog 6 #[.int .i64 x] w fun e w' => e = .returned (.tuple #[.pointer none, .int .i64 2]) ∧ w' = w := by
  by_cases h1 : x < 1
  · go_enter Try.func6, Try.ntmps6
    go_wp2
    go_ret2
    exact ⟨rfl, rfl⟩
  · have h2 : 8 < x := by omega
    go_enter Try.func6, Try.ntmps6
    go_wp2
    go_ret2
    exact ⟨rfl, rfl⟩
theorem chk_one (id A : Int) (hA : 1 ≤ A ∧ A ≤ 9007199254740991) : chkF [⟨id, A⟩] = if 0 ≤ id ∧ id ≤ 9007199254740991 then 0 else 2 := by
  split
  · rename_i h
    exact chk_ok (by simp) (goB_iff.2 ⟨⟨h.1, h.2, hA.1, hA.2⟩, rfl⟩)
  · rename_i h
    refine chk_arg (by simp) (goB_no _ (fun f => h ⟨f.1, f.2.1⟩))
section
variable {w w' : World} {B p n b : Nat} {vs : Nat → Value} {g g' : Gr} {cpu id er : Int} {l : List Int}
set_option maxHeartbeats 4000000 in
set_option maxRecDepth 100000 in
theorem cCallArgF (h : GV w B p n vs g) (hI : GI n b g) (hb : b ≤ 1000) {c : Nat} (hc : c < n) (hi : ¬ (0 ≤ id ∧ id ≤ 9007199254740991)) (hq : anyB g.aw n = false) :
    Calls Try.prog 18 #[.pointer (some ⟨B, 0, none⟩), .int .i64 c, .int .i64 id] w (G1 w B p n g 2) := by
    have HA := Lib.hid h
    have h1 := hI.n1
    have HO : Hid (∀ i, n ≤ i → g.aw i = false) := Lib.hid hI.off
    have HQ := Lib.hid hq
    have e2 := h.c1
    have hbig := hI.big
    obtain ⟨D, hD⟩ : ∃ D, g.nd = D := ⟨_, rfl⟩
    rw [hD] at e2 hbig
    have hD1 : D ≤ 1000 := by omega
    clear h hI hq hbig hD
    have hD0 : (1 : Int) ≤ (D : Int) + 1 ∧ (D : Int) + 1 ≤ 9007199254740991 := by omega
    have HCK : Hid (chkF [⟨id, (D : Int) + 1⟩] = 2) := Lib.hid (by rw [chk_one id _ hD0]; first | exact if_pos hi | exact if_neg hi)
    have hx0 : (w.alloc (.cells #[.int .i64 id, .int .i64 ((D : Int) + 1)] 82)).heap[w.heap.size]? = some (.cells #[.int .i64 id, .int .i64 ((D : Int) + 1)] 82) := heap_new _ _
    have hb0 : Below w.heap.size w (w.alloc (.cells #[.int .i64 id, .int .i64 ((D : Int) + 1)] 82)) := below_one (Below.refl _ _) _
    have HX : Hid ((w.alloc (.cells #[.int .i64 id, .int .i64 ((D : Int) + 1)] 82)).heap[w.heap.size]? = some (.cells #[.int .i64 id, .int .i64 ((D : Int) + 1)] 82) ∧ Below w.heap.size w (w.alloc (.cells #[.int .i64 id, .int .i64 ((D : Int) + 1)] 82))) := Lib.hid ⟨hx0, hb0⟩
    have HG := Lib.hid (HA.out.below hb0)
    clear hb0 hD0
    go_enter Try.func18, Try.ntmps18
    go_wp2_with fail
    refine (cAt HA.out h1 hc).mono ?_
    rintro e w1 ⟨rfl, rfl⟩
    go_wp2_with fail
    refine (cGoing HG.out h1 HO.out false HQ.out).mono ?_
    rintro e w2 ⟨rfl, rfl⟩
    go_wp2_with fail
    refine (cCheck _ [⟨id, (D : Int) + 1⟩] 2 HCK.out _ (lit_one' _ id ((D : Int) + 1) _ (by simp))).mono ?_
    rintro e w3 ⟨rfl, hb3⟩
    have HB3 : Hid (Below w1.heap.size w1 w3) := Lib.hid ((below_one HX.out.2 _).trans (hb3.mono (below_one HX.out.2 _).size))
    have hx3 := keep_block (keep_block HX.out.1 (below_one (Below.refl _ _) _)) hb3
    clear hb3 hx0
    clear hx3
    go_wp2
    go_ret
    exact ⟨_, rfl, HA.out.below HB3.out, Kept.ofBelow HB3.out⟩
set_option maxHeartbeats 4000000 in
set_option maxRecDepth 100000 in
theorem cCallArgT (h : GV w B p n vs g) (hI : GI n b g) (hb : b ≤ 1000) {c : Nat} (hc : c < n) (hi : ¬ (0 ≤ id ∧ id ≤ 9007199254740991)) (hq : anyB g.aw n = true) :
    Calls Try.prog 18 #[.pointer (some ⟨B, 0, none⟩), .int .i64 c, .int .i64 id] w (G1 w B p n g 2) := by
    have HA := Lib.hid h
    have h1 := hI.n1
    have HO : Hid (∀ i, n ≤ i → g.aw i = false) := Lib.hid hI.off
    have HQ := Lib.hid hq
    have e2 := h.c1
    have hbig := hI.big
    obtain ⟨D, hD⟩ : ∃ D, g.nd = D := ⟨_, rfl⟩
    rw [hD] at e2 hbig
    have hD1 : D ≤ 1000 := by omega
    clear h hI hq hbig hD
    have hD0 : (1 : Int) ≤ (D : Int) + 1 + 1 ∧ (D : Int) + 1 + 1 ≤ 9007199254740991 := by omega
    have HCK : Hid (chkF [⟨id, (D : Int) + 1 + 1⟩] = 2) := Lib.hid (by rw [chk_one id _ hD0]; first | exact if_pos hi | exact if_neg hi)
    have hx0 : (w.alloc (.cells #[.int .i64 id, .int .i64 ((D : Int) + 1)] 82)).heap[w.heap.size]? = some (.cells #[.int .i64 id, .int .i64 ((D : Int) + 1)] 82) := heap_new _ _
    have hb0 : Below w.heap.size w (w.alloc (.cells #[.int .i64 id, .int .i64 ((D : Int) + 1)] 82)) := below_one (Below.refl _ _) _
    have HX : Hid ((w.alloc (.cells #[.int .i64 id, .int .i64 ((D : Int) + 1 + 1)] 82)).heap[w.heap.size]? = some (.cells #[.int .i64 id, .int .i64 ((D : Int) + 1 + 1)] 82) ∧ Below w.heap.size w (w.alloc (.cells #[.int .i64 id, .int .i64 ((D : Int) + 1 + 1)] 82))) := Lib.hid ⟨heap_new _ _, below_one (Below.refl _ _) _⟩
    have HG := Lib.hid (HA.out.below hb0)
    clear hb0 hD0
    go_enter Try.func18, Try.ntmps18
    go_wp2_with fail
    refine (cAt HA.out h1 hc).mono ?_
    rintro e w1 ⟨rfl, rfl⟩
    go_wp2_with fail
    refine (cGoing HG.out h1 HO.out true HQ.out).mono ?_
    rintro e w2 ⟨rfl, rfl⟩
    go_wp2_with fail
    refine (cCheck _ [⟨id, (D : Int) + 1 + 1⟩] 2 HCK.out _ (lit_one' _ id ((D : Int) + 1 + 1) _ (by simp))).mono ?_
    rintro e w3 ⟨rfl, hb3⟩
    have HB3 : Hid (Below w1.heap.size w1 w3) := Lib.hid ((below_one HX.out.2 _).trans (hb3.mono (below_one HX.out.2 _).size))
    have hx3 := keep_block (keep_block HX.out.1 (below_one (Below.refl _ _) _)) hb3
    clear hb3 hx0
    clear hx3
    go_wp2
    go_ret
    exact ⟨_, rfl, HA.out.below HB3.out, Kept.ofBelow HB3.out⟩
set_option maxHeartbeats 4000000 in
set_option maxRecDepth 100000 in
theorem cCallFullF (h : GV w B p n vs g) (hI : GI n b g) (hb : b ≤ 1000) {c : Nat} (hc : c < n) (hi : 0 ≤ id ∧ id ≤ 9007199254740991) (hl : (g.rs c).length = 256) (hq : anyB g.aw n = false) :
    Calls Try.prog 18 #[.pointer (some ⟨B, 0, none⟩), .int .i64 c, .int .i64 id] w (G1 w B p n g 5) := by
    have HA := Lib.hid h
    have h1 := hI.n1
    have HO : Hid (∀ i, n ≤ i → g.aw i = false) := Lib.hid hI.off
    have HQ := Lib.hid hq
    have e2 := h.c1
    have hbig := hI.big
    have e1 := h.cr hc
    have hown := h.own hc
    obtain ⟨va, vc, hv, _, _⟩ := own_shape hown
    rw [hv] at e1 hown
    have hlen := hI.len hc
    have HADD : Hid (addF (g.rs c) ⟨id, (g.nd : Int) + 1⟩ = 5 ∧ addL (g.rs c) ⟨id, (g.nd : Int) + 1⟩ = []) := Lib.hid (by
      have h5 := snoc_five (x := ⟨id, (g.nd : Int) + 1⟩) (hI.chk c hc) hl
      have := add_no (x := ⟨id, (g.nd : Int) + 1⟩) (hI.chk c hc) (by rw [h5]; decide)
      rw [h5] at this; exact this)
    obtain ⟨D, hD⟩ : ∃ D, g.nd = D := ⟨_, rfl⟩
    rw [hD] at e2 hbig HADD
    have hD1 : D ≤ 1000 := by omega
    obtain ⟨r, hrr⟩ : ∃ r, g.rs c = r := ⟨_, rfl⟩
    rw [hrr] at HADD hown hlen e1
    have HOWN := Lib.hid hown
    clear hl hv hown hrr
    clear h hI hq hbig hD
    have hD0 : (1 : Int) ≤ (D : Int) + 1 ∧ (D : Int) + 1 ≤ 9007199254740991 := by omega
    have HCK : Hid (chkF [⟨id, (D : Int) + 1⟩] = 0) := Lib.hid (by rw [chk_one id _ hD0]; first | exact if_pos hi | exact if_neg hi)
    have hx0 : (w.alloc (.cells #[.int .i64 id, .int .i64 ((D : Int) + 1)] 82)).heap[w.heap.size]? = some (.cells #[.int .i64 id, .int .i64 ((D : Int) + 1)] 82) := heap_new _ _
    have hb0 : Below w.heap.size w (w.alloc (.cells #[.int .i64 id, .int .i64 ((D : Int) + 1)] 82)) := below_one (Below.refl _ _) _
    have HX : Hid ((w.alloc (.cells #[.int .i64 id, .int .i64 ((D : Int) + 1)] 82)).heap[w.heap.size]? = some (.cells #[.int .i64 id, .int .i64 ((D : Int) + 1)] 82) ∧ Below w.heap.size w (w.alloc (.cells #[.int .i64 id, .int .i64 ((D : Int) + 1)] 82))) := Lib.hid ⟨hx0, hb0⟩
    have HG := Lib.hid (HA.out.below hb0)
    clear hb0 hD0
    go_enter Try.func18, Try.ntmps18
    go_wp2_with fail
    refine (cAt HA.out h1 hc).mono ?_
    rintro e w1 ⟨rfl, rfl⟩
    go_wp2_with fail
    refine (cGoing HG.out h1 HO.out false HQ.out).mono ?_
    rintro e w2 ⟨rfl, rfl⟩
    go_wp2_with fail
    refine (cCheck _ [⟨id, (D : Int) + 1⟩] 0 HCK.out _ (lit_one' _ id ((D : Int) + 1) _ (by simp))).mono ?_
    rintro e w3 ⟨rfl, hb3⟩
    have HB3 : Hid (Below w1.heap.size w1 w3) := Lib.hid ((below_one HX.out.2 _).trans (hb3.mono (below_one HX.out.2 _).size))
    have hx3 := keep_block (keep_block HX.out.1 (below_one (Below.refl _ _) _)) hb3
    clear hb3 hx0
    have HAD : Hid (addF r ⟨id, (D : Int) + 1⟩ = 5 ∧ addL r ⟨id, (D : Int) + 1⟩ = []) := Lib.hid HADD.out
    obtain ⟨x0, x1⟩ := self2 hx3
    have er := cell_keep HB3.out e1
    have HOW := Lib.hid (own_below HOWN.out HB3.out)
    have HK := Lib.hid (And.intro er (And.intro x0 x1))
    have hz1 := lt_of_block hx3
    clear hx3
    go_wp2
    go_region_held3 (fun W => (W.cell? ⟨p, c * 2 + 1, none⟩ = some (.slice va r.length vc) ∧ W.cell? ⟨w1.heap.size, 0, none⟩ = some (.int .i64 id) ∧ W.cell? ⟨w1.heap.size, 1, none⟩ = some (.int .i64 ((D : Int) + 1))) ∧ Below w3.heap.size w3 W)
      (first | exact key3 HK.out (by assumption) | exact key3 HK.out (Below.drew (Below.refl _ _)))
      (first
        | (go_at_call 40; refine (cQueueOf _ r _ (own_below HOW.out (show _ ∧ Below w3.heap.size w3 _ from by assumption).2) hlen).mono ?_; rintro e w5 ⟨qa, qc, rfl, ho5, h5⟩; have hb5 : Below w3.heap.size w3 w5 := below_then (show _ ∧ Below w3.heap.size w3 _ from by assumption).2 h5)
        | (go_at_call 46; refine (cAdd _ r id ((D : Int) + 1) _ (OwnW.shows (OwnW.below ho5 (by first | exact Below.refl _ _ | exact (Below.refl _ _).drew)))).mono ?_; rintro e w6 ⟨la, ln, lc, hln, rfl, how, h6⟩; have hb6 : Below w3.heap.size w3 w6 := below_then hb5 h6; have HN := Lib.hid hln; clear hln))
    all_goals
      have HB6 := Lib.hid (HB3.out.trans (hb6.mono HB3.out.size))
      have HR := Lib.hid how
      clear how ho5 hb5 hb6 h5 h6 x0 x1 er
      rw [HAD.out.1]
      go_wp2
      go_ret
      exact ⟨_, rfl, HA.out.below HB6.out, Kept.ofBelow HB6.out⟩
set_option maxHeartbeats 4000000 in
set_option maxRecDepth 100000 in
theorem cCallFullT (h : GV w B p n vs g) (hI : GI n b g) (hb : b ≤ 1000) {c : Nat} (hc : c < n) (hi : 0 ≤ id ∧ id ≤ 9007199254740991) (hl : (g.rs c).length = 256) (hq : anyB g.aw n = true) :
    Calls Try.prog 18 #[.pointer (some ⟨B, 0, none⟩), .int .i64 c, .int .i64 id] w (G1 w B p n g 5) := by
    have HA := Lib.hid h
    have h1 := hI.n1
    have HO : Hid (∀ i, n ≤ i → g.aw i = false) := Lib.hid hI.off
    have HQ := Lib.hid hq
    have e2 := h.c1
    have hbig := hI.big
    have e1 := h.cr hc
    have hown := h.own hc
    obtain ⟨va, vc, hv, _, _⟩ := own_shape hown
    rw [hv] at e1 hown
    have hlen := hI.len hc
    have HADD : Hid (addF (g.rs c) ⟨id, (g.nd : Int) + 1 + 1⟩ = 5 ∧ addL (g.rs c) ⟨id, (g.nd : Int) + 1 + 1⟩ = []) := Lib.hid (by
      have h5 := snoc_five (x := ⟨id, (g.nd : Int) + 1 + 1⟩) (hI.chk c hc) hl
      have := add_no (x := ⟨id, (g.nd : Int) + 1 + 1⟩) (hI.chk c hc) (by rw [h5]; decide)
      rw [h5] at this; exact this)
    obtain ⟨D, hD⟩ : ∃ D, g.nd = D := ⟨_, rfl⟩
    rw [hD] at e2 hbig HADD
    have hD1 : D ≤ 1000 := by omega
    obtain ⟨r, hrr⟩ : ∃ r, g.rs c = r := ⟨_, rfl⟩
    rw [hrr] at HADD hown hlen e1
    have HOWN := Lib.hid hown
    clear hl hv hown hrr
    clear h hI hq hbig hD
    have hD0 : (1 : Int) ≤ (D : Int) + 1 + 1 ∧ (D : Int) + 1 + 1 ≤ 9007199254740991 := by omega
    have HCK : Hid (chkF [⟨id, (D : Int) + 1 + 1⟩] = 0) := Lib.hid (by rw [chk_one id _ hD0]; first | exact if_pos hi | exact if_neg hi)
    have hx0 : (w.alloc (.cells #[.int .i64 id, .int .i64 ((D : Int) + 1)] 82)).heap[w.heap.size]? = some (.cells #[.int .i64 id, .int .i64 ((D : Int) + 1)] 82) := heap_new _ _
    have hb0 : Below w.heap.size w (w.alloc (.cells #[.int .i64 id, .int .i64 ((D : Int) + 1)] 82)) := below_one (Below.refl _ _) _
    have HX : Hid ((w.alloc (.cells #[.int .i64 id, .int .i64 ((D : Int) + 1 + 1)] 82)).heap[w.heap.size]? = some (.cells #[.int .i64 id, .int .i64 ((D : Int) + 1 + 1)] 82) ∧ Below w.heap.size w (w.alloc (.cells #[.int .i64 id, .int .i64 ((D : Int) + 1 + 1)] 82))) := Lib.hid ⟨heap_new _ _, below_one (Below.refl _ _) _⟩
    have HG := Lib.hid (HA.out.below hb0)
    clear hb0 hD0
    go_enter Try.func18, Try.ntmps18
    go_wp2_with fail
    refine (cAt HA.out h1 hc).mono ?_
    rintro e w1 ⟨rfl, rfl⟩
    go_wp2_with fail
    refine (cGoing HG.out h1 HO.out true HQ.out).mono ?_
    rintro e w2 ⟨rfl, rfl⟩
    go_wp2_with fail
    refine (cCheck _ [⟨id, (D : Int) + 1 + 1⟩] 0 HCK.out _ (lit_one' _ id ((D : Int) + 1 + 1) _ (by simp))).mono ?_
    rintro e w3 ⟨rfl, hb3⟩
    have HB3 : Hid (Below w1.heap.size w1 w3) := Lib.hid ((below_one HX.out.2 _).trans (hb3.mono (below_one HX.out.2 _).size))
    have hx3 := keep_block (keep_block HX.out.1 (below_one (Below.refl _ _) _)) hb3
    clear hb3 hx0
    have HAD : Hid (addF r ⟨id, (D : Int) + 1 + 1⟩ = 5 ∧ addL r ⟨id, (D : Int) + 1 + 1⟩ = []) := Lib.hid HADD.out
    obtain ⟨x0, x1⟩ := self2 hx3
    have er := cell_keep HB3.out e1
    have HOW := Lib.hid (own_below HOWN.out HB3.out)
    have HK := Lib.hid (And.intro er (And.intro x0 x1))
    have hz1 := lt_of_block hx3
    clear hx3
    go_wp2
    go_region_held3 (fun W => (W.cell? ⟨p, c * 2 + 1, none⟩ = some (.slice va r.length vc) ∧ W.cell? ⟨w1.heap.size, 0, none⟩ = some (.int .i64 id) ∧ W.cell? ⟨w1.heap.size, 1, none⟩ = some (.int .i64 ((D : Int) + 1 + 1))) ∧ Below w3.heap.size w3 W)
      (first | exact key3 HK.out (by assumption) | exact key3 HK.out (Below.drew (Below.refl _ _)))
      (first
        | (go_at_call 40; refine (cQueueOf _ r _ (own_below HOW.out (show _ ∧ Below w3.heap.size w3 _ from by assumption).2) hlen).mono ?_; rintro e w5 ⟨qa, qc, rfl, ho5, h5⟩; have hb5 : Below w3.heap.size w3 w5 := below_then (show _ ∧ Below w3.heap.size w3 _ from by assumption).2 h5)
        | (go_at_call 46; refine (cAdd _ r id ((D : Int) + 1 + 1) _ (OwnW.shows (OwnW.below ho5 (by first | exact Below.refl _ _ | exact (Below.refl _ _).drew)))).mono ?_; rintro e w6 ⟨la, ln, lc, hln, rfl, how, h6⟩; have hb6 : Below w3.heap.size w3 w6 := below_then hb5 h6; have HN := Lib.hid hln; clear hln))
    all_goals
      have HB6 := Lib.hid (HB3.out.trans (hb6.mono HB3.out.size))
      have HR := Lib.hid how
      clear how ho5 hb5 hb6 h5 h6 x0 x1 er
      rw [HAD.out.1]
      go_wp2
      go_ret
      exact ⟨_, rfl, HA.out.below HB6.out, Kept.ofBelow HB6.out⟩
set_option maxHeartbeats 4000000 in
set_option maxRecDepth 100000 in
theorem cCallOkF (h : GV w B p n vs g) (hI : GI n b g) (hb : b ≤ 1000) {c : Nat} (hc : c < n) (hi : 0 ≤ id ∧ id ≤ 9007199254740991) (hl : (g.rs c).length ≠ 256) (hq : anyB g.aw n = false) :
    Calls Try.prog 18 #[.pointer (some ⟨B, 0, none⟩), .int .i64 c, .int .i64 id] w (G1 w B p n (g.row2 n c (g.rs c ++ [⟨id, g.nd + 1⟩])) 0) := by
    have HA := Lib.hid h
    have h1 := hI.n1
    have HO : Hid (∀ i, n ≤ i → g.aw i = false) := Lib.hid hI.off
    have HQ := Lib.hid hq
    have e2 := h.c1
    have hbig := hI.big
    have e1 := h.cr hc
    have hown := h.own hc
    obtain ⟨va, vc, hv, _, _⟩ := own_shape hown
    rw [hv] at e1 hown
    have hlen := hI.len hc
    have HADD : Hid (addF (g.rs c) ⟨id, (g.nd : Int) + 1⟩ = 0 ∧ addL (g.rs c) ⟨id, (g.nd : Int) + 1⟩ = g.rs c ++ [⟨id, (g.nd : Int) + 1⟩]) := Lib.hid (add_yes (hI.chk c hc) (hI.snoc hb hc hi hl hq))
    have HG2 : Hid ((g.row2 n c (g.rs c ++ [⟨id, (g.nd : Int) + 1⟩])) = (g.row2 n c (g.rs c ++ [⟨id, g.nd + 1⟩]))) := Lib.hid (by first | rfl | rw [show (g.nd : Int) + 1 + 1 = g.nd + 2 by omega])
    have hl256 : (g.rs c).length < 256 := by omega
    have HSR : Hid (∀ (W : World) v r, GV W B p n vs g → OwnA 0 W v r → GV (W.setCell ⟨p, c * 2 + 1, none⟩ v) B p n (upd vs c v) (g.row c r) ∧ Kept (OwnG B p) W (W.setCell ⟨p, c * 2 + 1, none⟩ v)) :=
      Lib.hid (fun W v r hg ho => set_row hg hc ho)
    obtain ⟨D, hD⟩ : ∃ D, g.nd = D := ⟨_, rfl⟩
    rw [hD] at e2 hbig HADD HG2 ⊢
    have hD1 : D ≤ 1000 := by omega
    obtain ⟨r, hrr⟩ : ∃ r, g.rs c = r := ⟨_, rfl⟩
    rw [hrr] at HADD hown hlen e1 hl256 HG2 ⊢
    have HOWN := Lib.hid hown
    clear hl hv hown hrr
    clear h hI hq hbig hD
    have hD0 : (1 : Int) ≤ (D : Int) + 1 ∧ (D : Int) + 1 ≤ 9007199254740991 := by omega
    have HCK : Hid (chkF [⟨id, (D : Int) + 1⟩] = 0) := Lib.hid (by rw [chk_one id _ hD0]; first | exact if_pos hi | exact if_neg hi)
    have hx0 : (w.alloc (.cells #[.int .i64 id, .int .i64 ((D : Int) + 1)] 82)).heap[w.heap.size]? = some (.cells #[.int .i64 id, .int .i64 ((D : Int) + 1)] 82) := heap_new _ _
    have hb0 : Below w.heap.size w (w.alloc (.cells #[.int .i64 id, .int .i64 ((D : Int) + 1)] 82)) := below_one (Below.refl _ _) _
    have HX : Hid ((w.alloc (.cells #[.int .i64 id, .int .i64 ((D : Int) + 1)] 82)).heap[w.heap.size]? = some (.cells #[.int .i64 id, .int .i64 ((D : Int) + 1)] 82) ∧ Below w.heap.size w (w.alloc (.cells #[.int .i64 id, .int .i64 ((D : Int) + 1)] 82))) := Lib.hid ⟨hx0, hb0⟩
    have HG := Lib.hid (HA.out.below hb0)
    clear hb0 hD0
    go_enter Try.func18, Try.ntmps18
    go_wp2_with fail
    refine (cAt HA.out h1 hc).mono ?_
    rintro e w1 ⟨rfl, rfl⟩
    go_wp2_with fail
    refine (cGoing HG.out h1 HO.out false HQ.out).mono ?_
    rintro e w2 ⟨rfl, rfl⟩
    go_wp2_with fail
    refine (cCheck _ [⟨id, (D : Int) + 1⟩] 0 HCK.out _ (lit_one' _ id ((D : Int) + 1) _ (by simp))).mono ?_
    rintro e w3 ⟨rfl, hb3⟩
    have HB3 : Hid (Below w1.heap.size w1 w3) := Lib.hid ((below_one HX.out.2 _).trans (hb3.mono (below_one HX.out.2 _).size))
    have hx3 := keep_block (keep_block HX.out.1 (below_one (Below.refl _ _) _)) hb3
    clear hb3 hx0
    have HAD : Hid (addF r ⟨id, (D : Int) + 1⟩ = 0 ∧ addL r ⟨id, (D : Int) + 1⟩ = r ++ [⟨id, (D : Int) + 1⟩]) := Lib.hid HADD.out
    obtain ⟨x0, x1⟩ := self2 hx3
    have er := cell_keep HB3.out e1
    have HOW := Lib.hid (own_below HOWN.out HB3.out)
    have HK := Lib.hid (And.intro er (And.intro x0 x1))
    have hz1 := lt_of_block hx3
    clear hx3
    go_wp2
    go_region_held3 (fun W => (W.cell? ⟨p, c * 2 + 1, none⟩ = some (.slice va r.length vc) ∧ W.cell? ⟨w1.heap.size, 0, none⟩ = some (.int .i64 id) ∧ W.cell? ⟨w1.heap.size, 1, none⟩ = some (.int .i64 ((D : Int) + 1))) ∧ Below w3.heap.size w3 W)
      (first | exact key3 HK.out (by assumption) | exact key3 HK.out (Below.drew (Below.refl _ _)))
      (first
        | (go_at_call 40; refine (cQueueOf _ r _ (own_below HOW.out (show _ ∧ Below w3.heap.size w3 _ from by assumption).2) hlen).mono ?_; rintro e w5 ⟨qa, qc, rfl, ho5, h5⟩; have hb5 : Below w3.heap.size w3 w5 := below_then (show _ ∧ Below w3.heap.size w3 _ from by assumption).2 h5)
        | (go_at_call 46; refine (cAdd _ r id ((D : Int) + 1) _ (OwnW.shows (OwnW.below ho5 (by first | exact Below.refl _ _ | exact (Below.refl _ _).drew)))).mono ?_; rintro e w6 ⟨la, ln, lc, hln, rfl, how, h6⟩; have hb6 : Below w3.heap.size w3 w6 := below_then hb5 h6; have HN := Lib.hid hln; clear hln))
    all_goals
      have HB6 := Lib.hid (HB3.out.trans (hb6.mono HB3.out.size))
      have HR := Lib.hid how
      clear how ho5 hb5 hb6 h5 h6 x0 x1 er
      rw [HAD.out.1]
      have hl9 : Hid (ln = r.length + 1) := Lib.hid (by rw [HN.out, HAD.out.2]; simp)
      go_wp2_with fail
      refine (cRecordsOf _ (addL r ⟨id, (D : Int) + 1⟩) _ (OwnW.shows HR.out) (by rw [← HN.out, hl9.out]; omega)).mono ?_
      rintro e w7 ⟨qa2, qc2, rfl, ho7, h7⟩
      have HB7 := Lib.hid (below_then HB6.out h7)
      have HG7 := HA.out.below HB7.out
      have e7 := HG7.cr hc
      have f7 := HG7.ff (c * 2 + 1)
      have HS := Lib.hid (HSR.out _ _ _ HG7 (ho7.le (Nat.zero_le _)))
      obtain ⟨m2, hm2⟩ : ∃ m2, (addL r ⟨id, (D : Int) + 1⟩).length = m2 := ⟨_, rfl⟩
      rw [hm2] at HS ⊢
      clear ho7 h7 HG7 hm2
      go_wp2_with fail
      refine (cGoing HS.out.1 h1 HO.out false HQ.out).mono ?_
      rintro e w8 ⟨rfl, rfl⟩
      go_wp2_with fail
      refine (cBegin HS.out.1 h1 HO.out).mono ?_
      rintro e w8 ⟨rfl, hg8, hk8⟩
      have H8 := Lib.hid (And.intro hg8 hk8)
      clear hg8 hk8
      go_wp2
      go_ret
      have h9 := H8.out.1
      rw [HAD.out.2] at h9
      exact ⟨_, rfl, h9, ((Kept.ofBelow HB7.out).trans HS.out.2).trans H8.out.2⟩
set_option maxHeartbeats 4000000 in
set_option maxRecDepth 100000 in
theorem cCallOkT (h : GV w B p n vs g) (hI : GI n b g) (hb : b ≤ 1000) {c : Nat} (hc : c < n) (hi : 0 ≤ id ∧ id ≤ 9007199254740991) (hl : (g.rs c).length ≠ 256) (hq : anyB g.aw n = true) :
    Calls Try.prog 18 #[.pointer (some ⟨B, 0, none⟩), .int .i64 c, .int .i64 id] w (G1 w B p n (g.row c (g.rs c ++ [⟨id, g.nd + 2⟩])) 0) := by
    have HA := Lib.hid h
    have h1 := hI.n1
    have HO : Hid (∀ i, n ≤ i → g.aw i = false) := Lib.hid hI.off
    have HQ := Lib.hid hq
    have e2 := h.c1
    have hbig := hI.big
    have e1 := h.cr hc
    have hown := h.own hc
    obtain ⟨va, vc, hv, _, _⟩ := own_shape hown
    rw [hv] at e1 hown
    have hlen := hI.len hc
    have HADD : Hid (addF (g.rs c) ⟨id, (g.nd : Int) + 1 + 1⟩ = 0 ∧ addL (g.rs c) ⟨id, (g.nd : Int) + 1 + 1⟩ = g.rs c ++ [⟨id, (g.nd : Int) + 1 + 1⟩]) := Lib.hid (add_yes (hI.chk c hc) ((by have := hI.snoc2 hb hc hi hl; rw [show (g.nd : Int) + 1 + 1 = g.nd + 2 by omega]; exact this)))
    have HG2 : Hid ((g.row c (g.rs c ++ [⟨id, (g.nd : Int) + 1 + 1⟩])) = (g.row c (g.rs c ++ [⟨id, g.nd + 2⟩]))) := Lib.hid (by first | rfl | rw [show (g.nd : Int) + 1 + 1 = g.nd + 2 by omega])
    have hl256 : (g.rs c).length < 256 := by omega
    have HSR : Hid (∀ (W : World) v r, GV W B p n vs g → OwnA 0 W v r → GV (W.setCell ⟨p, c * 2 + 1, none⟩ v) B p n (upd vs c v) (g.row c r) ∧ Kept (OwnG B p) W (W.setCell ⟨p, c * 2 + 1, none⟩ v)) :=
      Lib.hid (fun W v r hg ho => set_row hg hc ho)
    obtain ⟨D, hD⟩ : ∃ D, g.nd = D := ⟨_, rfl⟩
    rw [hD] at e2 hbig HADD HG2 ⊢
    have hD1 : D ≤ 1000 := by omega
    obtain ⟨r, hrr⟩ : ∃ r, g.rs c = r := ⟨_, rfl⟩
    rw [hrr] at HADD hown hlen e1 hl256 HG2 ⊢
    have HOWN := Lib.hid hown
    clear hl hv hown hrr
    clear h hI hq hbig hD
    have hD0 : (1 : Int) ≤ (D : Int) + 1 + 1 ∧ (D : Int) + 1 + 1 ≤ 9007199254740991 := by omega
    have HCK : Hid (chkF [⟨id, (D : Int) + 1 + 1⟩] = 0) := Lib.hid (by rw [chk_one id _ hD0]; first | exact if_pos hi | exact if_neg hi)
    have hx0 : (w.alloc (.cells #[.int .i64 id, .int .i64 ((D : Int) + 1)] 82)).heap[w.heap.size]? = some (.cells #[.int .i64 id, .int .i64 ((D : Int) + 1)] 82) := heap_new _ _
    have hb0 : Below w.heap.size w (w.alloc (.cells #[.int .i64 id, .int .i64 ((D : Int) + 1)] 82)) := below_one (Below.refl _ _) _
    have HX : Hid ((w.alloc (.cells #[.int .i64 id, .int .i64 ((D : Int) + 1 + 1)] 82)).heap[w.heap.size]? = some (.cells #[.int .i64 id, .int .i64 ((D : Int) + 1 + 1)] 82) ∧ Below w.heap.size w (w.alloc (.cells #[.int .i64 id, .int .i64 ((D : Int) + 1 + 1)] 82))) := Lib.hid ⟨heap_new _ _, below_one (Below.refl _ _) _⟩
    have HG := Lib.hid (HA.out.below hb0)
    clear hb0 hD0
    go_enter Try.func18, Try.ntmps18
    go_wp2_with fail
    refine (cAt HA.out h1 hc).mono ?_
    rintro e w1 ⟨rfl, rfl⟩
    go_wp2_with fail
    refine (cGoing HG.out h1 HO.out true HQ.out).mono ?_
    rintro e w2 ⟨rfl, rfl⟩
    go_wp2_with fail
    refine (cCheck _ [⟨id, (D : Int) + 1 + 1⟩] 0 HCK.out _ (lit_one' _ id ((D : Int) + 1 + 1) _ (by simp))).mono ?_
    rintro e w3 ⟨rfl, hb3⟩
    have HB3 : Hid (Below w1.heap.size w1 w3) := Lib.hid ((below_one HX.out.2 _).trans (hb3.mono (below_one HX.out.2 _).size))
    have hx3 := keep_block (keep_block HX.out.1 (below_one (Below.refl _ _) _)) hb3
    clear hb3 hx0
    have HAD : Hid (addF r ⟨id, (D : Int) + 1 + 1⟩ = 0 ∧ addL r ⟨id, (D : Int) + 1 + 1⟩ = r ++ [⟨id, (D : Int) + 1 + 1⟩]) := Lib.hid HADD.out
    obtain ⟨x0, x1⟩ := self2 hx3
    have er := cell_keep HB3.out e1
    have HOW := Lib.hid (own_below HOWN.out HB3.out)
    have HK := Lib.hid (And.intro er (And.intro x0 x1))
    have hz1 := lt_of_block hx3
    clear hx3
    go_wp2
    go_region_held3 (fun W => (W.cell? ⟨p, c * 2 + 1, none⟩ = some (.slice va r.length vc) ∧ W.cell? ⟨w1.heap.size, 0, none⟩ = some (.int .i64 id) ∧ W.cell? ⟨w1.heap.size, 1, none⟩ = some (.int .i64 ((D : Int) + 1 + 1))) ∧ Below w3.heap.size w3 W)
      (first | exact key3 HK.out (by assumption) | exact key3 HK.out (Below.drew (Below.refl _ _)))
      (first
        | (go_at_call 40; refine (cQueueOf _ r _ (own_below HOW.out (show _ ∧ Below w3.heap.size w3 _ from by assumption).2) hlen).mono ?_; rintro e w5 ⟨qa, qc, rfl, ho5, h5⟩; have hb5 : Below w3.heap.size w3 w5 := below_then (show _ ∧ Below w3.heap.size w3 _ from by assumption).2 h5)
        | (go_at_call 46; refine (cAdd _ r id ((D : Int) + 1 + 1) _ (OwnW.shows (OwnW.below ho5 (by first | exact Below.refl _ _ | exact (Below.refl _ _).drew)))).mono ?_; rintro e w6 ⟨la, ln, lc, hln, rfl, how, h6⟩; have hb6 : Below w3.heap.size w3 w6 := below_then hb5 h6; have HN := Lib.hid hln; clear hln))
    all_goals
      have HB6 := Lib.hid (HB3.out.trans (hb6.mono HB3.out.size))
      have HR := Lib.hid how
      clear how ho5 hb5 hb6 h5 h6 x0 x1 er
      rw [HAD.out.1]
      have hl9 : Hid (ln = r.length + 1) := Lib.hid (by rw [HN.out, HAD.out.2]; simp)
      go_wp2_with fail
      refine (cRecordsOf _ (addL r ⟨id, (D : Int) + 1 + 1⟩) _ (OwnW.shows HR.out) (by rw [← HN.out, hl9.out]; omega)).mono ?_
      rintro e w7 ⟨qa2, qc2, rfl, ho7, h7⟩
      have HB7 := Lib.hid (below_then HB6.out h7)
      have HG7 := HA.out.below HB7.out
      have e7 := HG7.cr hc
      have f7 := HG7.ff (c * 2 + 1)
      have HS := Lib.hid (HSR.out _ _ _ HG7 (ho7.le (Nat.zero_le _)))
      obtain ⟨m2, hm2⟩ : ∃ m2, (addL r ⟨id, (D : Int) + 1 + 1⟩).length = m2 := ⟨_, rfl⟩
      rw [hm2] at HS ⊢
      clear ho7 h7 HG7 hm2
      go_wp2_with fail
      refine (cGoing HS.out.1 h1 HO.out true HQ.out).mono ?_
      rintro e w8 ⟨rfl, rfl⟩
      go_wp2
      go_ret
      have h9 := HS.out.1
      rw [HAD.out.2] at h9
      exact ⟨_, rfl, by rw [← HG2.out]; exact h9, (Kept.ofBelow HB7.out).trans HS.out.2⟩
set_option maxHeartbeats 1000000 in
set_option maxRecDepth 100000 in
theorem cCall (h : GV w B p n vs g) (hI : GI n b g) (hb : b ≤ 1000) (hr : CallIs n g cpu id er g') :
    Calls Try.prog 18 #[.pointer (some ⟨B, 0, none⟩), .int .i64 cpu, .int .i64 id] w (G1 w B p n g' er) := by
  cases hr with
  | no _ _ hp =>
    have HA := Lib.hid h
    have h1 := hI.n1
    clear h hI
    go_enter Try.func18, Try.ntmps18
    go_wp2_with fail
    refine (cAtNo HA.out h1 hp).mono ?_
    rintro e w1 ⟨rfl, rfl⟩
    go_wp2
    go_ret
    exact ⟨_, rfl, HA.out, Kept.refl _ _⟩
  | arg c _ hc hi =>
    cases hq : anyB g.aw n with
    | false => exact cCallArgF h hI hb hc hi hq
    | true => exact cCallArgT h hI hb hc hi hq
  | full c _ hc hi hl =>
    cases hq : anyB g.aw n with
    | false => exact cCallFullF h hI hb hc hi hl hq
    | true => exact cCallFullT h hI hb hc hi hl hq
  | first c _ hc hi hl ha => exact cCallOkF h hI hb hc hi hl ha
  | later c _ hc hi hl ha => exact cCallOkT h hI hb hc hi hl ha
end
end Go.Proofs.Ytnnpclknlccmiaa
