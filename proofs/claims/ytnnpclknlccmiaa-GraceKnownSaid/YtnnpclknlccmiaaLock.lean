/-
  Lock, Unlock, Quiet, Done, Depth, Waits, Wanted of the program.
-/
import Derived.Test.YtnnpclknlccmiaaLater
set_option linter.unusedVariables false
set_option linter.unusedSimpArgs false
namespace Go.Proofs.Ytnnpclknlccmiaa
open Go Go.RowKit

/-- a call that answers an error has come back -/
def G1 (w : World) (B p n : Nat) (g' : Gr) (er : Int) (e : Ending) (w' : World) : Prop := ∃ vs', e = .returned (.int .i64 er) ∧ GV w' B p n vs' g' ∧ Kept (OwnG B p) w w'
section
variable {w w' : World} {B p n b : Nat} {vs : Nat → Value} {g g' : Gr} {cpu er : Int}
theorem set_depth' (h : GV w B p n vs g) {c d : Nat} (hc : c < n) {x : Int} (hx : x = d) : GV (w.setCell ⟨p, c * 2, none⟩ (.int .i64 x)) B p n vs (g.deep c d) ∧ Kept (OwnG B p) w (w.setCell ⟨p, c * 2, none⟩ (.int .i64 x)) := by
  subst hx
  exact set_depth h hc
theorem GV.ff (h : GV w B p n vs g) (i : Nat) : w.frozen? ⟨p, i, none⟩ = false := h.tab.frozen i
theorem GV.drewN (h : GV w B p n vs g) (m : Nat) : GV (w.drewN m) B p n vs g := h.below (below_drewN (Below.refl _ w) m)
theorem GV.fb (h : GV w B p n vs g) (i : Nat) : w.frozen? ⟨B, i, none⟩ = false := h.box.frozen i
set_option maxHeartbeats 1000000 in
set_option maxRecDepth 100000 in
theorem cLock (h : GV w B p n vs g) (h1 : 1 ≤ n ∧ n ≤ 8) (hr : LockIs n g cpu er g') :
    Calls Try.prog 15 #[.pointer (some ⟨B, 0, none⟩), .int .i64 cpu] w (G1 w B p n g' er) := by
  have HA := Lib.hid h
  cases hr with
  | no _ hp =>
    clear h
    go_enter Try.func15, Try.ntmps15
    go_wp2_with fail
    refine (cAtNo HA.out h1 hp).mono ?_
    rintro e w1 ⟨rfl, rfl⟩
    go_wp2
    go_ret
    exact ⟨_, rfl, HA.out, Kept.refl _ _⟩
  | full c hc hd =>
    have e1 := h.cd hc
    rw [hd] at e1
    clear h hd
    go_enter Try.func15, Try.ntmps15
    go_wp2_with fail
    refine (cAt HA.out h1 hc).mono ?_
    rintro e w1 ⟨rfl, rfl⟩
    go_wp2
    go_ret
    exact ⟨_, rfl, HA.out, Kept.refl _ _⟩
  | ok c hc hd =>
    have e1 := h.cd hc
    have ef := h.ff (c * 2)
    have HS := Lib.hid (set_depth' h hc (d := g.dp c + 1) (x := (g.dp c : Int) + 1) (by omega))
    obtain ⟨d, hdd⟩ : ∃ d, g.dp c = d := ⟨_, rfl⟩
    rw [hdd] at e1 hd HS ⊢
    have hne : ((d : Int) == 8) = false := by simp; omega
    clear h hdd
    go_enter Try.func15, Try.ntmps15
    go_wp2_with fail
    refine (cAt HA.out h1 hc).mono ?_
    rintro e w1 ⟨rfl, rfl⟩
    go_wp2
    go_ret
    exact ⟨_, rfl, HS.out.1, HS.out.2⟩
set_option maxHeartbeats 1000000 in
set_option maxRecDepth 100000 in
theorem cUnlock (h : GV w B p n vs g) (h1 : 1 ≤ n ∧ n ≤ 8) (hb8 : ∀ i, i < n → g.dp i ≤ 8) (hr : UnlockIs n g cpu er g') :
    Calls Try.prog 16 #[.pointer (some ⟨B, 0, none⟩), .int .i64 cpu] w (G1 w B p n g' er) := by
  have HA := Lib.hid h
  cases hr with
  | no _ hp =>
    clear h hb8
    go_enter Try.func16, Try.ntmps16
    go_wp2_with fail
    refine (cAtNo HA.out h1 hp).mono ?_
    rintro e w1 ⟨rfl, rfl⟩
    go_wp2
    go_ret
    exact ⟨_, rfl, HA.out, Kept.refl _ _⟩
  | none c hc hd =>
    have e1 := h.cd hc
    rw [hd] at e1
    clear h hd hb8
    go_enter Try.func16, Try.ntmps16
    go_wp2_with fail
    refine (cAt HA.out h1 hc).mono ?_
    rintro e w1 ⟨rfl, rfl⟩
    go_wp2
    go_ret
    exact ⟨_, rfl, HA.out, Kept.refl _ _⟩
  | ok c d hc hd =>
    have e1 := h.cd hc
    have ef := h.ff (c * 2)
    have h8 := hb8 c hc
    have HS := Lib.hid (set_depth' h hc (d := d) (x := (g.dp c : Int) - 1) (by omega))
    obtain ⟨D, hdd⟩ : ∃ D, g.dp c = D := ⟨_, rfl⟩
    rw [hdd] at e1 hd HS h8
    have hne : ((D : Int) == 0) = false := by simp; omega
    have hD0 : 0 < D := by omega
    clear h hdd hb8 hd
    go_enter Try.func16, Try.ntmps16
    go_wp2_with fail
    refine (cAt HA.out h1 hc).mono ?_
    rintro e w1 ⟨rfl, rfl⟩
    go_wp2
    go_ret
    exact ⟨_, rfl, HS.out.1, HS.out.2⟩
set_option maxHeartbeats 1000000 in
set_option maxRecDepth 100000 in
theorem cQuiet (h : GV w B p n vs g) (hI : GI n b g) (hb : b ≤ 1000) (hr : QuietIs n g cpu er g') :
    Calls Try.prog 17 #[.pointer (some ⟨B, 0, none⟩), .int .i64 cpu] w (G1 w B p n g' er) := by
  have HA := Lib.hid h
  have h1 := hI.n1
  have HI := Lib.hid hI
  cases hr with
  | no _ hp =>
    clear h hI
    go_enter Try.func17, Try.ntmps17
    go_wp2_with fail
    refine (cAtNo HA.out h1 hp).mono ?_
    rintro e w1 ⟨rfl, rfl⟩
    go_wp2
    go_ret
    exact ⟨_, rfl, HA.out, Kept.refl _ _⟩
  | deep c hc hd =>
    have e1 := h.cd hc
    obtain ⟨D, hdd⟩ : ∃ D, g.dp c = D := ⟨_, rfl⟩
    rw [hdd] at e1 hd
    clear h hI hdd
    go_enter Try.func17, Try.ntmps17
    go_wp2_with fail
    refine (cAt HA.out h1 hc).mono ?_
    rintro e w1 ⟨rfl, rfl⟩
    go_wp2
    go_ret
    exact ⟨_, rfl, HA.out, Kept.refl _ _⟩
  | idle c hc hd ha =>
    have e1 := h.cd hc
    have e2 := h.ca (show c < 8 by omega)
    rw [hd] at e1
    rw [ha] at e2
    have hc8 : c < 8 := by omega
    clear h hI hd ha
    go_enter Try.func17, Try.ntmps17
    go_wp2_with fail
    refine (cAt HA.out h1 hc).mono ?_
    rintro e w1 ⟨rfl, rfl⟩
    go_wp2
    go_ret
    exact ⟨_, rfl, HA.out, Kept.refl _ _⟩
  | more c hc hd ha hm =>
    have e1 := h.cd hc
    have e2 := h.ca (show c < 8 by omega)
    have ef := h.fb (2 + c)
    rw [hd] at e1
    rw [ha] at e2
    have hc8 : c < 8 := by omega
    have HS := Lib.hid (set_aw h (c := c) (q := false) hc8)
    have HO : Hid (∀ i, n ≤ i → upd g.aw c false i = false) := Lib.hid (fun i hi => by rw [upd_other _ _ (by omega)]; exact hI.off i hi)
    have HM := Lib.hid hm
    clear h hI hd ha hm
    go_enter Try.func17, Try.ntmps17
    go_wp2_with fail
    refine (cAt HA.out h1 hc).mono ?_
    rintro e w1 ⟨rfl, rfl⟩
    go_wp2_with fail
    refine (cGoing HS.out.1 h1 HO.out true HM.out).mono ?_
    rintro e w1 ⟨rfl, rfl⟩
    go_wp2
    go_ret
    exact ⟨_, rfl, HS.out.1, HS.out.2⟩
  | last c hc hd ha hm hl =>
    have e1 := h.cd hc
    have e2 := h.ca (show c < 8 by omega)
    have ef := h.fb (2 + c)
    rw [hd] at e1
    rw [ha] at e2
    have hc8 : c < 8 := by omega
    have hS := set_aw h (c := c) (q := false) hc8
    have HS := Lib.hid hS
    have HO : Hid (∀ i, n ≤ i → upd g.aw c false i = false) := Lib.hid (fun i hi => by rw [upd_other _ _ (by omega)]; exact hI.off i hi)
    have HM := Lib.hid hm
    have e3 := hS.1.c1
    have ef3 := hS.1.fb 1
    have HN := Lib.hid (set_nd hS.1)
    obtain ⟨D, hD⟩ : ∃ D, g.nd = D := ⟨_, rfl⟩
    have hbig : D ≤ 1000 := by have := hI.big; omega
    dsimp only at e3 HN
    rw [hD] at e3 HN
    have HL : Hid (Gr.lat { g with aw := upd g.aw c false, nd := D + 1 } n ((D + 1 : Nat) : Int) = false) := Lib.hid (by rw [← hD]; exact hl)
    have HD := Lib.hid hD
    clear h hI hd ha hm hS hl hD
    go_enter Try.func17, Try.ntmps17
    go_wp2_with fail
    refine (cAt HA.out h1 hc).mono ?_
    rintro e w1 ⟨rfl, rfl⟩
    go_wp2_with fail
    refine (cGoing HS.out.1 h1 HO.out false HM.out).mono ?_
    rintro e w1 ⟨rfl, rfl⟩
    go_wp2_with fail
    refine (cLater HN.out.1 h1 HI.out.chk false HL.out).mono ?_
    rintro e w1 ⟨rfl, hb1⟩
    have HB := Lib.hid hb1
    clear hb1
    go_wp2
    go_ret
    refine ⟨_, rfl, HN.out.1.below HB.out |>.congr (fun _ _ => rfl) (fun _ _ => rfl) (by show g.nd + 1 = D + 1; rw [HD.out]) (fun _ _ => rfl), (HS.out.2.trans HN.out.2).trans (Kept.ofBelow HB.out)⟩
  | next c hc hd ha hm hl =>
    have e1 := h.cd hc
    have e2 := h.ca (show c < 8 by omega)
    have ef := h.fb (2 + c)
    rw [hd] at e1
    rw [ha] at e2
    have hc8 : c < 8 := by omega
    have hS := set_aw h (c := c) (q := false) hc8
    have HS := Lib.hid hS
    have HO : Hid (∀ i, n ≤ i → upd g.aw c false i = false) := Lib.hid (fun i hi => by rw [upd_other _ _ (by omega)]; exact hI.off i hi)
    have HM := Lib.hid hm
    have e3 := hS.1.c1
    have ef3 := hS.1.fb 1
    have HN := Lib.hid (set_nd hS.1)
    obtain ⟨D, hD⟩ : ∃ D, g.nd = D := ⟨_, rfl⟩
    have hbig : D ≤ 1000 := by have := hI.big; omega
    dsimp only at e3 HN
    rw [hD] at e3 HN
    have HL : Hid (Gr.lat { g with aw := upd g.aw c false, nd := D + 1 } n ((D + 1 : Nat) : Int) = true) := Lib.hid (by rw [← hD]; exact hl)
    have HD := Lib.hid hD
    clear h hI hd ha hm hS hl hD
    go_enter Try.func17, Try.ntmps17
    go_wp2_with fail
    refine (cAt HA.out h1 hc).mono ?_
    rintro e w1 ⟨rfl, rfl⟩
    go_wp2_with fail
    refine (cGoing HS.out.1 h1 HO.out false HM.out).mono ?_
    rintro e w1 ⟨rfl, rfl⟩
    go_wp2_with fail
    refine (cLater HN.out.1 h1 HI.out.chk true HL.out).mono ?_
    rintro e w1 ⟨rfl, hb1⟩
    have HB := Lib.hid hb1
    clear hb1
    go_wp2_with fail
    refine (cBegin (HN.out.1.below HB.out) h1 HO.out).mono ?_
    rintro e w2 ⟨rfl, hg, hk⟩
    have HG := Lib.hid (And.intro hg hk)
    clear hg hk
    go_wp2
    go_ret
    refine ⟨_, rfl, HG.out.1.congr (fun _ _ => rfl) (fun _ _ => rfl) (by show g.nd + 1 = D + 1; rw [HD.out]) (fun _ _ => rfl), ((HS.out.2.trans HN.out.2).trans (Kept.ofBelow HB.out)).trans HG.out.2⟩
set_option maxHeartbeats 1000000 in
set_option maxRecDepth 100000 in
theorem cDepth (h : GV w B p n vs g) (h1 : 1 ≤ n ∧ n ≤ 8) (x : Int) (hx : depF n g cpu = x) :
    Calls Try.prog 19 #[.pointer (some ⟨B, 0, none⟩), .int .i64 cpu] w fun e w' => e = .returned (.int .i64 x) ∧ w' = w := by
  have HA := Lib.hid h
  by_cases hp : isP n cpu
  · obtain ⟨c, rfl, hc⟩ := isP_nat hp
    have e1 := h.cd hc
    have HX : Hid ((g.dp c : Int) = x) := Lib.hid (by rw [← hx, dep_yes g hc])
    obtain ⟨D, hdd⟩ : ∃ D, g.dp c = D := ⟨_, rfl⟩
    rw [hdd] at e1 HX
    clear h hx hdd hp
    go_enter Try.func19, Try.ntmps19
    go_wp2_with fail
    refine (cAt HA.out h1 hc).mono ?_
    rintro e w1 ⟨rfl, rfl⟩
    go_wp2
    go_ret
    exact ⟨ret_int HX.out, rfl⟩
  · have HX : Hid (0 = x) := Lib.hid (by rw [← hx, dep_no g hp])
    clear h hx
    go_enter Try.func19, Try.ntmps19
    go_wp2_with fail
    refine (cAtNo HA.out h1 hp).mono ?_
    rintro e w1 ⟨rfl, rfl⟩
    go_wp2
    go_ret
    exact ⟨ret_int HX.out, rfl⟩
set_option maxHeartbeats 1000000 in
set_option maxRecDepth 100000 in
theorem cWaits (h : GV w B p n vs g) (h1 : 1 ≤ n ∧ n ≤ 8) (x : Int) (hx : waiF n g cpu = x) :
    Calls Try.prog 12 #[.pointer (some ⟨B, 0, none⟩), .int .i64 cpu] w fun e w' => e = .returned (.int .i64 x) ∧ w' = w := by
  have HA := Lib.hid h
  by_cases hp : isP n cpu
  · obtain ⟨c, rfl, hc⟩ := isP_nat hp
    have e1 := h.cr hc
    obtain ⟨a, k, hv, _, _⟩ := own_shape (h.own hc)
    rw [hv] at e1
    have HX : Hid (((g.rs c).length : Int) = x) := Lib.hid (by rw [← hx, wai_yes g hc])
    obtain ⟨D, hdd⟩ : ∃ D, (g.rs c).length = D := ⟨_, rfl⟩
    rw [hdd] at e1 HX
    clear h hx hdd hp hv
    go_enter Try.func12, Try.ntmps12
    go_wp2_with fail
    refine (cAt HA.out h1 hc).mono ?_
    rintro e w1 ⟨rfl, rfl⟩
    go_wp2
    go_ret
    exact ⟨ret_int HX.out, rfl⟩
  · have HX : Hid (0 = x) := Lib.hid (by rw [← hx, wai_no g hp])
    clear h hx
    go_enter Try.func12, Try.ntmps12
    go_wp2_with fail
    refine (cAtNo HA.out h1 hp).mono ?_
    rintro e w1 ⟨rfl, rfl⟩
    go_wp2
    go_ret
    exact ⟨ret_int HX.out, rfl⟩
set_option maxHeartbeats 1000000 in
set_option maxRecDepth 100000 in
theorem cWanted (h : GV w B p n vs g) (h1 : 1 ≤ n ∧ n ≤ 8) (x : Bool) (hx : wanF n g cpu = x) :
    Calls Try.prog 20 #[.pointer (some ⟨B, 0, none⟩), .int .i64 cpu] w fun e w' => e = .returned (.bool x) ∧ w' = w := by
  have HA := Lib.hid h
  by_cases hp : isP n cpu
  · obtain ⟨c, rfl, hc⟩ := isP_nat hp
    have hc8 : c < 8 := by omega
    have e1 := h.ca hc8
    have HX : Hid (g.aw c = x) := Lib.hid (by rw [← hx, wan_yes g hc])
    rw [HX.out] at e1
    clear h hx hp
    go_enter Try.func20, Try.ntmps20
    go_wp2_with fail
    refine (cAt HA.out h1 hc).mono ?_
    rintro e w1 ⟨rfl, rfl⟩
    go_wp2
    go_ret
    exact ⟨rfl, rfl⟩
  · have HX : Hid (false = x) := Lib.hid (by rw [← hx, wan_no g hp])
    clear h hx
    go_enter Try.func20, Try.ntmps20
    go_wp2_with fail
    refine (cAtNo HA.out h1 hp).mono ?_
    rintro e w1 ⟨rfl, rfl⟩
    go_wp2
    go_ret
    exact ⟨ret_bool HX.out, rfl⟩
set_option maxHeartbeats 1000000 in
set_option maxRecDepth 100000 in
theorem cDone (h : GV w B p n vs g) (h1 : 1 ≤ n ∧ n ≤ 8) (ho : ∀ i, n ≤ i → g.aw i = false) (q : Bool) (hq : anyB g.aw n = q) :
    Calls Try.prog 14 #[.pointer (some ⟨B, 0, none⟩)] w fun e w' => e = .returned (.tuple #[.int .i64 g.nd, .bool q]) ∧ Below w.heap.size w w' := by
  have HA := Lib.hid h
  have HO := Lib.hid ho
  have HQ := Lib.hid hq
  have c1 := h.c1
  obtain ⟨D, hD⟩ : ∃ D, g.nd = D := ⟨_, rfl⟩
  rw [hD] at c1 ⊢
  clear h ho hq hD
  go_enter Try.func14, Try.ntmps14
  go_wp2
  go_quiet ((go_at_call 42; exact Calls.quiet_of_same (cGoing (HA.out.drewN _) h1 HO.out q HQ.out)))
  go_wp2
  go_ret2
  exact ⟨rfl, below_drewN (Below.refl _ _) _⟩
end
end Go.Proofs.Ytnnpclknlccmiaa
