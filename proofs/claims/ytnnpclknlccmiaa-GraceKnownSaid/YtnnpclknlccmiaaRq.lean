/-
  Quiet, Done, Depth, Waits, Wanted of the document's answer.
-/
import Derived.Test.YtnnpclknlccmiaaRl
set_option linter.unusedVariables false
set_option linter.unusedSimpArgs false
namespace Go.Proofs.Ytnnpclknlccmiaa
open Go Go.RowKit

theorem upd_self {f : Nat → Bool} {c : Nat} {x : Bool} (h : f c = x) : upd f c x = f := by
  funext i
  by_cases e : i = c
  · subst e; rw [upd_same, h]
  · rw [upd_other _ _ e]
section
variable {w w' : World} {B d r m n b : Nat} {vs : Nat → Value} {g g' : Gr} {q : Bool} {cpu er : Int}
set_option maxHeartbeats 2000000 in
set_option maxRecDepth 100000 in
theorem rQuiet (h : RV w B d r m n vs g (anyB g.aw n)) (hI : GI n b g) (hb : b ≤ 1000) (hr : QuietIs n g cpu er g') :
    Calls Try.prog 25 #[.pointer (some ⟨B, 0, none⟩), .int .i64 cpu] w (R1 w B d r m n g' er) := by
  have HA := Lib.hid h
  have HI := Lib.hid hI
  have hn := hI.n1.2
  cases hr with
  | no _ hp =>
    clear h hI
    go_enter Try.func25, Try.ntmps25
    go_wp2_with fail
    refine (rHas HA.out _ false (hasNo hp)).mono ?_
    rintro e w1 ⟨rfl, rfl⟩
    go_wp2
    go_ret
    exact ⟨_, rfl, HA.out, Kept.refl _ _⟩
  | deep c hc hd =>
    have c0 := h.c0
    have e1 := h.cd hc
    obtain ⟨D, hdd⟩ : ∃ D, g.dp c = D := ⟨_, rfl⟩
    rw [hdd] at e1 hd
    clear h hI hdd
    go_enter Try.func25, Try.ntmps25
    go_wp2_with fail
    refine (rHas HA.out _ true (hasYes hc)).mono ?_
    rintro e w1 ⟨rfl, rfl⟩
    go_wp2
    go_ret
    exact ⟨_, rfl, HA.out, Kept.refl _ _⟩
  | idle c hc hd ha =>
    have c0 := h.c0
    have c3 := h.c3
    have c4 := h.c4
    have e1 := h.cd hc
    rw [hd] at e1
    cases hq : anyB g.aw n with
    | false =>
      rw [hq] at c3
      clear h hI hd ha hq
      go_enter Try.func25, Try.ntmps25
      go_wp2_with fail
      refine (rHas HA.out _ true (hasYes hc)).mono ?_
      rintro e w1 ⟨rfl, rfl⟩
      go_wp2
      go_ret
      exact ⟨_, rfl, HA.out, Kept.refl _ _⟩
    | true =>
      rw [hq] at c3
      have em := h.cm hc
      have ef := h.fm c
      have HS := Lib.hid (rset_need h (c := c) (b := false) hc)
      have HM : Hid (anyB (upd g.aw c false) n = true) := Lib.hid (by rw [upd_self ha]; exact hq)
      have HU := Lib.hid (upd_self ha)
      clear h hI hd ha hq
      go_enter Try.func25, Try.ntmps25
      go_wp2_with fail
      refine (rHas HA.out _ true (hasYes hc)).mono ?_
      rintro e w1 ⟨rfl, rfl⟩
      go_wp2_with fail
      refine (rWaited HS.out.1 hn true HM.out).mono ?_
      rintro e w2 ⟨rfl, rfl⟩
      go_wp2
      go_ret
      have h9 := HS.out.1
      rw [HU.out] at h9
      exact ⟨_, rfl, h9, HS.out.2⟩
  | more c hc hd ha hm =>
    have c0 := h.c0
    have c3 := h.c3
    have c4 := h.c4
    have e1 := h.cd hc
    have em := h.cm hc
    have ef := h.fm c
    have HQ : Hid (anyB g.aw n = true) := Lib.hid (anyB_iff.2 ⟨c, hc, ha⟩)
    rw [hd] at e1
    rw [HQ.out] at c3
    have HS := Lib.hid (rset_need h (c := c) (b := false) hc)
    have HM := Lib.hid hm
    clear h hI hd ha hm
    go_enter Try.func25, Try.ntmps25
    go_wp2_with fail
    refine (rHas HA.out _ true (hasYes hc)).mono ?_
    rintro e w1 ⟨rfl, rfl⟩
    go_wp2_with fail
    refine (rWaited HS.out.1 hn true HM.out).mono ?_
    rintro e w2 ⟨rfl, rfl⟩
    go_wp2
    go_ret
    exact ⟨_, rfl, HS.out.1.flag (by rw [HQ.out]; exact HM.out.symm), HS.out.2⟩
  | last c hc hd ha hm hl =>
    have c0 := h.c0
    have c3 := h.c3
    have c4 := h.c4
    have e1 := h.cd hc
    have em := h.cm hc
    have ef := h.fm c
    have HQ : Hid (anyB g.aw n = true) := Lib.hid (anyB_iff.2 ⟨c, hc, ha⟩)
    rw [hd] at e1
    rw [HQ.out] at c3
    have hS := rset_need h (c := c) (b := false) hc
    have HS := Lib.hid hS
    have HM := Lib.hid hm
    have hG := rset_go hS.1 false
    have HG := Lib.hid hG
    have e3 := hS.1.c3
    rw [HQ.out] at e3
    have ef3 := hS.1.fb 3
    have e2 := hG.1.c2
    have ef2 := hG.1.fb 2
    have HN := Lib.hid (rset_nd hG.1)
    obtain ⟨D, hD⟩ : ∃ D, g.nd = D := ⟨_, rfl⟩
    have hbig : D ≤ 1000 := by have := hI.big; omega
    dsimp only at e2 HN
    rw [hD] at e2 HN
    have HL : Hid (Gr.lat { g with aw := upd g.aw c false, nd := D + 1 } n ((D + 1 : Nat) : Int) = false) := Lib.hid (by rw [← hD]; exact hl)
    have HD := Lib.hid hD
    clear h hI hd ha hm hS hG hl hD
    go_enter Try.func25, Try.ntmps25
    go_wp2_with fail
    refine (rHas HA.out _ true (hasYes hc)).mono ?_
    rintro e w1 ⟨rfl, rfl⟩
    go_wp2_with fail
    refine (rWaited HS.out.1 hn false HM.out).mono ?_
    rintro e w2 ⟨rfl, rfl⟩
    go_wp2_with fail
    refine (rLater HN.out.1 hn HI.out.chk false HL.out).mono ?_
    rintro e w3 ⟨rfl, hb3⟩
    have HB := Lib.hid hb3
    clear hb3
    go_wp2
    go_ret
    refine ⟨_, rfl, (RV.congr (g' := g.over c) (HN.out.1.below HB.out) (fun _ _ => rfl) (fun _ _ => rfl) (by show g.nd + 1 = D + 1; rw [HD.out]) (fun _ _ => rfl)).flag HM.out.symm, ((HS.out.2.trans HG.out.2).trans HN.out.2).trans (Kept.ofBelow HB.out)⟩
  | next c hc hd ha hm hl =>
    have c0 := h.c0
    have c3 := h.c3
    have c4 := h.c4
    have e1 := h.cd hc
    have em := h.cm hc
    have ef := h.fm c
    have HQ : Hid (anyB g.aw n = true) := Lib.hid (anyB_iff.2 ⟨c, hc, ha⟩)
    rw [hd] at e1
    rw [HQ.out] at c3
    have hS := rset_need h (c := c) (b := false) hc
    have HS := Lib.hid hS
    have HM := Lib.hid hm
    have hG := rset_go hS.1 false
    have HG := Lib.hid hG
    have e3 := hS.1.c3
    rw [HQ.out] at e3
    have ef3 := hS.1.fb 3
    have e2 := hG.1.c2
    have ef2 := hG.1.fb 2
    have HN := Lib.hid (rset_nd hG.1)
    obtain ⟨D, hD⟩ : ∃ D, g.nd = D := ⟨_, rfl⟩
    have hbig : D ≤ 1000 := by have := hI.big; omega
    dsimp only at e2 HN
    rw [hD] at e2 HN
    have HL : Hid (Gr.lat { g with aw := upd g.aw c false, nd := D + 1 } n ((D + 1 : Nat) : Int) = true) := Lib.hid (by rw [← hD]; exact hl)
    have HD := Lib.hid hD
    have HT := Lib.hid (any_allT hI.n1.1)
    clear h hI hd ha hm hS hG hl hD
    go_enter Try.func25, Try.ntmps25
    go_wp2_with fail
    refine (rHas HA.out _ true (hasYes hc)).mono ?_
    rintro e w1 ⟨rfl, rfl⟩
    go_wp2_with fail
    refine (rWaited HS.out.1 hn false HM.out).mono ?_
    rintro e w2 ⟨rfl, rfl⟩
    go_wp2_with fail
    refine (rLater HN.out.1 hn HI.out.chk true HL.out).mono ?_
    rintro e w3 ⟨rfl, hb3⟩
    have HB := Lib.hid hb3
    clear hb3
    go_wp2_with fail
    refine (rBegin (HN.out.1.below HB.out) hn).mono ?_
    rintro e w4 ⟨rfl, hg, hk⟩
    have H4 := Lib.hid (And.intro hg hk)
    clear hg hk
    go_wp2
    go_ret
    refine ⟨_, rfl, (RV.congr (g' := g.over2 n c) H4.out.1 (fun _ _ => rfl) (fun _ _ => rfl) (by show g.nd + 1 = D + 1; rw [HD.out]) (fun _ _ => rfl)).flag HT.out.symm, (((HS.out.2.trans HG.out.2).trans HN.out.2).trans (Kept.ofBelow HB.out)).trans H4.out.2⟩
set_option maxHeartbeats 1000000 in
set_option maxRecDepth 100000 in
theorem rDepth (h : RV w B d r m n vs g q) (x : Int) (hx : depF n g cpu = x) :
    Calls Try.prog 30 #[.pointer (some ⟨B, 0, none⟩), .int .i64 cpu] w fun e w' => e = .returned (.int .i64 x) ∧ w' = w := by
  have HA := Lib.hid h
  by_cases hp : isP n cpu
  · obtain ⟨c, rfl, hc⟩ := isP_nat hp
    have c0 := h.c0
    have e1 := h.cd hc
    have HX : Hid ((g.dp c : Int) = x) := Lib.hid (by rw [← hx, dep_yes g hc])
    obtain ⟨D, hdd⟩ : ∃ D, g.dp c = D := ⟨_, rfl⟩
    rw [hdd] at e1 HX
    clear h hx hdd hp
    go_enter Try.func30, Try.ntmps30
    go_wp2_with fail
    refine (rHas HA.out _ true (hasYes hc)).mono ?_
    rintro e w1 ⟨rfl, rfl⟩
    go_wp2
    go_ret
    exact ⟨ret_int HX.out, rfl⟩
  · have HX : Hid (0 = x) := Lib.hid (by rw [← hx, dep_no g hp])
    clear h hx
    go_enter Try.func30, Try.ntmps30
    go_wp2_with fail
    refine (rHas HA.out _ false (hasNo hp)).mono ?_
    rintro e w1 ⟨rfl, rfl⟩
    go_wp2
    go_ret
    exact ⟨ret_int HX.out, rfl⟩
set_option maxHeartbeats 1000000 in
set_option maxRecDepth 100000 in
theorem rWaits (h : RV w B d r m n vs g q) (x : Int) (hx : waiF n g cpu = x) :
    Calls Try.prog 31 #[.pointer (some ⟨B, 0, none⟩), .int .i64 cpu] w fun e w' => e = .returned (.int .i64 x) ∧ w' = w := by
  have HA := Lib.hid h
  by_cases hp : isP n cpu
  · obtain ⟨c, rfl, hc⟩ := isP_nat hp
    have c1 := h.c1
    have e1 := h.cr hc
    obtain ⟨a, k, hv, _, _⟩ := own_shape (h.own hc)
    rw [hv] at e1
    have HX : Hid (((g.rs c).length : Int) = x) := Lib.hid (by rw [← hx, wai_yes g hc])
    obtain ⟨D, hdd⟩ : ∃ D, (g.rs c).length = D := ⟨_, rfl⟩
    rw [hdd] at e1 HX
    clear h hx hdd hp hv
    go_enter Try.func31, Try.ntmps31
    go_wp2_with fail
    refine (rHas HA.out _ true (hasYes hc)).mono ?_
    rintro e w1 ⟨rfl, rfl⟩
    go_wp2
    go_ret
    exact ⟨ret_int HX.out, rfl⟩
  · have HX : Hid (0 = x) := Lib.hid (by rw [← hx, wai_no g hp])
    clear h hx
    go_enter Try.func31, Try.ntmps31
    go_wp2_with fail
    refine (rHas HA.out _ false (hasNo hp)).mono ?_
    rintro e w1 ⟨rfl, rfl⟩
    go_wp2
    go_ret
    exact ⟨ret_int HX.out, rfl⟩
set_option maxHeartbeats 1000000 in
set_option maxRecDepth 100000 in
theorem rWanted (h : RV w B d r m n vs g (anyB g.aw n)) (x : Bool) (hx : wanF n g cpu = x) :
    Calls Try.prog 32 #[.pointer (some ⟨B, 0, none⟩), .int .i64 cpu] w fun e w' => e = .returned (.bool x) ∧ w' = w := by
  have HA := Lib.hid h
  by_cases hp : isP n cpu
  · obtain ⟨c, rfl, hc⟩ := isP_nat hp
    have c3 := h.c3
    have c4 := h.c4
    have e1 := h.cm hc
    have hxx : g.aw c = x := by rw [← hx, wan_yes g hc]
    rw [hxx] at e1
    cases hq : anyB g.aw n with
    | false =>
      have HX : Hid (false = x) := Lib.hid (by rw [← hxx]; exact (anyB_no.1 hq c hc).symm)
      rw [hq] at c3
      clear h hx hp hq hxx
      go_enter Try.func32, Try.ntmps32
      go_wp2_with fail
      refine (rHas HA.out _ true (hasYes hc)).mono ?_
      rintro e w1 ⟨rfl, rfl⟩
      go_wp2
      go_ret
      exact ⟨ret_bool HX.out, rfl⟩
    | true =>
      rw [hq] at c3
      clear h hx hp hq hxx
      go_enter Try.func32, Try.ntmps32
      go_wp2_with fail
      refine (rHas HA.out _ true (hasYes hc)).mono ?_
      rintro e w1 ⟨rfl, rfl⟩
      go_wp2
      go_ret
      exact ⟨rfl, rfl⟩
  · have HX : Hid (false = x) := Lib.hid (by rw [← hx, wan_no g hp])
    clear h hx
    go_enter Try.func32, Try.ntmps32
    go_wp2_with fail
    refine (rHas HA.out _ false (hasNo hp)).mono ?_
    rintro e w1 ⟨rfl, rfl⟩
    go_wp2
    go_ret
    exact ⟨ret_bool HX.out, rfl⟩
set_option maxHeartbeats 1000000 in
set_option maxRecDepth 100000 in
theorem rDone (h : RV w B d r m n vs g q) :
    Calls Try.prog 29 #[.pointer (some ⟨B, 0, none⟩)] w fun e w' => e = .returned (.tuple #[.int .i64 g.nd, .bool q]) ∧ Below w.heap.size w w' := by
  have c2 := h.c2
  have c3 := h.c3
  obtain ⟨D, hD⟩ : ∃ D, g.nd = D := ⟨_, rfl⟩
  rw [hD] at c2 ⊢
  clear h hD
  go_enter Try.func29, Try.ntmps29
  go_wp2
  go_quiet (fail)
  go_wp2
  go_ret2
  exact ⟨rfl, below_drewN (Below.refl _ _) _⟩
end
end Go.Proofs.Ytnnpclknlccmiaa
