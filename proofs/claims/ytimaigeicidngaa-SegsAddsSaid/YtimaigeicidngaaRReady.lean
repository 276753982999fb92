/-
  Ready, of the document's answer.
-/
import Derived.Test.YtimaigeicidngaaReady
set_option linter.unusedVariables false
set_option linter.unusedSimpArgs false
namespace Go.Proofs.Ytimaigeicidngaa
open Go Go.RowKit

set_option maxHeartbeats 1000000 in
set_option maxRecDepth 100000 in
theorem rReady (u : Value) (l : List Wt) (d : Int) (w : World) (hu : ShowW w u l) :
    Calls Try.prog 19 #[u, .int .i64 d] w (ReadyIs w l d) := by
  obtain ⟨ao, cap, rfl, hcap, hat⟩ := hu.form
  have HU := Lib.hid hu
  obtain ⟨c, hc⟩ : ∃ c, chkF l = c := ⟨_, rfl⟩
  have HC := Lib.hid hc
  clear hu hc
  go_enter Try.func19, Try.ntmps19
  go_wp2_with fail
  refine (rCheck _ l c HC.out _ HU.out).mono ?_
  rintro e w1 ⟨rfl, hb1⟩
  by_cases hc0 : c = 0
  rotate_left
  · have hq : (c != 0) = true := by simpa using hc0
    go_wp2
    go_ret3
    exact ReadyIs.bare HC.out hc0 hb1
  subst hc0
  have hlen := chk_len HC.out
  go_wp2
  go_loopw [8, 9] (fun v x wr => ∃ m : Nat, m ≤ l.length ∧ x = .int .i64 m ∧ Hid (OwnI w.heap.size wr v (ids (l.take m))) ∧ Hid (Done l d m) ∧ Below w.heap.size w wr) (fun _ x _ => l.length - (intOf x).toNat)
  case atStart => exact ⟨0, by omega, rfl, Lib.hid (OwnI.nil _ _), Lib.hid (Done.zero _ _), hb1⟩
  case round =>
    clear hb1
    obtain ⟨m, hm, rfl, HO, HD, hb⟩ := hrel
    obtain ⟨va2, vc2, rfl, _, _⟩ := own_shape HO.out
    rw [take_len hm] at HO ⊢
    by_cases hml : m < l.length
    · obtain ⟨b1, o1, rfl, c1, c2⟩ := hat m hml
      have d1 := cell_keep hb c1
      have d2 := cell_keep hb c2
      have hlb : b1 < wr.heap.size := World.block_lt_of_cell? wr _ d1
      obtain ⟨A, hya⟩ : ∃ A, (wt l m).due = A := ⟨_, rfl⟩
      rw [hya] at d2
      clear c1 c2
      by_cases hAd : A ≤ d
      · have HD2 : Hid (Done l d (m + 1)) := Lib.hid (HD.out.more (by rw [hya]; exact hAd))
        have HT : Hid (ids (l.take (m + 1)) = ids (l.take m) ++ [(wt l m).who]) := Lib.hid (take_more hml)
        have hnl := take_len (l := l) (k := m) (by omega)
        have HNL := Lib.hid hnl
        generalize (wt l m).who = x at d1 HT
        have hbz := hb.size
        clear hya hnl
        go_wp2_with (at_builtin; refine wpList_appendI (by rfl) _ _ (by rfl) w.heap.size _ _ (ids (l.take m)) [x] (m + 1) (by rfl) (by rfl) (HO.out.below (below_one (Below.refl _ _) _)) (lit_i wr 3 [x] 1 rfl (by omega)) (by rw [HNL.out]; show m + 1 ≤ 1000; omega) (by rw [size_alloc]; omega) (by rw [List.length_append, HNL.out]; rfl) ?_)
        intro a3 c3 w3 hown3 hb3
        have HO3 : Hid (OwnI w.heap.size w3 (.slice a3 (m + 1) c3) (ids (l.take (m + 1)))) := Lib.hid (by rw [HT.out]; exact hown3)
        have HB3 := Lib.hid ((below_one hb _).trans hb3)
        clear hown3 hb3
        go_wp2
        go_roundw
        case rel => exact ⟨m + 1, by omega, by go_num, HO3, HD2, HB3.out⟩
        case measure => simp [intOf]; omega
      · have HCUT : Hid (cutN d l = m) := Lib.hid (cutN_is hm HD.out (fun _ => by rw [hya]; omega))
        have hcm : m < cap := by omega
        have HQ : Hid (rdyI l d = ids (l.take m) ∧ rdyR l d = l.drop m) := Lib.hid (by have := rdy_ok (d := d) HC.out; rwa [HCUT.out] at this)
        have hRL : (l.drop m).length ≤ 256 := by rw [List.length_drop]; omega
        have HS : Hid (ShowW wr (.slice (some ⟨b1, o1 + m * 2, none⟩) (l.length - m) (cap - m)) (l.drop m)) := Lib.hid ((HU.out.below hb).rest hm _ _ rfl rfl)
        have HNR : Hid (l.length - m = (l.drop m).length) := Lib.hid (by rw [List.length_drop])
        go_wp2_with fail
        refine (rCopy _ (l.drop m) _ HS.out (by omega)).mono ?_
        rintro e w4 ⟨ra, rc, rfl, hown, hb4⟩
        have HOR : Hid (OwnW w.heap.size w4 (.slice ra (l.length - m) rc) (l.drop m)) := Lib.hid (by rw [HNR.out]; exact hown.le hb.size)
        have HOI := Lib.hid (HO.out.below hb4)
        have HB4 := Lib.hid (below_then hb hb4)
        clear hown hb4
        go_wp2
        try rw [Exit.noGoto_ret]
        go_ret3
        exact ⟨_, m, _, ra, (l.length - m), rc, by rw [HQ.out.1, take_len (by omega)], by rw [HQ.out.2, HNR.out]; try rfl, by rw [HC.out]; rfl, by rw [HQ.out.1]; exact HOI.out, by rw [HQ.out.2]; exact HOR.out, HB4.out⟩
    · have hke : m = l.length := by omega
      subst hke
      have HCUT : Hid (cutN d l = l.length) := Lib.hid (cutN_is (Nat.le_refl _) HD.out (fun h => absurd h (Nat.lt_irrefl _)))
      have HQ : Hid (rdyI l d = ids (l.take l.length) ∧ rdyR l d = []) := Lib.hid (by have := rdy_ok (d := d) HC.out; rwa [HCUT.out, List.drop_length] at this)
      have HTL : Hid ((ids (l.take l.length)).length = l.length) := Lib.hid (take_len (Nat.le_refl _))
      cases ao with
      | none =>
        go_wp2_with fail
        refine (rCopy _ ([] : List Wt) _ ?hs (by simp)).mono ?_
        case hs => exact ShowW.none_left rfl (by omega)
        rintro e w4 ⟨ra, rc, rfl, hown, hb4⟩
        have HOR : Hid (OwnW w.heap.size w4 (.slice ra 0 rc) ([] : List Wt)) := Lib.hid (hown.le hb.size)
        have HOI := Lib.hid (HO.out.below hb4)
        have HB4 := Lib.hid (below_then hb hb4)
        clear hown hb4
        go_wp2
        try rw [Exit.noGoto_ret]
        go_ret3
        exact ⟨_, l.length, _, ra, 0, rc, by rw [HQ.out.1, HTL.out], by rw [HQ.out.2]; try rfl, by rw [HC.out]; rfl, by rw [HQ.out.1]; exact HOI.out, by rw [HQ.out.2]; exact HOR.out, HB4.out⟩
      | some x =>
        by_cases hcc : cap = l.length
        · subst hcc
          go_wp2_with fail
          refine (rCopy _ ([] : List Wt) _ ?hs (by simp)).mono ?_
          case hs => exact ShowW.none_left rfl (by omega)
          rintro e w4 ⟨ra, rc, rfl, hown, hb4⟩
          have HOR : Hid (OwnW w.heap.size w4 (.slice ra 0 rc) ([] : List Wt)) := Lib.hid (hown.le hb.size)
          have HOI := Lib.hid (HO.out.below hb4)
          have HB4 := Lib.hid (below_then hb hb4)
          clear hown hb4
          go_wp2
          try rw [Exit.noGoto_ret]
          go_ret3
          exact ⟨_, l.length, _, ra, 0, rc, by rw [HQ.out.1, HTL.out], by rw [HQ.out.2]; try rfl, by rw [HC.out]; rfl, by rw [HQ.out.1]; exact HOI.out, by rw [HQ.out.2]; exact HOR.out, HB4.out⟩
        · have hcl : l.length < cap := by omega
          go_wp2_with fail
          refine (rCopy _ ([] : List Wt) _ ?hs (by simp)).mono ?_
          case hs => exact ShowW.none_left rfl (by omega)
          rintro e w4 ⟨ra, rc, rfl, hown, hb4⟩
          have HOR : Hid (OwnW w.heap.size w4 (.slice ra 0 rc) ([] : List Wt)) := Lib.hid (hown.le hb.size)
          have HOI := Lib.hid (HO.out.below hb4)
          have HB4 := Lib.hid (below_then hb hb4)
          clear hown hb4
          go_wp2
          try rw [Exit.noGoto_ret]
          go_ret3
          exact ⟨_, l.length, _, ra, 0, rc, by rw [HQ.out.1, HTL.out], by rw [HQ.out.2]; try rfl, by rw [HC.out]; rfl, by rw [HQ.out.1]; exact HOI.out, by rw [HQ.out.2]; exact HOR.out, HB4.out⟩
end Go.Proofs.Ytimaigeicidngaa
