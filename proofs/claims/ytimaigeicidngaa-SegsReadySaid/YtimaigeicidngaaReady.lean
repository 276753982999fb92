/-
  Ready, of the program.
-/
import Derived.Test.YtimaigeicidngaaInts
set_option linter.unusedVariables false
set_option linter.unusedSimpArgs false
namespace Go.Proofs.Ytimaigeicidngaa
open Go Go.RowKit

/-- none of the first k waits for more than d -/
def Done (l : List Wt) (d : Int) (k : Nat) : Prop := ∀ j, j < k → (wt l j).due ≤ d
theorem Done.zero (l : List Wt) (d : Int) : Done l d 0 := fun j h => by omega
theorem Done.more {l : List Wt} {d : Int} {k : Nat} (h : Done l d k) (h1 : (wt l k).due ≤ d) : Done l d (k + 1) := by
  intro j hj
  by_cases e : j = k
  · subst e; exact h1
  · exact h j (by omega)
theorem take_len {l : List Wt} {k : Nat} (h : k ≤ l.length) : (ids (l.take k)).length = k := by rw [ids_length, List.length_take]; omega
/-- what Ready answers -/
def ReadyIs (w : World) (l : List Wt) (d : Int) (e : Ending) (w' : World) : Prop := ∃ ia ni ic ra nr rc, ni = (rdyI l d).length ∧ nr = (rdyR l d).length ∧ e = .returned (.tuple #[.slice ia ni ic, .slice ra nr rc, .int .i64 (chkF l)]) ∧
  OwnI w.heap.size w' (.slice ia ni ic) (rdyI l d) ∧ OwnW w.heap.size w' (.slice ra nr rc) (rdyR l d) ∧ Below w.heap.size w w'
theorem ReadyIs.bare {w w' : World} {l : List Wt} {d : Int} {c : Int} (hc : chkF l = c) (h0 : c ≠ 0) (hb : Below w.heap.size w w') : ReadyIs w l d (.returned (.tuple #[.slice none 0 0, .slice none 0 0, .int .i64 c])) w' := by
  obtain ⟨h1, h2⟩ := rdy_no (d := d) (fun e => h0 (hc.symm.trans e))
  refine ⟨none, 0, 0, none, 0, 0, by rw [h1]; rfl, by rw [h2]; rfl, by rw [hc], ?_, ?_, hb⟩
  · rw [h1]; exact OwnI.nil _ _
  · rw [h2]; exact OwnW.nil _ _
set_option maxHeartbeats 1000000 in
set_option maxRecDepth 100000 in
theorem cReady (u : Value) (l : List Wt) (d : Int) (w : World) (hu : ShowW w u l) :
    Calls Try.prog 18 #[u, .int .i64 d] w (ReadyIs w l d) := by
  obtain ⟨ao, cap, rfl, hcap, hat⟩ := hu.form
  have HU := Lib.hid hu
  obtain ⟨c, hc⟩ : ∃ c, chkF l = c := ⟨_, rfl⟩
  have HC := Lib.hid hc
  clear hu hc
  go_enter Try.func18, Try.ntmps18
  go_wp2_with fail
  go_step3
  go_wp2_with fail
  refine (cCheck _ l c HC.out _ HU.out).mono ?_
  rintro e w1 ⟨rfl, hb1⟩
  by_cases hc0 : c = 0
  rotate_left
  · have hq : (c != 0) = true := by simpa using hc0
    go_wp2
    go_ret3
    exact ReadyIs.bare HC.out hc0 hb1
  subst hc0
  have hlen := chk_len HC.out
  go_wp2
  go_step3
  go_wp2
  go_loopw [4, 8] (fun v x wr => ∃ k : Nat, k ≤ l.length ∧ x = .int .i64 k ∧ Hid (OwnI w.heap.size wr v (ids (l.take k))) ∧ Hid (Done l d k) ∧ Below w.heap.size w wr) (fun _ x _ => l.length - (intOf x).toNat)
  case atStart => exact ⟨0, by omega, rfl, Lib.hid (OwnI.nil _ _), Lib.hid (Done.zero _ _), hb1⟩
  case round =>
    clear hb1
    obtain ⟨k, hk, rfl, HO, HD, hb⟩ := hrel
    obtain ⟨va, vc, rfl, _, _⟩ := own_shape HO.out
    rw [take_len hk] at HO ⊢
    by_cases hlt : k < l.length
    · obtain ⟨b1, o1, rfl, _, c2⟩ := hat k hlt
      have d2 := cell_keep hb c2
      obtain ⟨A, hA⟩ : ∃ A, (wt l k).due = A := ⟨_, rfl⟩
      rw [hA] at d2
      have HA := Lib.hid hA
      clear hA c2
      go_wp2
      go_loopw [4, 8] (fun v x wx => ∃ m : Nat, k ≤ m ∧ m ≤ l.length ∧ x = .int .i64 m ∧ Hid (OwnI w.heap.size wx v (ids (l.take m))) ∧ Hid (Done l d m) ∧ Below w.heap.size w wx) (fun _ x _ => l.length - (intOf x).toNat)
      case atStart => exact ⟨k, Nat.le_refl _, hk, rfl, HO, HD, hb⟩
      case round =>
        clear hb d2 HO HD hk
        obtain ⟨m, hkm, hm, rfl, HO, HD, hb⟩ := hrel
        obtain ⟨va2, vc2, rfl, _, _⟩ := own_shape HO.out
        rw [take_len hm] at HO ⊢
        by_cases hml : m < l.length
        · obtain ⟨b2, o2, e2, c1, c2⟩ := hat m hml
          cases e2
          have d1 := cell_keep hb c1
          have d2 := cell_keep hb c2
          have hlb : b1 < wr.heap.size := World.block_lt_of_cell? wr _ d1
          clear c1 c2
          by_cases hya : (wt l m).due = A
          · rw [hya] at d2
            by_cases hAd : A ≤ d
            · have HD2 : Hid (Done l d (m + 1)) := Lib.hid (HD.out.more (by rw [hya]; exact hAd))
              have HT : Hid (ids (l.take (m + 1)) = ids (l.take m) ++ [(wt l m).who]) := Lib.hid (take_more hml)
              have hnl := take_len (l := l) (k := m) (by omega)
              have HNL := Lib.hid hnl
              have hgt : ¬ d < A := by omega
              generalize (wt l m).who = x at d1 HT
              have hbz := hb.size
              clear hya hnl hAd
              go_wp2_with (at_builtin; refine wpList_appendI (by rfl) _ _ (by rfl) w.heap.size _ _ (ids (l.take m)) [x] (m + 1) (by rfl) (by rfl) (HO.out.below (below_one (Below.refl _ _) _)) (lit_i wr 3 [x] 1 rfl (by omega)) (by rw [HNL.out]; show m + 1 ≤ 1000; omega) (by rw [size_alloc]; omega) (by rw [List.length_append, HNL.out]; rfl) ?_)
              intro a3 c3 w3 hown3 hb3
              have HO3 : Hid (OwnI w.heap.size w3 (.slice a3 (m + 1) c3) (ids (l.take (m + 1)))) := Lib.hid (by rw [HT.out]; exact hown3)
              have HB3 := Lib.hid ((below_one hb _).trans hb3)
              clear hown3 hb3
              go_wp2
              go_roundw
              case rel => exact ⟨m + 1, by omega, by omega, by go_num, HO3, HD2, HB3.out⟩
              case measure => simp [intOf]; omega
            · have HCUT : Hid (cutN d l = m) := Lib.hid (cutN_is hm HD.out (fun _ => by rw [hya]; omega))
              have hgt : d < A := by omega
              have hcm : m < cap := by omega
              clear hAd
              have HQ : Hid (rdyI l d = ids (l.take m) ∧ rdyR l d = l.drop m) := Lib.hid (by have := rdy_ok (d := d) HC.out; rwa [HCUT.out] at this)
              have hRL : (l.drop m).length ≤ 256 := by rw [List.length_drop]; omega
              have HS : Hid (ShowW wr (.slice (some ⟨b1, o1 + m * 2, none⟩) (l.length - m) (cap - m)) (l.drop m)) := Lib.hid ((HU.out.below hb).rest hm _ _ rfl rfl)
              have HNR : Hid (l.length - m = (l.drop m).length) := Lib.hid (by rw [List.length_drop])
              go_wp2_with fail
              refine (cQueue _ _ (l.drop m) [] _ HS.out (ShowW.nil _) (by show (l.drop m).length + 0 ≤ 1000; omega)).mono ?_
              rintro e w4 ⟨ra, rc, rfl, hown, hb4⟩
              rw [List.append_nil] at hown ⊢
              have HOR := Lib.hid (hown.le hb.size)
              have HOI := Lib.hid (HO.out.below hb4)
              have HB4 := Lib.hid (below_then hb hb4)
              clear hown hb4
              go_wp2
              try rw [Exit.noGoto_ret]
              go_ret3
              exact ⟨_, m, _, ra, l.length - m, rc, by rw [HQ.out.1, take_len (by omega)], by rw [HQ.out.2, HNR.out], by rw [HC.out]; rfl, by rw [HQ.out.1]; exact HOI.out, by rw [HQ.out.2, HNR.out]; exact HOR.out, HB4.out⟩
          · have hkm2 : k < m := by
              rcases Nat.lt_or_ge k m with h | h
              · exact h
              · obtain rfl : k = m := by omega
                exact absurd HA.out hya
            obtain ⟨y, hy⟩ : ∃ y, (wt l m).due = y := ⟨_, rfl⟩
            rw [hy] at hya d2
            have hyq : (y == A) = false := by simpa using hya
            clear hy
            go_wp2
            go_roundw
            case rel => exact ⟨m, hm, rfl, HO, HD, hb⟩
            case measure => simp [intOf]; omega
        · have hme : m = l.length := by omega
          go_wp2
          go_roundw
          case rel => exact ⟨m, hm, rfl, HO, HD, hb⟩
          case measure => simp [intOf]; omega
    · have hke : k = l.length := by omega
      subst hke
      have HCUT : Hid (cutN d l = l.length) := Lib.hid (cutN_is (Nat.le_refl _) HD.out (fun h => absurd h (Nat.lt_irrefl _)))
      have HQ : Hid (rdyI l d = ids (l.take l.length) ∧ rdyR l d = []) := Lib.hid (by have := rdy_ok (d := d) HC.out; rwa [HCUT.out, List.drop_length] at this)
      have HTL : Hid ((ids (l.take l.length)).length = l.length) := Lib.hid (take_len (Nat.le_refl _))
      cases ao with
      | none =>
        go_wp2_with fail
        refine (cQueue _ _ [] [] _ ?hs (ShowW.nil _) (by simp)).mono ?_
        case hs => exact ShowW.none_left rfl (by omega)
        rintro e w4 ⟨ra, rc, rfl, hown, hb4⟩
        have HOR : Hid (OwnW w.heap.size w4 (.slice ra 0 rc) []) := Lib.hid (hown.le hb.size)
        have HOI := Lib.hid (HO.out.below hb4)
        have HB4 := Lib.hid (below_then hb hb4)
        clear hown hb4
        go_wp2
        try rw [Exit.noGoto_ret]
        go_ret3
        exact ⟨_, l.length, _, ra, 0, rc, by rw [HQ.out.1, HTL.out], by rw [HQ.out.2]; rfl, by rw [HC.out]; rfl, by rw [HQ.out.1]; exact HOI.out, by rw [HQ.out.2]; exact HOR.out, HB4.out⟩
      | some x =>
        by_cases hcc : cap = l.length
        · subst hcc
          go_wp2_with fail
          refine (cQueue _ _ [] [] _ ?hs (ShowW.nil _) (by simp)).mono ?_
          case hs => exact ShowW.none_left rfl (by omega)
          rintro e w4 ⟨ra, rc, rfl, hown, hb4⟩
          have HOR : Hid (OwnW w.heap.size w4 (.slice ra 0 rc) []) := Lib.hid (hown.le hb.size)
          have HOI := Lib.hid (HO.out.below hb4)
          have HB4 := Lib.hid (below_then hb hb4)
          clear hown hb4
          go_wp2
          try rw [Exit.noGoto_ret]
          go_ret3
          exact ⟨_, l.length, _, ra, 0, rc, by rw [HQ.out.1, HTL.out], by rw [HQ.out.2]; rfl, by rw [HC.out]; rfl, by rw [HQ.out.1]; exact HOI.out, by rw [HQ.out.2]; exact HOR.out, HB4.out⟩
        · have hcl : l.length < cap := by omega
          go_wp2_with fail
          refine (cQueue _ _ [] [] _ ?hs (ShowW.nil _) (by simp)).mono ?_
          case hs => exact ShowW.none_left rfl (by omega)
          rintro e w4 ⟨ra, rc, rfl, hown, hb4⟩
          have HOR : Hid (OwnW w.heap.size w4 (.slice ra 0 rc) []) := Lib.hid (hown.le hb.size)
          have HOI := Lib.hid (HO.out.below hb4)
          have HB4 := Lib.hid (below_then hb hb4)
          clear hown hb4
          go_wp2
          try rw [Exit.noGoto_ret]
          go_ret3
          exact ⟨_, l.length, _, ra, 0, rc, by rw [HQ.out.1, HTL.out], by rw [HQ.out.2]; rfl, by rw [HC.out]; rfl, by rw [HQ.out.1]; exact HOI.out, by rw [HQ.out.2]; exact HOR.out, HB4.out⟩
end Go.Proofs.Ytimaigeicidngaa
