/-
  Ready, of the program and of the document's answer.
-/
import Derived.Test.YtnnpclknlccmiaaAdd

set_option linter.unusedVariables false
set_option linter.unusedSimpArgs false
namespace Go.Proofs.Ytnnpclknlccmiaa
open Go Go.RowKit

theorem nms_one (l : List Int) : ∀ u ∈ nms l, u.oneCell' = true := by
  intro u hu
  obtain ⟨x, _, rfl⟩ := List.mem_map.1 hu
  rfl
theorem nms_at {l : List Int} {i : Nat} (h : i < l.length) : (nms l)[i]? = some (.int .i64 (pk l i)) := by
  rw [← pk_at l i h]
  simp [h]
theorem nms_append (a b : List Int) : nms (a ++ b) = nms a ++ nms b := by simp
/-- a row of one's own -/
abbrev OwnI (B : Nat) (w : World) (v : Value) (l : List Int) : Prop := w.ownsRow B 3 1 v l.length (nms l)
theorem OwnI.shows {B : Nat} {w : World} {v : Value} {l : List Int} (h : OwnI B w v l) : ShowI w v l := own_i h
theorem OwnI.nil (B : Nat) (w : World) : OwnI B w (.slice none 0 0) [] := World.ownsRow_nil _ _ _ _
theorem OwnI.below {B : Nat} {w w' : World} {v : Value} {l : List Int} (h : OwnI B w v l) (hb : Below w.heap.size w w') : OwnI B w' v l := own_below h hb
theorem OwnI.le {B B' : Nat} {w : World} {v : Value} {l : List Int} (h : OwnI B w v l) (hB : B' ≤ B) : OwnI B' w v l := by
  refine ⟨h.1, ?_⟩
  rcases h.2 with h | ⟨g, cap, cur, e, hb, hr⟩
  · exact .inl h
  · exact .inr ⟨g, cap, cur, e, Nat.le_trans hB hb, hr⟩
theorem run_appendI {w : World} {B : Nat} {v u : Value} {l b : List Int} (hown : OwnI B w v l) (hu : ShowI w u b) (hl : l.length + b.length ≤ 1000) (hB : B ≤ w.heap.size) (ty : TypeId) :
    ∃ ao cap w', (Builtin.append_ #[45, 45] ty #[v, u]).run Try.prog w = .ok (.slice ao (l ++ b).length cap) w' ∧ OwnI B w' (.slice ao (l ++ b).length cap) (l ++ b) ∧ Below B w w' ∧ w.grownBy w' v.ownBlock := by
  obtain ⟨i0, hi, hz0, hz1, hz2⟩ := info_parts infoI
  obtain ⟨ao, cap, rfl, hcap, hat⟩ := hu.form
  cases ao with
  | none =>
    have h0 : b = [] := by
      cases b with
      | nil => rfl
      | cons x l => obtain ⟨b, o, e, _⟩ := hat 0 (by simp); cases e
    subst h0
    obtain ⟨va, vc, rfl, hv1, hv2⟩ := own_shape hown
    rw [List.append_nil]
    refine ⟨va, vc, w, ?_, hown, Below.refl _ _, grown_of_below (B := 0) (Below.refl _ _) (Nat.le_refl _)⟩
    simp [Builtin.append_, run_underlying Try.underlying45, sizeOf, typeInfo, hi, Builtin.lenOf, Builtin.firstCells, hv1]
    cases va <;> simp [storeCells, List.forM_nil]
  | some ad =>
    have hnews : ∀ j v, (nms b)[j]? = some v → w.cell? (ad.add j) = some v := by
      intro j v hj
      have hlt : j < b.length := by
        have := (List.getElem?_eq_some_iff.1 hj).1
        simpa using this
      obtain ⟨b1, o, e, c0⟩ := hat j hlt
      obtain rfl := Option.some.inj e
      rw [plain_add, c0, ← hj, nms_at hlt]
    obtain ⟨v', w', hr, hown', hg, _, _⟩ := run_append_own_at (P := Try.prog) w B 45 ty 3 i0 _ 1 8 Try.underlying45 hi hz0 hz1 hz2 rfl (by decide) v l.length (nms l) hown ad b.length cap (nms b) (by simp) hnews (nms_one b) (by unfold maxLen; omega) (by omega) hB
    have hown2 : OwnI B w' v' (l ++ b) := by
      unfold OwnI
      rw [nms_append, List.length_append]
      exact hown'
    obtain ⟨a', c', rfl, _⟩ := own_shape hown2
    exact ⟨a', c', w', hr, hown2, (Below.refl _ w).grown hg hB (own_ge hown), hg⟩
theorem wpList_appendI {ops : Array Oper} {rest : List Oper} {o : Oper} {a : Act} {Q : Exit → Act → World → Prop} {w : World} (hgd : o.guard = none) (s x : Operand)
    (ho : o.op = .call { callee := .builtin .append, args := #[s, x], argTypes := #[45, 45] })
    (B : Nat) (v u : Value) (l b : List Int) (n : Nat) (hs : a.eval s = v) (hx : a.eval x = u) (hown : OwnI B w v l) (hu : ShowI w u b) (hl : l.length + b.length ≤ 1000) (hB : B ≤ w.heap.size) (hn : (l ++ b).length = n)
    (h : ∀ ao cap w', OwnI B w' (.slice ao n cap) (l ++ b) → Below B w w' → wpList Try.prog ops Q rest (a.put o.dst (.slice ao n cap)) w') :
    wpList Try.prog ops Q (o :: rest) a w := by
  subst hn
  refine wpList_plain hgd fun K hK => ?_
  obtain ⟨ao, cap, w', hr, h1, h2, h3⟩ := run_appendI hown hu hl hB o.type
  unfold Oper.wp execOp
  simp only [ho, resolve, invoke, builtin, Sem.run_bind, Sem.run_pure, Result.andThen_ok, List.map_toArray, List.map_cons, List.map_nil, hs, hx, hr]
  exact hK _ _ (h _ _ _ h1 h2)
theorem wpList_appendI2 {ops : Array Oper} {rest : List Oper} {o : Oper} {a : Act} {Q : Exit → Act → World → Prop} {w : World} (hgd : o.guard = none) (s x : Operand)
    (ho : o.op = .call { callee := .builtin .append, args := #[s, x], argTypes := #[45, 45] })
    (B : Nat) (v u : Value) (l b : List Int) (n : Nat) (hs : a.eval s = v) (hx : a.eval x = u) (hown : OwnI B w v l) (hu : ShowI w u b) (hl : l.length + b.length ≤ 1000) (hB : B ≤ w.heap.size) (hn : (l ++ b).length = n)
    (h : ∀ ao cap w', OwnI B w' (.slice ao n cap) (l ++ b) → Below B w w' → w.grownBy w' v.ownBlock → wpList Try.prog ops Q rest (a.put o.dst (.slice ao n cap)) w') :
    wpList Try.prog ops Q (o :: rest) a w := by
  subst hn
  refine wpList_plain hgd fun K hK => ?_
  obtain ⟨ao, cap, w', hr, h1, h2, h3⟩ := run_appendI hown hu hl hB o.type
  unfold Oper.wp execOp
  simp only [ho, resolve, invoke, builtin, Sem.run_bind, Sem.run_pure, Result.andThen_ok, List.map_toArray, List.map_cons, List.map_nil, hs, hx, hr]
  exact hK _ _ (h _ _ _ h1 h2 h3)
/-- another row stays, when one of one's own is appended to -/
theorem other_stays {w w' : World} {B n k : Nat} {t : TypeId} {v u : Value} {xs : List Value} (h : w.ownsRow B t k v n xs) (hg : w.grownBy w' u.ownBlock) (hu : ∀ j, u.ownBlock = some j → j < B) : w'.ownsRow B t k v n xs := by
  refine h.kept hg ?_
  cases hv : v.ownBlock with
  | none => exact .inl rfl
  | some j =>
    refine .inr (fun e => ?_)
    have h1 := own_ge h j hv
    have h2 := hu j e.symm
    omega
theorem own_lt {w : World} {B n k : Nat} {t : TypeId} {v : Value} {xs : List Value} (h : w.ownsRow B t k v n xs) : ∀ j, v.ownBlock = some j → j < w.heap.size := fun j e => (World.ownsRow.lt h j e).2
/-- all behind the first k -/
theorem ShowW.rest {w : World} {b o cap k : Nat} {l : List Wt} (h : ShowW w (.slice (some ⟨b, o, none⟩) l.length cap) l) (hk : k ≤ l.length) (m c : Nat) (hm : m = l.length - k) (hc : c = cap - k) :
    ShowW w (.slice (some ⟨b, o + k * 2, none⟩) m c) (l.drop k) := by
  subst hm hc
  unfold ShowW
  rw [List.length_drop, wts_drop]
  obtain ⟨hl, ao', cap', hv, hcc, hs⟩ := h
  cases hv
  refine ⟨by rw [List.length_drop, wts_length]; omega, _, _, rfl, by omega, fun hn => ?_⟩
  obtain ⟨b', o', ha, hx⟩ := hs (by omega)
  cases ha
  refine ⟨b, o + k * 2, rfl, fun j hj => ?_⟩
  rw [List.getElem?_drop, ← hx (k * 2 + j) (by omega), Nat.add_assoc]
theorem ShowW.none_left {w : World} {ao : Option Addr} {c : Nat} {l : List Wt} (hl : l = []) (hc : c ≤ 9223372036854775807) : ShowW w (.slice ao 0 c) l := by
  subst hl
  exact ⟨rfl, ao, c, rfl, ⟨Nat.zero_le _, by unfold maxLen; omega⟩, fun h => absurd h (Nat.lt_irrefl _)⟩

/-- none of the first k waits for more than d -/
def Done (l : List Wt) (d : Int) (k : Nat) : Prop := ∀ j, j < k → (wt l j).due ≤ d
theorem Done.zero (l : List Wt) (d : Int) : Done l d 0 := fun j h => by omega
theorem Done.more {l : List Wt} {d : Int} {k : Nat} (h : Done l d k) (h1 : (wt l k).due ≤ d) : Done l d (k + 1) := by
  intro j hj
  by_cases e : j = k
  · subst e; exact h1
  · exact h j (by omega)
theorem take_len {l : List Wt} {k : Nat} (h : k ≤ l.length) : (ids (l.take k)).length = k := by rw [ids_length, List.length_take]; omega
/-- what Ready answers -/
def ReadyIs (w : World) (l : List Wt) (d : Int) (e : Ending) (w' : World) : Prop := ∃ ia ni ic ra nr rc, ni = (rdyI l d).length ∧ nr = (rdyR l d).length ∧ e = .returned (.tuple #[.slice ia ni ic, .slice ra nr rc, .int .i64 (chkF l)]) ∧
  OwnI w.heap.size w' (.slice ia ni ic) (rdyI l d) ∧ OwnW w.heap.size w' (.slice ra nr rc) (rdyR l d) ∧ Below w.heap.size w w'
theorem ReadyIs.bare {w w' : World} {l : List Wt} {d : Int} {c : Int} (hc : chkF l = c) (h0 : c ≠ 0) (hb : Below w.heap.size w w') : ReadyIs w l d (.returned (.tuple #[.slice none 0 0, .slice none 0 0, .int .i64 c])) w' := by
  obtain ⟨h1, h2⟩ := rdy_no (d := d) (fun e => h0 (hc.symm.trans e))
  refine ⟨none, 0, 0, none, 0, 0, by rw [h1]; rfl, by rw [h2]; rfl, by rw [hc], ?_, ?_, hb⟩
  · rw [h1]; exact OwnI.nil _ _
  · rw [h2]; exact OwnW.nil _ _
set_option maxHeartbeats 1000000 in
set_option maxRecDepth 100000 in
theorem cReady (u : Value) (l : List Wt) (d : Int) (w : World) (hu : ShowW w u l) :
    Calls Try.prog 39 #[u, .int .i64 d] w (ReadyIs w l d) := by
  obtain ⟨ao, cap, rfl, hcap, hat⟩ := hu.form
  have HU := Lib.hid hu
  obtain ⟨c, hc⟩ : ∃ c, chkF l = c := ⟨_, rfl⟩
  have HC := Lib.hid hc
  clear hu hc
  go_enter Try.func39, Try.ntmps39
  go_wp2_with fail
  go_step3
  go_wp2_with fail
  refine (cCheck _ l c HC.out _ HU.out).mono ?_
  rintro e w1 ⟨rfl, hb1⟩
  by_cases hc0 : c = 0
  rotate_left
  · have hq : (c != 0) = true := by simpa using hc0
    go_wp2
    go_ret3
    exact ReadyIs.bare HC.out hc0 hb1
  subst hc0
  have hlen := chk_len HC.out
  go_wp2
  go_step3
  go_wp2
  go_loopw [4, 8] (fun v x wr => ∃ k : Nat, k ≤ l.length ∧ x = .int .i64 k ∧ Hid (OwnI w.heap.size wr v (ids (l.take k))) ∧ Hid (Done l d k) ∧ Below w.heap.size w wr) (fun _ x _ => l.length - (intOf x).toNat)
  case atStart => exact ⟨0, by omega, rfl, Lib.hid (OwnI.nil _ _), Lib.hid (Done.zero _ _), hb1⟩
  case round =>
    clear hb1
    obtain ⟨k, hk, rfl, HO, HD, hb⟩ := hrel
    obtain ⟨va, vc, rfl, _, _⟩ := own_shape HO.out
    rw [take_len hk] at HO ⊢
    by_cases hlt : k < l.length
    · obtain ⟨b1, o1, rfl, _, c2⟩ := hat k hlt
      have d2 := cell_keep hb c2
      obtain ⟨A, hA⟩ : ∃ A, (wt l k).due = A := ⟨_, rfl⟩
      rw [hA] at d2
      have HA := Lib.hid hA
      clear hA c2
      go_wp2
      go_loopw [4, 8] (fun v x wx => ∃ m : Nat, k ≤ m ∧ m ≤ l.length ∧ x = .int .i64 m ∧ Hid (OwnI w.heap.size wx v (ids (l.take m))) ∧ Hid (Done l d m) ∧ Below w.heap.size w wx) (fun _ x _ => l.length - (intOf x).toNat)
      case atStart => exact ⟨k, Nat.le_refl _, hk, rfl, HO, HD, hb⟩
      case round =>
        clear hb d2 HO HD hk
        obtain ⟨m, hkm, hm, rfl, HO, HD, hb⟩ := hrel
        obtain ⟨va2, vc2, rfl, _, _⟩ := own_shape HO.out
        rw [take_len hm] at HO ⊢
        by_cases hml : m < l.length
        · obtain ⟨b2, o2, e2, c1, c2⟩ := hat m hml
          cases e2
          have d1 := cell_keep hb c1
          have d2 := cell_keep hb c2
          have hlb : b1 < wr.heap.size := World.block_lt_of_cell? wr _ d1
          clear c1 c2
          by_cases hya : (wt l m).due = A
          · rw [hya] at d2
            by_cases hAd : A ≤ d
            · have HD2 : Hid (Done l d (m + 1)) := Lib.hid (HD.out.more (by rw [hya]; exact hAd))
              have HT : Hid (ids (l.take (m + 1)) = ids (l.take m) ++ [(wt l m).who]) := Lib.hid (take_more hml)
              have hnl := take_len (l := l) (k := m) (by omega)
              have HNL := Lib.hid hnl
              have hgt : ¬ d < A := by omega
              generalize (wt l m).who = x at d1 HT
              have hbz := hb.size
              clear hya hnl hAd
              go_wp2_with (at_builtin; refine wpList_appendI (by rfl) _ _ (by rfl) w.heap.size _ _ (ids (l.take m)) [x] (m + 1) (by rfl) (by rfl) (HO.out.below (below_one (Below.refl _ _) _)) (lit_i wr 3 [x] 1 rfl (by omega)) (by rw [HNL.out]; show m + 1 ≤ 1000; omega) (by rw [size_alloc]; omega) (by rw [List.length_append, HNL.out]; rfl) ?_)
              intro a3 c3 w3 hown3 hb3
              have HO3 : Hid (OwnI w.heap.size w3 (.slice a3 (m + 1) c3) (ids (l.take (m + 1)))) := Lib.hid (by rw [HT.out]; exact hown3)
              have HB3 := Lib.hid ((below_one hb _).trans hb3)
              clear hown3 hb3
              go_wp2
              go_roundw
              case rel => exact ⟨m + 1, by omega, by omega, by go_num, HO3, HD2, HB3.out⟩
              case measure => simp [intOf]; omega
            · have HCUT : Hid (cutN d l = m) := Lib.hid (cutN_is hm HD.out (fun _ => by rw [hya]; omega))
              have hgt : d < A := by omega
              have hcm : m < cap := by omega
              clear hAd
              have HQ : Hid (rdyI l d = ids (l.take m) ∧ rdyR l d = l.drop m) := Lib.hid (by have := rdy_ok (d := d) HC.out; rwa [HCUT.out] at this)
              have hRL : (l.drop m).length ≤ 256 := by rw [List.length_drop]; omega
              have HS : Hid (ShowW wr (.slice (some ⟨b1, o1 + m * 2, none⟩) (l.length - m) (cap - m)) (l.drop m)) := Lib.hid ((HU.out.below hb).rest hm _ _ rfl rfl)
              have HNR : Hid (l.length - m = (l.drop m).length) := Lib.hid (by rw [List.length_drop])
              go_wp2_with fail
              refine (cQueue _ _ (l.drop m) [] _ HS.out (ShowW.nil _) (by show (l.drop m).length + 0 ≤ 1000; omega)).mono ?_
              rintro e w4 ⟨ra, rc, rfl, hown, hb4⟩
              rw [List.append_nil] at hown ⊢
              have HOR := Lib.hid (hown.le hb.size)
              have HOI := Lib.hid (HO.out.below hb4)
              have HB4 := Lib.hid (below_then hb hb4)
              clear hown hb4
              go_wp2
              try rw [Exit.noGoto_ret]
              go_ret3
              exact ⟨_, m, _, ra, l.length - m, rc, by rw [HQ.out.1, take_len (by omega)], by rw [HQ.out.2, HNR.out], by rw [HC.out]; rfl, by rw [HQ.out.1]; exact HOI.out, by rw [HQ.out.2, HNR.out]; exact HOR.out, HB4.out⟩
          · have hkm2 : k < m := by
              rcases Nat.lt_or_ge k m with h | h
              · exact h
              · obtain rfl : k = m := by omega
                exact absurd HA.out hya
            obtain ⟨y, hy⟩ : ∃ y, (wt l m).due = y := ⟨_, rfl⟩
            rw [hy] at hya d2
            have hyq : (y == A) = false := by simpa using hya
            clear hy
            go_wp2
            go_roundw
            case rel => exact ⟨m, hm, rfl, HO, HD, hb⟩
            case measure => simp [intOf]; omega
        · have hme : m = l.length := by omega
          go_wp2
          go_roundw
          case rel => exact ⟨m, hm, rfl, HO, HD, hb⟩
          case measure => simp [intOf]; omega
    · have hke : k = l.length := by omega
      subst hke
      have HCUT : Hid (cutN d l = l.length) := Lib.hid (cutN_is (Nat.le_refl _) HD.out (fun h => absurd h (Nat.lt_irrefl _)))
      have HQ : Hid (rdyI l d = ids (l.take l.length) ∧ rdyR l d = []) := Lib.hid (by have := rdy_ok (d := d) HC.out; rwa [HCUT.out, List.drop_length] at this)
      have HTL : Hid ((ids (l.take l.length)).length = l.length) := Lib.hid (take_len (Nat.le_refl _))
      cases ao with
      | none =>
        go_wp2_with fail
        refine (cQueue _ _ [] [] _ ?hs (ShowW.nil _) (by simp)).mono ?_
        case hs => exact ShowW.none_left rfl (by omega)
        rintro e w4 ⟨ra, rc, rfl, hown, hb4⟩
        have HOR : Hid (OwnW w.heap.size w4 (.slice ra 0 rc) []) := Lib.hid (hown.le hb.size)
        have HOI := Lib.hid (HO.out.below hb4)
        have HB4 := Lib.hid (below_then hb hb4)
        clear hown hb4
        go_wp2
        try rw [Exit.noGoto_ret]
        go_ret3
        exact ⟨_, l.length, _, ra, 0, rc, by rw [HQ.out.1, HTL.out], by rw [HQ.out.2]; rfl, by rw [HC.out]; rfl, by rw [HQ.out.1]; exact HOI.out, by rw [HQ.out.2]; exact HOR.out, HB4.out⟩
      | some x =>
        by_cases hcc : cap = l.length
        · subst hcc
          go_wp2_with fail
          refine (cQueue _ _ [] [] _ ?hs (ShowW.nil _) (by simp)).mono ?_
          case hs => exact ShowW.none_left rfl (by omega)
          rintro e w4 ⟨ra, rc, rfl, hown, hb4⟩
          have HOR : Hid (OwnW w.heap.size w4 (.slice ra 0 rc) []) := Lib.hid (hown.le hb.size)
          have HOI := Lib.hid (HO.out.below hb4)
          have HB4 := Lib.hid (below_then hb hb4)
          clear hown hb4
          go_wp2
          try rw [Exit.noGoto_ret]
          go_ret3
          exact ⟨_, l.length, _, ra, 0, rc, by rw [HQ.out.1, HTL.out], by rw [HQ.out.2]; rfl, by rw [HC.out]; rfl, by rw [HQ.out.1]; exact HOI.out, by rw [HQ.out.2]; exact HOR.out, HB4.out⟩
        · have hcl : l.length < cap := by omega
          go_wp2_with fail
          refine (cQueue _ _ [] [] _ ?hs (ShowW.nil _) (by simp)).mono ?_
          case hs => exact ShowW.none_left rfl (by omega)
          rintro e w4 ⟨ra, rc, rfl, hown, hb4⟩
          have HOR : Hid (OwnW w.heap.size w4 (.slice ra 0 rc) []) := Lib.hid (hown.le hb.size)
          have HOI := Lib.hid (HO.out.below hb4)
          have HB4 := Lib.hid (below_then hb hb4)
          clear hown hb4
          go_wp2
          try rw [Exit.noGoto_ret]
          go_ret3
          exact ⟨_, l.length, _, ra, 0, rc, by rw [HQ.out.1, HTL.out], by rw [HQ.out.2]; rfl, by rw [HC.out]; rfl, by rw [HQ.out.1]; exact HOI.out, by rw [HQ.out.2]; exact HOR.out, HB4.out⟩

set_option maxHeartbeats 1000000 in
set_option maxRecDepth 100000 in
theorem rReady (u : Value) (l : List Wt) (d : Int) (w : World) (hu : ShowW w u l) :
    Calls Try.prog 52 #[u, .int .i64 d] w (ReadyIs w l d) := by
  obtain ⟨ao, cap, rfl, hcap, hat⟩ := hu.form
  have HU := Lib.hid hu
  obtain ⟨c, hc⟩ : ∃ c, chkF l = c := ⟨_, rfl⟩
  have HC := Lib.hid hc
  clear hu hc
  go_enter Try.func52, Try.ntmps52
  go_wp2_with fail
  refine (rCheck _ l c HC.out _ HU.out).mono ?_
  rintro e w1 ⟨rfl, hb1⟩
  by_cases hc0 : c = 0
  rotate_left
  · have hq : (c != 0) = true := by simpa using hc0
    go_wp2
    go_ret3
    exact ReadyIs.bare HC.out hc0 hb1
  subst hc0
  have hlen := chk_len HC.out
  go_wp2
  go_loopw [8, 9] (fun v x wr => ∃ m : Nat, m ≤ l.length ∧ x = .int .i64 m ∧ Hid (OwnI w.heap.size wr v (ids (l.take m))) ∧ Hid (Done l d m) ∧ Below w.heap.size w wr) (fun _ x _ => l.length - (intOf x).toNat)
  case atStart => exact ⟨0, by omega, rfl, Lib.hid (OwnI.nil _ _), Lib.hid (Done.zero _ _), hb1⟩
  case round =>
    clear hb1
    obtain ⟨m, hm, rfl, HO, HD, hb⟩ := hrel
    obtain ⟨va2, vc2, rfl, _, _⟩ := own_shape HO.out
    rw [take_len hm] at HO ⊢
    by_cases hml : m < l.length
    · obtain ⟨b1, o1, rfl, c1, c2⟩ := hat m hml
      have d1 := cell_keep hb c1
      have d2 := cell_keep hb c2
      have hlb : b1 < wr.heap.size := World.block_lt_of_cell? wr _ d1
      obtain ⟨A, hya⟩ : ∃ A, (wt l m).due = A := ⟨_, rfl⟩
      rw [hya] at d2
      clear c1 c2
      by_cases hAd : A ≤ d
      · have HD2 : Hid (Done l d (m + 1)) := Lib.hid (HD.out.more (by rw [hya]; exact hAd))
        have HT : Hid (ids (l.take (m + 1)) = ids (l.take m) ++ [(wt l m).who]) := Lib.hid (take_more hml)
        have hnl := take_len (l := l) (k := m) (by omega)
        have HNL := Lib.hid hnl
        generalize (wt l m).who = x at d1 HT
        have hbz := hb.size
        clear hya hnl
        go_wp2_with (at_builtin; refine wpList_appendI (by rfl) _ _ (by rfl) w.heap.size _ _ (ids (l.take m)) [x] (m + 1) (by rfl) (by rfl) (HO.out.below (below_one (Below.refl _ _) _)) (lit_i wr 3 [x] 1 rfl (by omega)) (by rw [HNL.out]; show m + 1 ≤ 1000; omega) (by rw [size_alloc]; omega) (by rw [List.length_append, HNL.out]; rfl) ?_)
        intro a3 c3 w3 hown3 hb3
        have HO3 : Hid (OwnI w.heap.size w3 (.slice a3 (m + 1) c3) (ids (l.take (m + 1)))) := Lib.hid (by rw [HT.out]; exact hown3)
        have HB3 := Lib.hid ((below_one hb _).trans hb3)
        clear hown3 hb3
        go_wp2
        go_roundw
        case rel => exact ⟨m + 1, by omega, by go_num, HO3, HD2, HB3.out⟩
        case measure => simp [intOf]; omega
      · have HCUT : Hid (cutN d l = m) := Lib.hid (cutN_is hm HD.out (fun _ => by rw [hya]; omega))
        have hcm : m < cap := by omega
        have HQ : Hid (rdyI l d = ids (l.take m) ∧ rdyR l d = l.drop m) := Lib.hid (by have := rdy_ok (d := d) HC.out; rwa [HCUT.out] at this)
        have hRL : (l.drop m).length ≤ 256 := by rw [List.length_drop]; omega
        have HS : Hid (ShowW wr (.slice (some ⟨b1, o1 + m * 2, none⟩) (l.length - m) (cap - m)) (l.drop m)) := Lib.hid ((HU.out.below hb).rest hm _ _ rfl rfl)
        have HNR : Hid (l.length - m = (l.drop m).length) := Lib.hid (by rw [List.length_drop])
        go_wp2_with fail
        refine (rCopy _ (l.drop m) _ HS.out (by omega)).mono ?_
        rintro e w4 ⟨ra, rc, rfl, hown, hb4⟩
        have HOR : Hid (OwnW w.heap.size w4 (.slice ra (l.length - m) rc) (l.drop m)) := Lib.hid (by rw [HNR.out]; exact hown.le hb.size)
        have HOI := Lib.hid (HO.out.below hb4)
        have HB4 := Lib.hid (below_then hb hb4)
        clear hown hb4
        go_wp2
        try rw [Exit.noGoto_ret]
        go_ret3
        exact ⟨_, m, _, ra, (l.length - m), rc, by rw [HQ.out.1, take_len (by omega)], by rw [HQ.out.2, HNR.out]; try rfl, by rw [HC.out]; rfl, by rw [HQ.out.1]; exact HOI.out, by rw [HQ.out.2]; exact HOR.out, HB4.out⟩
    · have hke : m = l.length := by omega
      subst hke
      have HCUT : Hid (cutN d l = l.length) := Lib.hid (cutN_is (Nat.le_refl _) HD.out (fun h => absurd h (Nat.lt_irrefl _)))
      have HQ : Hid (rdyI l d = ids (l.take l.length) ∧ rdyR l d = []) := Lib.hid (by have := rdy_ok (d := d) HC.out; rwa [HCUT.out, List.drop_length] at this)
      have HTL : Hid ((ids (l.take l.length)).length = l.length) := Lib.hid (take_len (Nat.le_refl _))
      cases ao with
      | none =>
        go_wp2_with fail
        refine (rCopy _ ([] : List Wt) _ ?hs (by simp)).mono ?_
        case hs => exact ShowW.none_left rfl (by omega)
        rintro e w4 ⟨ra, rc, rfl, hown, hb4⟩
        have HOR : Hid (OwnW w.heap.size w4 (.slice ra 0 rc) ([] : List Wt)) := Lib.hid (hown.le hb.size)
        have HOI := Lib.hid (HO.out.below hb4)
        have HB4 := Lib.hid (below_then hb hb4)
        clear hown hb4
        go_wp2
        try rw [Exit.noGoto_ret]
        go_ret3
        exact ⟨_, l.length, _, ra, 0, rc, by rw [HQ.out.1, HTL.out], by rw [HQ.out.2]; try rfl, by rw [HC.out]; rfl, by rw [HQ.out.1]; exact HOI.out, by rw [HQ.out.2]; exact HOR.out, HB4.out⟩
      | some x =>
        by_cases hcc : cap = l.length
        · subst hcc
          go_wp2_with fail
          refine (rCopy _ ([] : List Wt) _ ?hs (by simp)).mono ?_
          case hs => exact ShowW.none_left rfl (by omega)
          rintro e w4 ⟨ra, rc, rfl, hown, hb4⟩
          have HOR : Hid (OwnW w.heap.size w4 (.slice ra 0 rc) ([] : List Wt)) := Lib.hid (hown.le hb.size)
          have HOI := Lib.hid (HO.out.below hb4)
          have HB4 := Lib.hid (below_then hb hb4)
          clear hown hb4
          go_wp2
          try rw [Exit.noGoto_ret]
          go_ret3
          exact ⟨_, l.length, _, ra, 0, rc, by rw [HQ.out.1, HTL.out], by rw [HQ.out.2]; try rfl, by rw [HC.out]; rfl, by rw [HQ.out.1]; exact HOI.out, by rw [HQ.out.2]; exact HOR.out, HB4.out⟩
        · have hcl : l.length < cap := by omega
          go_wp2_with fail
          refine (rCopy _ ([] : List Wt) _ ?hs (by simp)).mono ?_
          case hs => exact ShowW.none_left rfl (by omega)
          rintro e w4 ⟨ra, rc, rfl, hown, hb4⟩
          have HOR : Hid (OwnW w.heap.size w4 (.slice ra 0 rc) ([] : List Wt)) := Lib.hid (hown.le hb.size)
          have HOI := Lib.hid (HO.out.below hb4)
          have HB4 := Lib.hid (below_then hb hb4)
          clear hown hb4
          go_wp2
          try rw [Exit.noGoto_ret]
          go_ret3
          exact ⟨_, l.length, _, ra, 0, rc, by rw [HQ.out.1, HTL.out], by rw [HQ.out.2]; try rfl, by rw [HC.out]; rfl, by rw [HQ.out.1]; exact HOI.out, by rw [HQ.out.2]; exact HOR.out, HB4.out⟩
end Go.Proofs.Ytnnpclknlccmiaa
