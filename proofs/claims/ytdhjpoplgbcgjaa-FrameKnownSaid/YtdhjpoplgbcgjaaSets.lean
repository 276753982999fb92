/-
  FrameSets: Set, program against document's answer; the argument stays, also when the answer is written.
-/
import Derived.Test.YtdhjpoplgbcgjaaTables
set_option linter.unusedVariables false
set_option linter.unusedSimpArgs false
namespace Go.Proofs.Ytdhjpoplgbcgjaa
open Go Go.RowKit

set_option maxHeartbeats 8000000 in
set_option maxRecDepth 100000 in
theorem walkSets0 (page k o ch : Int) (cap : Nat) (W : World) (hs : ShowP W (.slice none 0 cap) []) :
    Calls Try.prog 4 #[.slice none 0 cap, .int .i64 page, .agg #[.int .i64 k, .int .i64 o, .int .i64 ch]] W fun e W' => e = .returned (.bool true) ∧ Below W.heap.size W W' := by
  have HS := Lib.hid hs
  have HH0 := Lib.hid (heap_new W (.cells #[.int .i64 k, .int .i64 o, .int .i64 ch] 31))
  have hb0 : Below W.heap.size W (W.alloc (.cells #[.int .i64 k, .int .i64 o, .int .i64 ch] 31)) := below_one (Below.refl _ _) _
  have HN : Hid (Sets [] page ⟨k, o, ch⟩ none 50) := Lib.hid (.table (vB_no (by kernel_rfl)))
  clear hs
  go_enter Try.func4, Try.ntmps4
  go_wp2_with fail
  refine (cSetNo _ [] page k o ch _ 50 HN.out (ShowP.nil _)).mono ?_
  rintro e w2 ⟨rfl, hb⟩
  have HH2 := Lib.hid (keep_block HH0.out hb)
  obtain ⟨g0, g1, g2⟩ := self3 HH2.out
  have hb2 := below_then hb0 hb
  clear hb hb0
  go_wp2_with fail
  refine (rSetNo _ [] page k o ch _ 50 HN.out (HS.out.below hb2)).mono ?_
  rintro e w3 ⟨rfl, hb⟩
  have hb3 := below_then hb2 hb
  clear hb g0 g1 g2
  go_wp2_with fail
  refine (cSameR _ _ [] [] _ (ShowP.nil _) (ShowP.nil _)).mono ?_
  rintro e w4 ⟨rfl, hb⟩
  rw [decide_eq_true rfl]
  have hb4 := below_then hb3 hb
  clear hb
  go_wp2_with fail
  refine (cSameR _ _ [] [] _ (ShowP.nil _) (HS.out.below hb4)).mono ?_
  rintro e w5 ⟨rfl, hb⟩
  rw [decide_eq_true rfl]
  have hb5 := below_then hb4 hb
  clear hb
  go_wp2
  go_loopw [12] (fun x wr => x = .int .i64 0 ∧ Below W.heap.size W wr) (fun _ _ => 0)
  case atStart => exact ⟨rfl, hb5⟩
  case round =>
    obtain ⟨rfl, hb6⟩ := hrel
    go_wp2_with fail
    refine (cSameR _ _ [] [] _ (ShowP.nil _) (HS.out.below hb6)).mono ?_
    rintro e w6 ⟨rfl, hb⟩
    rw [decide_eq_true rfl]
    have hb7 := below_then hb6 hb
    go_wp2_with fail
    refine (works _).mono ?_
    rintro e w7 ⟨rfl, hb⟩
    have hb8 := below_then hb7 hb
    go_wp2
    go_ret
    exact ⟨rfl, hb8⟩
set_option maxHeartbeats 8000000 in
set_option maxRecDepth 100000 in
theorem walkSets (u : Value) (l : List Pg) (page : Int) (v : Value) (hd : Pg) (W : World) (hs : ShowP W u l) (hv : v = hd.agg) :
    Calls Try.prog 4 #[u, .int .i64 page, v] W fun e W' => e = .returned (.bool true) ∧ Below W.heap.size W W' := by
  subst hv
  obtain ⟨k, o, ch⟩ := hd
  unfold Pg.agg
  dsimp only
  have hs0 := hs
  obtain ⟨ao, cap, rfl, hcap, hat⟩ := hs.form
  cases ao with
  | none =>
    have h0 : l = [] := by
      cases l with
      | nil => rfl
      | cons x l => obtain ⟨b, o, e, _⟩ := hat 0 (by simp); cases e
    subst h0
    exact walkSets0 page k o ch cap W hs
  | some ad =>
  obtain ⟨m, hm, hml, hm200⟩ := cut200 l.length
  obtain ⟨L, rfl, hsL⟩ := shows_cut hs0 hml
  have HS := Lib.hid hsL
  clear hs hs0 hat
  have HH0 := Lib.hid (heap_new W (.cells #[.int .i64 k, .int .i64 o, .int .i64 ch] 31))
  have hb0 : Below W.heap.size W (W.alloc (.cells #[.int .i64 k, .int .i64 o, .int .i64 ch] 31)) := below_one (Below.refl _ _) _
  obtain ⟨i0, hi, hz0, hz1, hz2⟩ := info_parts infoP
  have HNW : Hid (∀ j u, (pgs L)[j]? = some u → W.cell? (ad.add j) = some u) := Lib.hid (fun j u hj => by
    obtain ⟨hl, ao', cap', hv, hc, hx⟩ := hsL
    cases hv
    have hlt := (List.getElem?_eq_some_iff.1 hj).1
    obtain ⟨b', o', ha, h2⟩ := hx (by omega)
    cases ha
    have := h2 j (by omega)
    rw [hj] at this
    rw [show (⟨b', o', none⟩ : Addr).add j = ⟨b', o' + j, none⟩ by
          by_cases hj0 : j = 0
          · subst hj0; rfl
          · simp [Addr.add, hj0], this])
  clear hsL
  go_enter Try.func4, Try.ntmps4
  go_wp2_with (at_builtin; refine wpList_append_own _ (by rfl) _ _ 22 (by rfl) (W.alloc (.cells #[.int .i64 k, .int .i64 o, .int .i64 ch] 31)).heap.size 31 i0 _ 3 24 Try.underlying22 hi hz0 hz1 hz2 (by rfl) (by decide) _ 0 [] (by rfl) (World.ownsRow_nil _ _ _ _) ad L.length cap (pgs L) (by rfl) ?qc1 ?qc2 ?qc3 ?qc4 ?qc5 ?qc6 ?_)
  case qc1 => exact pgs_length L
  case qc2 => exact fun j u hj => cell_keep hb0 (HNW.out j u hj)
  case qc3 => exact pgs_one L
  case qc4 => rw [Nat.zero_add]; unfold maxLen; omega
  case qc5 => rw [Nat.zero_add]; omega
  case qc6 => exact Nat.le_refl _
  intro v' w1 hown hgrow hnil
  try rw [Nat.zero_add] at hown
  try rw [List.nil_append] at hown
  have hin : ShowP w1 v' L := Shows.ofOwns hown
  have hb1' : Below (W.alloc (.cells #[.int .i64 k, .int .i64 o, .int .i64 ch] 31)).heap.size (W.alloc (.cells #[.int .i64 k, .int .i64 o, .int .i64 ch] 31)) w1 := (Below.refl _ _).grown hgrow (Nat.le_refl _) (fun k hk => by simp [Value.ownBlock] at hk)
  have HH1 := Lib.hid (keep_block HH0.out hb1')
  have HB1 := Lib.hid (below_then hb0 hb1')
  have HIN := Lib.hid hin
  obtain ⟨bo, bcap, rfl, _, _⟩ := hin.form
  clear hown hgrow hnil hin hb1' hb0
  obtain ⟨g0, g1, g2⟩ := self3 HH1.out
  rcases sets_total L page ⟨k, o, ch⟩ with ⟨c, hc0, hno⟩ | ⟨p, hyes⟩
  · have HN := Lib.hid hno
    clear hno
    go_wp2_with fail
    refine (cSetNo _ L page k o ch _ c HN.out HIN.out).mono ?_
    rintro e w2 ⟨rfl, hb2⟩
    have HH2 := Lib.hid (keep_block HH1.out hb2)
    clear g0 g1 g2
    obtain ⟨g0, g1, g2⟩ := self3 HH2.out
    go_wp2_with fail
    refine (rSetNo _ L page k o ch _ c HN.out (HS.out.below (below_then HB1.out hb2))).mono ?_
    rintro e w3 ⟨rfl, hb⟩
    have hb3 := below_then hb2 hb
    clear hb g0 g1 g2 hb2
    go_wp2_with fail
    refine (cSameR _ _ [] [] _ (ShowP.nil _) (ShowP.nil _)).mono ?_
    rintro e w4 ⟨rfl, hb⟩
    rw [decide_eq_true rfl]
    have hb4 := below_then hb3 hb
    clear hb hb3
    go_wp2_with fail
    refine (cSameR _ _ L L _ (HIN.out.below hb4) (HS.out.below (below_then HB1.out hb4))).mono ?_
    rintro e w5 ⟨rfl, hb⟩
    rw [decide_eq_true rfl]
    have hb5 := below_then hb4 hb
    clear hb hb4
    go_wp2
    go_loopw [12] (fun x wr => x = .int .i64 0 ∧ Below w1.heap.size w1 wr) (fun _ _ => 0)
    case atStart => exact ⟨rfl, hb5⟩
    case round =>
      clear hb5
      obtain ⟨rfl, hb6⟩ := hrel
      go_wp2_with fail
      refine (cSameR _ _ L L _ (HIN.out.below hb6) (HS.out.below (below_then HB1.out hb6))).mono ?_
      rintro e w6 ⟨rfl, hb⟩
      rw [decide_eq_true rfl]
      have hb7 := below_then hb6 hb
      clear hb
      go_wp2_with fail
      refine (works _).mono ?_
      rintro e w7 ⟨rfl, hb⟩
      have hb8 := below_then hb7 hb
      go_wp2
      go_ret
      exact ⟨rfl, below_then HB1.out hb8⟩
  · have HY := Lib.hid hyes
    obtain ⟨M, hM⟩ : ∃ M, setF L p ⟨k, o, ch⟩ = M := ⟨_, rfl⟩
    have HM := Lib.hid hM
    have HML : Hid (M.length = L.length) := Lib.hid (by rw [← hM]; exact setF_length _ _ _)
    clear hyes hM
    go_wp2_with fail
    refine (cSetYes _ L page k o ch _ p HY.out HIN.out).mono ?_
    rintro e w2 ⟨G, cp, rfl, hG, hcp, ht, hb2⟩
    rw [HM.out] at ht
    have HT2 := Lib.hid ht
    have HSM2 : Hid (ShowP w2 (.slice (some ⟨G, 0, none⟩) L.length cp) M) := Lib.hid (by
      rw [← HML.out] at ht hcp ⊢
      exact ht.shows hcp)
    have HH2 := Lib.hid (keep_block HH1.out hb2)
    clear g0 g1 g2 ht
    obtain ⟨g0, g1, g2⟩ := self3 HH2.out
    go_wp2_with fail
    refine (rSetYes _ L page k o ch _ p HY.out (HS.out.below (below_then HB1.out hb2))).mono ?_
    rintro e w3 ⟨G3, cp3, rfl, hG3, hcp3, ht3, hb⟩
    rw [HM.out] at ht3
    have HSM3 : Hid (ShowP w3 (.slice (some ⟨G3, 0, none⟩) L.length cp3) M) := Lib.hid (by
      rw [← HML.out] at ht3 hcp3 ⊢
      exact ht3.shows hcp3)
    have HT3 := Lib.hid (HT2.out.below hb)
    have HSM23 := Lib.hid (HSM2.out.below hb)
    have hb3 := below_then hb2 hb
    clear hb g0 g1 g2 hb2 ht3
    go_wp2_with fail
    refine (cSameR _ _ M M _ HSM23.out HSM3.out).mono ?_
    rintro e w4 ⟨rfl, hb⟩
    rw [decide_eq_true rfl]
    have HT4 := Lib.hid (HT3.out.below hb)
    have hb4 := below_then hb3 hb
    clear hb hb3
    go_wp2_with fail
    refine (cSameR _ _ L L _ (HIN.out.below hb4) (HS.out.below (below_then HB1.out hb4))).mono ?_
    rintro e w5 ⟨rfl, hb⟩
    rw [decide_eq_true rfl]
    have HT5 := Lib.hid (HT4.out.below hb)
    have hb5 := below_then hb4 hb
    clear hb hb4
    go_wp2
    go_loopw [12] (fun x wr => ∃ i : Nat, i ≤ L.length ∧ x = .int .i64 i ∧ Hid (∃ f, TabIs wr G L.length f) ∧ Below w1.heap.size w1 wr) (fun x _ => L.length - (intOf x).toNat)
    case atStart => exact ⟨0, Nat.zero_le _, rfl, Lib.hid ⟨_, HT5.out⟩, hb5⟩
    case round =>
      clear hb5
      obtain ⟨i, hi, rfl, HTf, hb6⟩ := hrel
      by_cases hlt : i < L.length
      · obtain ⟨f, htf⟩ := HTf.out
        have c0 := (htf.cells hlt).1
        have f0 := htf.frozen (i * 3)
        have HTN := Lib.hid (htf.setKind i 9)
        have HBN := Lib.hid (hb6.setCell (p := ⟨G, i * 3, none⟩) hG (.int .i64 9))
        clear htf
        go_wp2
        go_roundw
        case rel => exact ⟨i + 1, by omega, by go_num, Lib.hid ⟨_, HTN.out⟩, HBN.out⟩
        case measure => simp [intOf]; omega
      · obtain rfl : i = L.length := by omega
        go_wp2_with fail
        refine (cSameR _ _ L L _ (HIN.out.below hb6) (HS.out.below (below_then HB1.out hb6))).mono ?_
        rintro e w6 ⟨rfl, hb⟩
        rw [decide_eq_true rfl]
        have hb7 := below_then hb6 hb
        clear hb
        go_wp2_with fail
        refine (works _).mono ?_
        rintro e w7 ⟨rfl, hb⟩
        have hb8 := below_then hb7 hb
        go_wp2
        go_ret
        exact ⟨rfl, below_then HB1.out hb8⟩
end Go.Proofs.Ytdhjpoplgbcgjaa
