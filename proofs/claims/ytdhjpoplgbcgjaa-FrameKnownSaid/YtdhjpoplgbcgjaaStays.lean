/-
  FrameStays: what Set answers may be; pages that are not of the block are as they were; set again it is the same.
-/
import Derived.Test.YtdhjpoplgbcgjaaTables
import Derived.IntWalk
set_option linter.unusedVariables false
set_option linter.unusedSimpArgs false
namespace Go.Proofs.Ytdhjpoplgbcgjaa
open Go Go.RowKit

theorem sets_again {l : List Pg} {page : Int} {hd : Pg} {p : Nat} (h : Sets l page hd (some p) 0) :
    page = p ∧ hd.ok = true ∧ p + hd.sz ≤ l.length ∧ Valid (setF l p hd) ∧ Sets (setF l p hd) page hd (some p) 0 ∧ setF (setF l p hd) p hd = setF l p hd ∧ headF (setF l p hd) (((p + hd.sz - 1 : Nat)) : Int) = ((p : Int), 0) := by
  cases h with
  | set p hv ha hp hf hm hlt =>
    have hv2 := set_valid hv ha hf hm hlt
    have hz := hd.sz_pos
    have hb : beg (setF l p hd) p = p := set_beg ha hf hm (Nat.le_refl _) (by omega)
    refine ⟨hp, ha, hf, hv2, .set p hv2 ha hp (by rw [setF_length]; exact hf) hm ?_, set_again, ?_⟩
    · rw [hb, (set_self ha hf hm).1]
      exact Int.le_refl _
    · rw [head_in hv2 (by rw [setF_length]; omega), set_beg ha hf hm (by omega) (by omega)]
theorem set_out {l : List Pg} {p : Nat} {hd : Pg} {i : Nat} (hi : i < l.length) (h : i < p ∨ p + hd.sz ≤ i) : pg (setF l p hd) i = pg l i := by
  have hz := hd.sz_pos
  rw [setF_at l p hd i hi, if_neg (by omega), if_neg (by omega)]
set_option maxHeartbeats 8000000 in
set_option maxRecDepth 100000 in
theorem walkStays (u : Value) (l : List Pg) (page : Int) (v : Value) (hd : Pg) (W : World) (hs : ShowP W u l) (hv : v = hd.agg) :
    Calls Try.prog 5 #[u, .int .i64 page, v] W fun e W' => e = .returned (.bool true) ∧ Below W.heap.size W W' := by
  subst hv
  obtain ⟨k, o, ch⟩ := hd
  unfold Pg.agg
  dsimp only
  have hs0 := hs
  obtain ⟨ao, cap, rfl, hcap, hat⟩ := hs.form
  obtain ⟨m, hm, hml, hm200⟩ := cut200 l.length
  obtain ⟨L, rfl, hsL⟩ := shows_cut hs0 hml
  have HS := Lib.hid hsL
  clear hs hs0 hat
  have HH0 := Lib.hid (heap_new W (.cells #[.int .i64 k, .int .i64 o, .int .i64 ch] 31))
  have hb0 : Below W.heap.size W (W.alloc (.cells #[.int .i64 k, .int .i64 o, .int .i64 ch] 31)) := below_one (Below.refl _ _) _
  rcases sets_total L page ⟨k, o, ch⟩ with ⟨c, hc0, hno⟩ | ⟨p, hyes⟩
  · have HN := Lib.hid hno
    clear hno hsL
    have hcq : (c != 0) = true := by simpa using hc0
    go_enter Try.func5, Try.ntmps5
    go_wp2_with fail
    refine (works _).mono ?_
    rintro e w1 ⟨rfl, hb⟩
    have HH1 := Lib.hid (keep_block HH0.out hb)
    obtain ⟨g0, g1, g2⟩ := self3 HH1.out
    have hb1 := below_then hb0 hb
    clear hb hb0
    go_wp2_with fail
    refine (cSetNo _ L page k o ch _ c HN.out (HS.out.below hb1)).mono ?_
    rintro e w2 ⟨rfl, hb⟩
    have hb2 := below_then hb1 hb
    go_wp2
    go_ret
    exact ⟨rfl, hb2⟩
  · obtain ⟨_, _, hsl, _, hatL⟩ := hsL.form
    cases hsl
    have HAT := Lib.hid hatL
    clear hsL hatL
    have HY := Lib.hid hyes
    obtain ⟨rfl, ha, hf, hvM, hsM, hag, hhd⟩ := sets_again hyes
    have ho := (Pg.ok_iff.1 ha).1
    dsimp only at ho
    obtain ⟨S, hS⟩ : ∃ S : Nat, (2 : Int) ^ o.toNat = (S : Int) := ⟨2 ^ o.toNat, by simp⟩
    have hsz := sz_hd (k := k) (c := ch) hS
    have hSS : 1 ≤ S ∧ S ≤ 1024 := by
      rw [← hsz]
      exact ⟨Pg.sz_pos _, Pg.sz_le ha⟩
    obtain ⟨ho0, ho1⟩ := ho
    have HOUT := Lib.hid (fun i hi h => set_out (l := L) (p := p) (hd := ⟨k, o, ch⟩) (i := i) hi h)
    rw [hsz] at hf hhd HOUT
    have hMl := setF_length L p ⟨k, o, ch⟩
    have HY2 : Hid (Sets L p ⟨k, o, ch⟩ (some p) 0 ∧ True) := Lib.hid ⟨HY.out, trivial⟩
    obtain ⟨M, hM⟩ : ∃ M, setF L p ⟨k, o, ch⟩ = M := ⟨_, rfl⟩
    have HM := Lib.hid hM
    rw [hM] at hvM hsM hag hhd hMl HOUT
    have HML := Lib.hid hMl
    have HSM := Lib.hid hsM
    have HAG := Lib.hid hag
    have HHD := Lib.hid hhd
    have HK := Lib.hid (chk_ok hvM)
    clear hyes ha hvM hsM hag hhd hMl hM hsz
    go_enter Try.func5, Try.ntmps5
    go_wp2_with fail
    refine (works _).mono ?_
    rintro e w1 ⟨rfl, hb⟩
    have HH1 := Lib.hid (keep_block HH0.out hb)
    obtain ⟨g0, g1, g2⟩ := self3 HH1.out
    have hb1 := below_then hb0 hb
    clear hb hb0
    go_wp2_with fail
    refine (cSetYes _ L p k o ch _ p HY.out (HS.out.below hb1)).mono ?_
    rintro e w2 ⟨G, cp, rfl, hG, hcp, ht, hb⟩
    rw [HM.out] at ht
    have HT2 := Lib.hid ht
    have HSM2 : Hid (ShowP w2 (.slice (some ⟨G, 0, none⟩) L.length cp) M) := Lib.hid (by
      rw [← HML.out] at ht hcp ⊢
      exact ht.shows hcp)
    have hb2 := below_then hb1 hb
    have HH2 := Lib.hid (keep_block HH1.out hb)
    clear g0 g1 g2 hb ht hG
    obtain ⟨g0, g1, g2⟩ := self3 HH2.out
    have hcall := cSetYes _ M p k o ch _ p HSM.out HSM2.out
    rw [HML.out, HAG.out] at hcall
    go_wp2_with fail
    refine hcall.mono ?_
    rintro e w3 ⟨G3, cp3, rfl, hG3, hcp3, ht3, hb⟩
    have HSM3 : Hid (ShowP w3 (.slice (some ⟨G3, 0, none⟩) L.length cp3) M) := Lib.hid (by
      rw [← HML.out] at ht3 hcp3 ⊢
      exact ht3.shows hcp3)
    have HT3 := Lib.hid (HT2.out.below hb)
    have HSM23 := Lib.hid (HSM2.out.below hb)
    have hb3 := below_then hb2 hb
    have HH3 := Lib.hid (keep_block HH2.out hb)
    clear g0 g1 g2 hb ht3 hG3 hcall
    obtain ⟨g0, g1, g2⟩ := self3 HH3.out
    go_wp2_with fail
    refine (cCheck _ M 0 HK.out _ HSM23.out).mono ?_
    rintro e w4 ⟨rfl, hb⟩
    have HT4 := Lib.hid (HT3.out.below hb)
    have HSM24 := Lib.hid (HSM23.out.below hb)
    have HSM34 := Lib.hid (HSM3.out.below hb)
    have hb4 := below_then hb3 hb
    have HH4 := Lib.hid (keep_block HH3.out hb)
    clear g0 g1 g2 hb
    obtain ⟨g0, g1, g2⟩ := self3 HH4.out
    go_wp2_with fail
    refine (cSame _ _ M M _ HSM24.out HSM34.out).mono ?_
    rintro e w5 ⟨rfl, hb⟩
    rw [decide_eq_true rfl]
    have HT5 := Lib.hid (HT4.out.below hb)
    have HSM25 := Lib.hid (HSM24.out.below hb)
    have hb5 := below_then hb4 hb
    have HH5 := Lib.hid (keep_block HH4.out hb)
    clear g0 g1 g2 hb hb1 hb2 hb3 hb4
    obtain ⟨g0, g1, g2⟩ := self3 HH5.out
    go_wp2
    go_loopw [11] (fun x wr => ∃ i : Nat, i ≤ L.length ∧ x = .int .i64 i ∧ Below w5.heap.size w5 wr) (fun x _ => L.length - (intOf x).toNat)
    case atStart => exact ⟨0, Nat.zero_le _, rfl, Below.refl _ _⟩
    case round =>
      obtain ⟨i, hi, rfl, hb⟩ := hrel
      have HHr := Lib.hid (keep_block HH5.out hb)
      clear g0 g1 g2
      obtain ⟨g0, g1, g2⟩ := self3 HHr.out
      by_cases hlt : i < L.length
      · obtain ⟨t0, t1, t2⟩ := HT5.out.cells (show i < L.length from hlt)
        replace t0 := cell_keep hb t0
        replace t1 := cell_keep hb t1
        replace t2 := cell_keep hb t2
        obtain ⟨b', o', e', x0, x1, x2⟩ := HAT.out i hlt
        have hbw := below_then hb5 hb
        replace x0 := cell_keep hbw x0
        replace x1 := cell_keep hbw x1
        replace x2 := cell_keep hbw x2
        cases e'
        have HO := Lib.hid (HOUT.out i hlt)
        clear hbw
        by_cases hin : p ≤ i ∧ i < p + S
        · obtain ⟨hin1, hin2⟩ := hin
          clear t0 t1 t2 x0 x1 x2 HO
          have hd1 : decide (i < p) = false := decide_eq_false (by omega)
          have hd2 : decide ((p : Int) + (S : Int) ≤ (i : Int)) = false := decide_eq_false (by omega)
          have hw1 : IntKind.i64.wrap ((p : Int) + (S : Int)) = (p : Int) + (S : Int) := IntWalk.i64_in _ (by omega)
          have hw2 : IntKind.i64.wrap (S : Int) = (S : Int) := IntWalk.i64_in _ (by omega)
          go_wp2
          try go_quiet (fail)
          try go_wp2
          clear hw1 hw2
          go_roundw
          case rel => exact ⟨i + 1, by omega, by go_num, by first | exact hb | exact below_drewN hb _⟩
          case measure => simp [intOf]; omega
        · have heq0 := HO.out (by omega)
          rw [heq0] at t0 t1 t2
          clear heq0 HO
          generalize pg L i = q at t0 t1 t2 x0 x1 x2
          have heq : ∀ w', (Op.equalIn 10000 31 (.agg #[.int .i64 q.kind, .int .i64 q.order, .int .i64 q.cache]) (.agg #[.int .i64 q.kind, .int .i64 q.order, .int .i64 q.cache])).run Try.prog w' = .ok true w' := fun w' => eqinIs (decide_eq_true rfl)
          have hgd := guardP
          have hor : i < p ∨ (p ≤ i ∧ p + S ≤ i) := by omega
          clear hin
          rcases hor with h1 | ⟨h1, h2⟩
          · go_wp2
            try go_quiet (fail)
            try go_wp2
            go_roundw
            case rel => exact ⟨i + 1, by omega, by go_num, by first | exact hb | exact below_drewN hb _⟩
            case measure => simp [intOf]; omega
          · have hd1 : decide (i < p) = false := decide_eq_false (by omega)
            have hd2 : decide ((p : Int) + (S : Int) ≤ (i : Int)) = true := decide_eq_true (by omega)
            have hw1 : IntKind.i64.wrap ((p : Int) + (S : Int)) = (p : Int) + (S : Int) := IntWalk.i64_in _ (by omega)
            have hw2 : IntKind.i64.wrap (S : Int) = (S : Int) := IntWalk.i64_in _ (by omega)
            go_wp2
            try go_quiet (fail)
            try go_wp2
            clear hw1 hw2
            go_roundw
            case rel => exact ⟨i + 1, by omega, by go_num, by first | exact hb | exact below_drewN hb _⟩
            case measure => simp [intOf]; omega
      · have HSE := Lib.hid (HSM25.out.below hb)
        have hbE := below_then hb5 hb
        obtain ⟨N, hN⟩ : ∃ N : Nat, p + S - 1 = N := ⟨_, rfl⟩
        rw [hN] at HHD
        have hNi : (p : Int) + (S : Int) - 1 = (N : Int) := by omega
        have hbq := hb5
        clear hN hb hb5
        go_wp2_with fail
        refine (cHead _ M N _ _ HHD.out _ HSE.out).mono ?_
        rintro e w6 ⟨rfl, hb⟩
        have hbF := below_then hbE hb
        go_wp2
        go_ret
        exact ⟨rfl, hbF⟩
end Go.Proofs.Ytdhjpoplgbcgjaa
