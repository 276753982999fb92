/-
  Set, of the document's answer.
-/
import Derived.Test.YtdhjpoplgbcgjaaSet
set_option linter.unusedVariables false
set_option linter.unusedSimpArgs false
namespace Go.Proofs.Ytdhjpoplgbcgjaa
open Go Go.RowKit

section
variable (u : Value) (l : List Pg) (page : Int) (k o ch : Int) (w : World)
set_option maxHeartbeats 4000000 in
set_option maxRecDepth 100000 in
theorem rSetNo (c : Int) (h : Sets l page ⟨k, o, ch⟩ none c) (hs : ShowP w u l) :
    Calls Try.prog 16 #[u, .int .i64 page, .agg #[.int .i64 k, .int .i64 o, .int .i64 ch]] w fun e w' => e = .returned (.tuple #[.slice none 0 0, .int .i64 c]) ∧ Below w.heap.size w w' := by
  obtain ⟨ao, cap, rfl, hcap, hat⟩ := id hs.form
  cases h with
  | table hv =>
    have HK := Lib.hid (chk_no hv)
    clear hv hat
    have HH0 := Lib.hid (heap_new w (.cells #[.int .i64 k, .int .i64 o, .int .i64 ch] 31))
    have hbA : Below w.heap.size w (w.alloc (.cells #[.int .i64 k, .int .i64 o, .int .i64 ch] 31)) := below_one (Below.refl _ _) _
    have hsA := hs.below hbA
    go_enter Try.func16, Try.ntmps16
    go_wp2_with fail
    refine (rCheck _ l 50 HK.out _ hsA).mono ?_
    rintro e w1 ⟨rfl, hb⟩
    have HH1 := Lib.hid (keep_block HH0.out hb)
    obtain ⟨g0, g1, g2⟩ := self3 HH1.out
    replace hb := below_then hbA hb
    clear hsA hbA HH0
    go_wp2
    go_ret2
    exact ⟨rfl, hb⟩
  | arg hv ha =>
    have HK := Lib.hid (chk_ok hv)
    have HA := Lib.hid ha
    clear hv ha hat
    have HH0 := Lib.hid (heap_new w (.cells #[.int .i64 k, .int .i64 o, .int .i64 ch] 31))
    have hbA : Below w.heap.size w (w.alloc (.cells #[.int .i64 k, .int .i64 o, .int .i64 ch] 31)) := below_one (Below.refl _ _) _
    have hsA := hs.below hbA
    go_enter Try.func16, Try.ntmps16
    go_wp2_with fail
    refine (rCheck _ l 0 HK.out _ hsA).mono ?_
    rintro e w1 ⟨rfl, hb⟩
    have HH1 := Lib.hid (keep_block HH0.out hb)
    obtain ⟨g0, g1, g2⟩ := self3 HH1.out
    replace hb := below_then hbA hb
    clear hsA hbA HH0
    go_wp2_with fail
    refine (cRHead k o ch false HA.out _).mono ?_
    rintro e w2 ⟨rfl, hb2⟩
    have HH2 := Lib.hid (keep_block HH1.out hb2)
    clear g0 g1 g2
    obtain ⟨g0, g1, g2⟩ := self3 HH2.out
    have hb3 := below_then hb hb2
    go_wp2
    go_ret2
    exact ⟨rfl, hb3⟩
  | range hv ha hr =>
    have HK := Lib.hid (chk_ok hv)
    have HA := Lib.hid ha
    have ho := (Pg.ok_iff.1 ha).1
    dsimp only at ho
    obtain ⟨ho0, ho1⟩ := ho
    obtain ⟨S, hS⟩ : ∃ S : Nat, (2 : Int) ^ o.toNat = (S : Int) := ⟨2 ^ o.toNat, by simp⟩
    have hsz := sz_hd (k := k) (c := ch) hS
    have hSS : 1 ≤ S ∧ S ≤ 1024 := by
      rw [← hsz]
      exact ⟨Pg.sz_pos _, Pg.sz_le ha⟩
    rw [hsz] at hr
    have hl := hv.2.1
    have hor : page < 0 ∨ (0 ≤ page ∧ (l.length : Int) - S < page) ∨ ∃ p r : Nat, page = p ∧ p + S ≤ l.length ∧ (p : Int) % (S : Int) = (r : Int) ∧ r ≠ 0 := by
      by_cases h1 : page < 0
      · exact .inl h1
      · by_cases h2 : (l.length : Int) - S < page
        · exact .inr (.inl ⟨by omega, h2⟩)
        · obtain ⟨p, rfl⟩ : ∃ p : Nat, page = (p : Int) := ⟨page.toNat, by omega⟩
          refine .inr (.inr ⟨p, p % S, rfl, by omega, by omega, fun h3 => hr ⟨by omega, by omega, by simpa using h3⟩⟩)
    clear hv ha hr hsz hat
    have hS0 : ¬ S = 0 := by omega
    rcases hor with h1 | ⟨h1, h2⟩ | ⟨p, r, rfl, h1, h2, h3⟩
    rotate_left 2
    · have hrn : (((r : Nat) : Int) != 0) = true := by simpa using h3
      have hle : (p : Int) ≤ (l.length : Int) - (S : Int) := by omega
      have HH0 := Lib.hid (heap_new w (.cells #[.int .i64 k, .int .i64 o, .int .i64 ch] 31))
      have hbA : Below w.heap.size w (w.alloc (.cells #[.int .i64 k, .int .i64 o, .int .i64 ch] 31)) := below_one (Below.refl _ _) _
      have hsA := hs.below hbA
      go_enter Try.func16, Try.ntmps16
      go_wp2_with fail
      refine (rCheck _ l 0 HK.out _ hsA).mono ?_
      rintro e w1 ⟨rfl, hb⟩
      have HH1 := Lib.hid (keep_block HH0.out hb)
      obtain ⟨g0, g1, g2⟩ := self3 HH1.out
      replace hb := below_then hbA hb
      clear hsA hbA HH0
      go_wp2_with fail
      refine (cRHead k o ch true HA.out _).mono ?_
      rintro e w2 ⟨rfl, hb2⟩
      have HH2 := Lib.hid (keep_block HH1.out hb2)
      clear g0 g1 g2
      obtain ⟨g0, g1, g2⟩ := self3 HH2.out
      have hb3 := below_then hb hb2
      go_wp2
      go_ret2
      exact ⟨rfl, hb3⟩
    all_goals
      have HH0 := Lib.hid (heap_new w (.cells #[.int .i64 k, .int .i64 o, .int .i64 ch] 31))
      have hbA : Below w.heap.size w (w.alloc (.cells #[.int .i64 k, .int .i64 o, .int .i64 ch] 31)) := below_one (Below.refl _ _) _
      have hsA := hs.below hbA
      go_enter Try.func16, Try.ntmps16
      go_wp2_with fail
      refine (rCheck _ l 0 HK.out _ hsA).mono ?_
      rintro e w1 ⟨rfl, hb⟩
      have HH1 := Lib.hid (keep_block HH0.out hb)
      obtain ⟨g0, g1, g2⟩ := self3 HH1.out
      replace hb := below_then hbA hb
      clear hsA hbA HH0
      go_wp2_with fail
      refine (cRHead k o ch true HA.out _).mono ?_
      rintro e w2 ⟨rfl, hb2⟩
      have HH2 := Lib.hid (keep_block HH1.out hb2)
      clear g0 g1 g2
      obtain ⟨g0, g1, g2⟩ := self3 HH2.out
      have hb3 := below_then hb hb2
      go_wp2
      go_ret2
      exact ⟨rfl, hb3⟩
  | frame p hv ha hp hf hm hlt =>
    subst hp
    have HV := Lib.hid hv
    have HK := Lib.hid (chk_ok hv)
    have HA := Lib.hid ha
    have ho := (Pg.ok_iff.1 ha).1
    dsimp only at ho
    obtain ⟨ho0, ho1⟩ := ho
    obtain ⟨S, hS⟩ : ∃ S : Nat, (2 : Int) ^ o.toNat = (S : Int) := ⟨2 ^ o.toNat, by simp⟩
    have hsz := sz_hd (k := k) (c := ch) hS
    have hSS : 1 ≤ S ∧ S ≤ 1024 := by
      rw [← hsz]
      exact ⟨Pg.sz_pos _, Pg.sz_le ha⟩
    rw [hsz] at hf hm
    have hl := hv.2.1
    have hpl : p < l.length := by omega
    have hri : (p : Int) % (S : Int) = 0 := by omega
    have hle : (p : Int) ≤ (l.length : Int) - (S : Int) := by omega
    have hS0 : ¬ S = 0 := by omega
    obtain ⟨b, hb0⟩ : ∃ b, beg l p = b := ⟨_, rfl⟩
    have HB := Lib.hid hb0
    have hble := beg_le l p
    rw [hb0] at hlt hble
    dsimp only at hlt
    obtain ⟨b1, o1, rfl, _, c1, _⟩ := hat b (by omega)
    have HC1 := Lib.hid c1
    generalize (pg l b).order = oo at hlt HC1
    clear hv ha hsz hm hat hb0 c1
    have HH0 := Lib.hid (heap_new w (.cells #[.int .i64 k, .int .i64 o, .int .i64 ch] 31))
    have hbA : Below w.heap.size w (w.alloc (.cells #[.int .i64 k, .int .i64 o, .int .i64 ch] 31)) := below_one (Below.refl _ _) _
    have hsA := hs.below hbA
    go_enter Try.func16, Try.ntmps16
    go_wp2_with fail
    refine (rCheck _ l 0 HK.out _ hsA).mono ?_
    rintro e w1 ⟨rfl, hb⟩
    have HH1 := Lib.hid (keep_block HH0.out hb)
    obtain ⟨g0, g1, g2⟩ := self3 HH1.out
    replace hb := below_then hbA hb
    clear hsA hbA HH0
    go_wp2_with fail
    refine (cRHead k o ch true HA.out _).mono ?_
    rintro e w2 ⟨rfl, hb2⟩
    have HH2 := Lib.hid (keep_block HH1.out hb2)
    clear g0 g1 g2
    obtain ⟨g0, g1, g2⟩ := self3 HH2.out
    have hb3 := below_then hb hb2
    have HS3 := Lib.hid (hs.below hb3)
    have d1 := cell_keep hb3 HC1.out
    go_wp2_with fail
    refine (rBegin _ l p b hl hpl HB.out _ HS3.out).mono ?_
    rintro e w' ⟨rfl, rfl⟩
    go_wp2
    try (go_quiet (fail))
    try go_wp2
    go_ret2
    exact ⟨rfl, by first | exact hb3 | exact below_drewN hb3 _⟩
set_option maxHeartbeats 4000000 in
set_option maxRecDepth 100000 in
theorem rSetYes (p : Nat) (h : Sets l page ⟨k, o, ch⟩ (some p) 0) (hs : ShowP w u l) :
    Calls Try.prog 16 #[u, .int .i64 page, .agg #[.int .i64 k, .int .i64 o, .int .i64 ch]] w fun e w' => ∃ g cp, e = .returned (.tuple #[.slice (some ⟨g, 0, none⟩) l.length cp, .int .i64 0]) ∧ w.heap.size ≤ g ∧ (l.length ≤ cp ∧ cp ≤ maxLen) ∧ TabIs w' g l.length (pg (setF l p ⟨k, o, ch⟩)) ∧ Below w.heap.size w w' := by
  obtain ⟨ao, cap, rfl, hcap, hat⟩ := id hs.form
  cases h with
  | set p hv ha hp hf hm hlt =>
    subst hp
    have HV := Lib.hid hv
    have HK := Lib.hid (chk_ok hv)
    have HA := Lib.hid ha
    have ho := (Pg.ok_iff.1 ha).1
    dsimp only at ho
    obtain ⟨ho0, ho1⟩ := ho
    obtain ⟨S, hS⟩ : ∃ S : Nat, (2 : Int) ^ o.toNat = (S : Int) := ⟨2 ^ o.toNat, by simp⟩
    have hsz := sz_hd (k := k) (c := ch) hS
    have hSS : 1 ≤ S ∧ S ≤ 1024 := by
      rw [← hsz]
      exact ⟨Pg.sz_pos _, Pg.sz_le ha⟩
    have HSZ := Lib.hid hsz
    rw [hsz] at hf hm
    have hl1 := hv.1
    have hl := hv.2.1
    have hpl : p < l.length := by omega
    have hri : (p : Int) % (S : Int) = 0 := by omega
    have hle : (p : Int) ≤ (l.length : Int) - (S : Int) := by omega
    have hS0 : ¬ S = 0 := by omega
    obtain ⟨b, hb0⟩ : ∃ b, beg l p = b := ⟨_, rfl⟩
    have HB := Lib.hid hb0
    have hble := beg_le l p
    rw [hb0] at hlt hble
    dsimp only at hlt
    obtain ⟨b1, o1, rfl, _, c1, _⟩ := hat b (by omega)
    have HC1 := Lib.hid c1
    generalize (pg l b).order = oo at hlt HC1
    clear hv ha hsz hm hat hb0 c1
    obtain ⟨i0, hi, hz0, hz1, hz2⟩ := info_parts infoP
    have HH0 := Lib.hid (heap_new w (.cells #[.int .i64 k, .int .i64 o, .int .i64 ch] 31))
    have hbA : Below w.heap.size w (w.alloc (.cells #[.int .i64 k, .int .i64 o, .int .i64 ch] 31)) := below_one (Below.refl _ _) _
    have hsA := hs.below hbA
    go_enter Try.func16, Try.ntmps16
    go_wp2_with fail
    refine (rCheck _ l 0 HK.out _ hsA).mono ?_
    rintro e w1 ⟨rfl, hb⟩
    have HH1 := Lib.hid (keep_block HH0.out hb)
    obtain ⟨g0, g1, g2⟩ := self3 HH1.out
    replace hb := below_then hbA hb
    clear hsA hbA HH0
    go_wp2_with fail
    refine (cRHead k o ch true HA.out _).mono ?_
    rintro e w2 ⟨rfl, hb2⟩
    have HH2 := Lib.hid (keep_block HH1.out hb2)
    clear g0 g1 g2
    obtain ⟨g0, g1, g2⟩ := self3 HH2.out
    have hb3 := below_then hb hb2
    have HS3 := Lib.hid (hs.below hb3)
    have d1 := cell_keep hb3 HC1.out
    have hz3 := hb3.size
    go_wp2_with fail
    refine (rBegin _ l p b hl hpl HB.out _ HS3.out).mono ?_
    rintro e w' ⟨rfl, rfl⟩
    go_wp2
    go_quiet (fail)
    have hbq : Below w'.heap.size w' (w'.drewN nq) := below_drewN (Below.refl _ _) nq
    have HS4 := Lib.hid (HS3.out.below hbq)
    have HH3 := Lib.hid (keep_block HH2.out hbq)
    have hb4 := below_then hb3 hbq
    have hz4 := hb4.size
    generalize w'.drewN nq = w4 at *
    clear g0 g1 g2 hbq hb3 hb2 hb d1
    obtain ⟨g0, g1, g2⟩ := self3 HH3.out
    have hnews := Lib.hid (news_of HS4.out)
    go_wp2_with (at_builtin; refine wpList_append_own _ (by rfl) _ _ 22 (by rfl) w4.heap.size 31 i0 _ 3 24 Try.underlying22 hi hz0 hz1 hz2 (by rfl) (by decide) _ 0 [] (by rfl) (World.ownsRow_nil _ _ _ _) ⟨b1, o1, none⟩ l.length cap (pgs l) (by rfl) ?qc1 ?qc2 ?qc3 ?qc4 ?qc5 ?qc6 ?_)
    case qc1 => exact pgs_length l
    case qc2 => exact hnews.out
    case qc3 => exact pgs_one l
    case qc4 => rw [Nat.zero_add]; unfold maxLen; omega
    case qc5 => rw [Nat.zero_add]; omega
    case qc6 => exact Nat.le_refl _
    intro v' w5 hown hgrow hnil
    try rw [Nat.zero_add] at hown
    try rw [List.nil_append] at hown
    obtain ⟨g, cp, rfl, hg, hcp, ht⟩ := tab_of_own hown hl1
    have hb6 : Below w4.heap.size w4 w5 := (Below.refl _ w4).grown hgrow (Nat.le_refl _) (fun k hk => by simp [Value.ownBlock] at hk)
    have HH4 := Lib.hid (keep_block HH3.out hb6)
    clear g0 g1 g2 hown hgrow hnil
    obtain ⟨g0, g1, g2⟩ := self3 HH4.out
    have hgw : w.heap.size ≠ g := by have := lt_of_block HH3.out; omega
    have hb7 := below_then hb4 hb6
    have hg7 : w.heap.size ≤ g := by omega
    obtain ⟨t0, t1, t2⟩ := ht.cells hpl
    have f0 := ht.frozen (p * 3)
    have f1 := ht.frozen (p * 3 + 1)
    have f2 := ht.frozen (p * 3 + 2)
    have HT := Lib.hid ((ht.set p ⟨k, o, ch⟩).congr (fun i _ => setTo_start l p ⟨k, o, ch⟩ i))
    have HB7 := Lib.hid (below_set3 hb7 hg7 (p * 3) (p * 3 + 1) (p * 3 + 2) (.int .i64 k) (.int .i64 o) (.int .i64 ch))
    have HH5 := Lib.hid (other_set3 HH4.out hgw (p * 3) (p * 3 + 1) (p * 3 + 2) (.int .i64 k) (.int .i64 o) (.int .i64 ch))
    clear ht hb6 hb7 hb4
    go_wp2
    clear t0 t1 t2 f0 f1 f2 g0 g1 g2
    go_loopw [11] (fun x wr => ∃ m : Nat, 1 ≤ m ∧ m ≤ S ∧ x = .int .i64 ((p + m : Nat) : Int) ∧ Hid (TabIs wr g l.length (setTo l p ⟨k, o, ch⟩ (p + m))) ∧ Hid (Below w.heap.size w wr)) (fun x _ => p + S - (intOf x).toNat)
    case atStart => exact ⟨1, Nat.le_refl _, hSS.1, by go_num, HT, HB7⟩
    case round =>
      obtain ⟨m, hm1, hm2, rfl, HT2, HBr⟩ := hrel
      by_cases hlt2 : m < S
      · obtain ⟨t0, t1, t2⟩ := HT2.out.cells (show p + m < l.length by omega)
        have f0 := HT2.out.frozen ((p + m) * 3)
        have f1 := HT2.out.frozen ((p + m) * 3 + 1)
        have f2 := HT2.out.frozen ((p + m) * 3 + 2)
        have HT3 := Lib.hid ((HT2.out.set (p + m) pin).congr (fun i _ => setTo_step l p ⟨k, o, ch⟩ (p + m) (by omega) i))
        have HB8 := Lib.hid (below_set3 HBr.out hg7 ((p + m) * 3) ((p + m) * 3 + 1) ((p + m) * 3 + 2) (.int .i64 1) (.int .i64 0) (.int .i64 0))
        go_wp2
        go_roundw
        case rel => exact ⟨m + 1, by omega, by omega, by go_num, HT3, HB8⟩
        case measure => simp [intOf]; omega
      · obtain rfl : m = S := by omega
        have HTE := Lib.hid (HT2.out.congr (h := pg (setF l p ⟨k, o, ch⟩)) (fun i hi => by rw [← HSZ.out]; exact setTo_end l p ⟨k, o, ch⟩ i hi))
        go_wp2
        go_ret2
        exact ⟨g, cp, rfl, hg7, hcp, HTE.out, HBr.out⟩
end
end Go.Proofs.Ytdhjpoplgbcgjaa
