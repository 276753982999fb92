/-
  Set, of the program.
-/
import Derived.Test.YtdhjpoplgbcgjaaTab
set_option linter.unusedVariables false
set_option linter.unusedSimpArgs false
namespace Go.Proofs.Ytdhjpoplgbcgjaa
open Go Go.RowKit

/-- what Set does is one of these -/
theorem sets_total (l : List Pg) (page : Int) (hd : Pg) : (∃ c, c ≠ 0 ∧ Sets l page hd none c) ∨ ∃ p, Sets l page hd (some p) 0 := by
  by_cases h1 : Valid l
  · by_cases h2 : hd.ok = true
    · by_cases h3 : 0 ≤ page ∧ page + hd.sz ≤ l.length ∧ page.toNat % hd.sz = 0
      · obtain ⟨p, rfl⟩ : ∃ p : Nat, page = (p : Int) := ⟨page.toNat, by omega⟩
        have h4 : p + hd.sz ≤ l.length := by omega
        have h5 : p % hd.sz = 0 := by simpa using h3.2.2
        by_cases h6 : hd.order < (pg l (beg l p)).order
        · exact .inl ⟨50, by decide, .frame p h1 h2 rfl h4 h5 h6⟩
        · exact .inr ⟨p, .set p h1 h2 rfl h4 h5 (by omega)⟩
      · exact .inl ⟨9, by decide, .range h1 h2 h3⟩
    · exact .inl ⟨2, by decide, .arg h1 (by simpa using h2)⟩
  · exact .inl ⟨50, by decide, .table h1⟩
theorem keep_block {W W' : World} {K : Nat} {o : Obj} (h : W.heap[K]? = some o) (hb : Below W.heap.size W W') : W'.heap[K]? = some o := (hb.block _ (lt_of_block h)).trans h
theorem key1 {W0 w : World} {p : Addr} {u : Value} (h : W0.cell? p = some u) (hb : Below W0.heap.size W0 w) : w.cell? p = some u ∧ Below W0.heap.size W0 w := ⟨cell_keep hb h, hb⟩
theorem other_set3 {W : World} {K g : Nat} {o : Obj} (h : W.heap[K]? = some o) (hne : K ≠ g) (a b c : Nat) (u v x : Value) : (((W.setCell ⟨g, a, none⟩ u).setCell ⟨g, b, none⟩ v).setCell ⟨g, c, none⟩ x).heap[K]? = some o :=
  (Below.heap_setCell _ _ _ K hne).trans ((Below.heap_setCell _ _ _ K hne).trans ((Below.heap_setCell _ _ _ K hne).trans h))
theorem below_set3 {n : Nat} {w0 w : World} {g : Nat} (h : Below n w0 w) (hg : n ≤ g) (a b c : Nat) (u v x : Value) : Below n w0 (((w.setCell ⟨g, a, none⟩ u).setCell ⟨g, b, none⟩ v).setCell ⟨g, c, none⟩ x) :=
  ((h.setCell (p := ⟨g, a, none⟩) hg u).setCell (p := ⟨g, b, none⟩) hg v).setCell (p := ⟨g, c, none⟩) hg x
theorem sz_hd {k o c : Int} {S : Nat} (hS : (2 : Int) ^ o.toNat = (S : Int)) : (⟨k, o, c⟩ : Pg).sz = S := sz_of (l := [⟨k, o, c⟩]) (a := 0) rfl hS
/-- the pages of the new block that have been written: from p to less than m -/
def setTo (l : List Pg) (p : Nat) (hd : Pg) (m : Nat) (i : Nat) : Pg := if i = p then hd else if p < i ∧ i < m then pin else pg l i
theorem setTo_start (l : List Pg) (p : Nat) (hd : Pg) (i : Nat) : (if i = p then hd else pg l i) = setTo l p hd (p + 1) i := by
  unfold setTo
  split
  · rfl
  · rw [if_neg (by omega)]
theorem setTo_step (l : List Pg) (p : Nat) (hd : Pg) (m : Nat) (hm : p < m) (i : Nat) : (if i = m then pin else setTo l p hd m i) = setTo l p hd (m + 1) i := by
  unfold setTo
  by_cases h1 : i = m
  · rw [if_pos h1, if_neg (by omega), if_pos (by omega)]
  · rw [if_neg h1]
    by_cases h2 : i = p
    · rw [if_pos h2, if_pos h2]
    · rw [if_neg h2, if_neg h2]
      by_cases h3 : p < i ∧ i < m
      · rw [if_pos h3, if_pos (by omega)]
      · rw [if_neg h3, if_neg (by omega)]
theorem setTo_end (l : List Pg) (p : Nat) (hd : Pg) (i : Nat) (hi : i < l.length) : setTo l p hd (p + hd.sz) i = pg (setF l p hd) i := by
  rw [setF_at l p hd i hi]
  rfl
section
variable (u : Value) (l : List Pg) (page : Int) (k o ch : Int) (w : World)
set_option maxHeartbeats 4000000 in
set_option maxRecDepth 100000 in
theorem cSetNo (c : Int) (h : Sets l page ⟨k, o, ch⟩ none c) (hs : ShowP w u l) :
    Calls Try.prog 15 #[u, .int .i64 page, .agg #[.int .i64 k, .int .i64 o, .int .i64 ch]] w fun e w' => e = .returned (.tuple #[.slice none 0 0, .int .i64 c]) ∧ Below w.heap.size w w' := by
  obtain ⟨ao, cap, rfl, hcap, _⟩ := id hs.form
  cases h with
  | table hv =>
    have HK := Lib.hid (chk_no hv)
    clear hv
    have HH0 := Lib.hid (heap_new w (.cells #[.int .i64 k, .int .i64 o, .int .i64 ch] 31))
    have hbA : Below w.heap.size w (w.alloc (.cells #[.int .i64 k, .int .i64 o, .int .i64 ch] 31)) := below_one (Below.refl _ _) _
    have hsA := hs.below hbA
    go_enter Try.func15, Try.ntmps15
    go_wp2_with (go_at_call 10; refine (cCheck _ l 50 HK.out _ hsA).mono ?_; rintro e w1 ⟨rfl, hb⟩)
    go_ret2
    exact ⟨rfl, below_then hbA hb⟩
  | arg hv ha =>
    have HK := Lib.hid (chk_ok hv)
    have HA := Lib.hid ha
    clear hv ha
    have HH0 := Lib.hid (heap_new w (.cells #[.int .i64 k, .int .i64 o, .int .i64 ch] 31))
    have hbA : Below w.heap.size w (w.alloc (.cells #[.int .i64 k, .int .i64 o, .int .i64 ch] 31)) := below_one (Below.refl _ _) _
    have hsA := hs.below hbA
    go_enter Try.func15, Try.ntmps15
    go_wp2_with fail
    refine (cCheck _ l 0 HK.out _ hsA).mono ?_
    rintro e w1 ⟨rfl, hb⟩
    have HH1 := Lib.hid (keep_block HH0.out hb)
    obtain ⟨g0, g1, g2⟩ := self3 HH1.out
    replace hb := below_then hbA hb
    clear hsA hbA HH0
    go_wp2_with fail
    refine (cIsHead k o ch false HA.out _).mono ?_
    rintro e w2 ⟨rfl, hb2⟩
    have HH2 := Lib.hid (keep_block HH1.out hb2)
    clear g0 g1 g2
    obtain ⟨g0, g1, g2⟩ := self3 HH2.out
    have hb3 := below_then hb hb2
    go_wp2
    go_ret2
    exact ⟨rfl, hb3⟩
  | range hv ha hr =>
    have HK := Lib.hid (chk_ok hv)
    have HA := Lib.hid ha
    have ho := (Pg.ok_iff.1 ha).1
    dsimp only at ho
    obtain ⟨S, hS⟩ : ∃ S : Nat, (2 : Int) ^ o.toNat = (S : Int) := ⟨2 ^ o.toNat, by simp⟩
    have hsz := sz_hd (k := k) (c := ch) hS
    have hSS : 1 ≤ S ∧ S ≤ 1024 := by
      rw [← hsz]
      exact ⟨Pg.sz_pos _, Pg.sz_le ha⟩
    rw [hsz] at hr
    have HQ : Hid (decide (0 ≤ page ∧ page + S ≤ l.length ∧ page.toNat % S = 0) = false) := Lib.hid (decide_eq_false hr)
    have HS := Lib.hid hS
    have hl := hv.2.1
    clear hv ha hr hS hsz
    have hfo := fun w => field_order k o ch w
    have HH0 := Lib.hid (heap_new w (.cells #[.int .i64 k, .int .i64 o, .int .i64 ch] 31))
    have hbA : Below w.heap.size w (w.alloc (.cells #[.int .i64 k, .int .i64 o, .int .i64 ch] 31)) := below_one (Below.refl _ _) _
    have hsA := hs.below hbA
    go_enter Try.func15, Try.ntmps15
    go_wp2_with fail
    refine (cCheck _ l 0 HK.out _ hsA).mono ?_
    rintro e w1 ⟨rfl, hb⟩
    have HH1 := Lib.hid (keep_block HH0.out hb)
    obtain ⟨g0, g1, g2⟩ := self3 HH1.out
    replace hb := below_then hbA hb
    clear hsA hbA HH0
    go_wp2_with fail
    refine (cIsHead k o ch true HA.out _).mono ?_
    rintro e w2 ⟨rfl, hb2⟩
    have HH2 := Lib.hid (keep_block HH1.out hb2)
    clear g0 g1 g2
    obtain ⟨g0, g1, g2⟩ := self3 HH2.out
    have hb3 := below_then hb hb2
    go_wp2_with fail
    refine (cFits l.length page o S false ho.1 ho.2 HS.out hSS hl HQ.out _).mono ?_
    rintro e w' ⟨rfl, rfl⟩
    go_wp2
    go_ret2
    exact ⟨rfl, hb3⟩
  | frame p hv ha hp hf hm hlt =>
    subst hp
    have HV := Lib.hid hv
    have HK := Lib.hid (chk_ok hv)
    have HA := Lib.hid ha
    have ho := (Pg.ok_iff.1 ha).1
    dsimp only at ho
    obtain ⟨S, hS⟩ : ∃ S : Nat, (2 : Int) ^ o.toNat = (S : Int) := ⟨2 ^ o.toNat, by simp⟩
    have hsz := sz_hd (k := k) (c := ch) hS
    have hSS : 1 ≤ S ∧ S ≤ 1024 := by
      rw [← hsz]
      exact ⟨Pg.sz_pos _, Pg.sz_le ha⟩
    rw [hsz] at hf hm
    have HQ : Hid (decide (0 ≤ (p : Int) ∧ (p : Int) + S ≤ l.length ∧ (p : Int).toNat % S = 0) = true) := Lib.hid (decide_eq_true ⟨by omega, by omega, by simpa using hm⟩)
    have HS := Lib.hid hS
    have hl := hv.2.1
    have hpl : p < l.length := by omega
    have HB : Hid (blkV l (beg l p) = .agg #[.int .i64 (pg l (beg l p)).kind, .int .i64 (pg l (beg l p)).order, .int .i64 (pg l (beg l p)).cache, .int .i64 ((beg l p : Nat) : Int), .int .i64 ((beg l p + (pg l (beg l p)).sz : Nat) : Int)]) := Lib.hid rfl
    dsimp only at hlt
    generalize (pg l (beg l p)).kind = kk at HB
    generalize (pg l (beg l p)).order = oo at HB hlt
    generalize (pg l (beg l p)).cache = cc at HB
    generalize beg l p + (pg l (beg l p)).sz = tt at HB
    clear hv ha hS hsz hf hm
    have hfo := fun w => field_order k o ch w
    have hfd := fun w => field_head kk oo cc (beg l p) tt w
    have hfo2 := fun w => field_order kk oo cc w
    have HH0 := Lib.hid (heap_new w (.cells #[.int .i64 k, .int .i64 o, .int .i64 ch] 31))
    have hbA : Below w.heap.size w (w.alloc (.cells #[.int .i64 k, .int .i64 o, .int .i64 ch] 31)) := below_one (Below.refl _ _) _
    have hsA := hs.below hbA
    go_enter Try.func15, Try.ntmps15
    go_wp2_with fail
    refine (cCheck _ l 0 HK.out _ hsA).mono ?_
    rintro e w1 ⟨rfl, hb⟩
    have HH1 := Lib.hid (keep_block HH0.out hb)
    obtain ⟨g0, g1, g2⟩ := self3 HH1.out
    replace hb := below_then hbA hb
    clear hsA hbA HH0
    go_wp2_with fail
    refine (cIsHead k o ch true HA.out _).mono ?_
    rintro e w2 ⟨rfl, hb2⟩
    have HH2 := Lib.hid (keep_block HH1.out hb2)
    clear g0 g1 g2
    obtain ⟨g0, g1, g2⟩ := self3 HH2.out
    have hb3 := below_then hb hb2
    have HS3 := Lib.hid (hs.below hb3)
    go_wp2_with fail
    refine (cFits l.length p o S true ho.1 ho.2 HS.out hSS hl HQ.out _).mono ?_
    rintro e w' ⟨rfl, rfl⟩
    have HG1 := Lib.hid g1
    go_wp2
    go_region_held3 (fun W => W.cell? ⟨w.heap.size, 1, none⟩ = some (.int .i64 o) ∧ Below w'.heap.size w' W)
      (first | exact key1 HG1.out (by assumption) | exact key1 HG1.out (Below.drew (Below.refl _ _)))
      (first
        | (go_at_call 19; refine (cAround _ l p HV.out hpl kk oo cc _ tt HB.out _ (HS3.out.below (show _ ∧ Below w'.heap.size w' _ from by assumption).2)).mono ?_; rintro e w3 ⟨rfl, h3⟩; have hb4 : Below w'.heap.size w' w3 := below_then (show _ ∧ Below w'.heap.size w' _ from by assumption).2 h3))
    have HH3 := Lib.hid (keep_block HH2.out hb4)
    clear g0 g1 g2
    obtain ⟨g0, g1, g2⟩ := self3 HH3.out
    have hb5 := below_then hb3 hb4
    go_wp2
    go_ret2
    exact ⟨rfl, hb5⟩
set_option maxHeartbeats 4000000 in
set_option maxRecDepth 100000 in
theorem cSetYes (p : Nat) (h : Sets l page ⟨k, o, ch⟩ (some p) 0) (hs : ShowP w u l) :
    Calls Try.prog 15 #[u, .int .i64 page, .agg #[.int .i64 k, .int .i64 o, .int .i64 ch]] w fun e w' => ∃ g cp, e = .returned (.tuple #[.slice (some ⟨g, 0, none⟩) l.length cp, .int .i64 0]) ∧ w.heap.size ≤ g ∧ (l.length ≤ cp ∧ cp ≤ maxLen) ∧ TabIs w' g l.length (pg (setF l p ⟨k, o, ch⟩)) ∧ Below w.heap.size w w' := by
  obtain ⟨ao, cap, rfl, hcap, hat⟩ := id hs.form
  cases h with
  | set p hv ha hp hf hm hlt =>
    subst hp
    have HV := Lib.hid hv
    have HK := Lib.hid (chk_ok hv)
    have HA := Lib.hid ha
    have ho := (Pg.ok_iff.1 ha).1
    dsimp only at ho
    obtain ⟨S, hS⟩ : ∃ S : Nat, (2 : Int) ^ o.toNat = (S : Int) := ⟨2 ^ o.toNat, by simp⟩
    have hsz := sz_hd (k := k) (c := ch) hS
    have hSS : 1 ≤ S ∧ S ≤ 1024 := by
      rw [← hsz]
      exact ⟨Pg.sz_pos _, Pg.sz_le ha⟩
    have HSZ := Lib.hid hsz
    rw [hsz] at hf hm
    have HQ : Hid (decide (0 ≤ (p : Int) ∧ (p : Int) + S ≤ l.length ∧ (p : Int).toNat % S = 0) = true) := Lib.hid (decide_eq_true ⟨by omega, by omega, by simpa using hm⟩)
    have HS := Lib.hid hS
    have hl1 := hv.1
    have hl := hv.2.1
    have hpl : p < l.length := by omega
    have HB : Hid (blkV l (beg l p) = .agg #[.int .i64 (pg l (beg l p)).kind, .int .i64 (pg l (beg l p)).order, .int .i64 (pg l (beg l p)).cache, .int .i64 ((beg l p : Nat) : Int), .int .i64 ((beg l p + (pg l (beg l p)).sz : Nat) : Int)]) := Lib.hid rfl
    dsimp only at hlt
    generalize (pg l (beg l p)).kind = kk at HB
    generalize (pg l (beg l p)).order = oo at HB hlt
    generalize (pg l (beg l p)).cache = cc at HB
    generalize beg l p + (pg l (beg l p)).sz = tt at HB
    obtain ⟨b0, o0, rfl, _⟩ := hat p hpl
    clear hv ha hS hsz hm hat
    have hfo := fun w => field_order k o ch w
    have hfd := fun w => field_head kk oo cc (beg l p) tt w
    have hfo2 := fun w => field_order kk oo cc w
    have HH0 := Lib.hid (heap_new w (.cells #[.int .i64 k, .int .i64 o, .int .i64 ch] 31))
    have hbA : Below w.heap.size w (w.alloc (.cells #[.int .i64 k, .int .i64 o, .int .i64 ch] 31)) := below_one (Below.refl _ _) _
    have hsA := hs.below hbA
    go_enter Try.func15, Try.ntmps15
    go_wp2_with fail
    refine (cCheck _ l 0 HK.out _ hsA).mono ?_
    rintro e w1 ⟨rfl, hb⟩
    have HH1 := Lib.hid (keep_block HH0.out hb)
    obtain ⟨g0, g1, g2⟩ := self3 HH1.out
    replace hb := below_then hbA hb
    clear hsA hbA HH0
    go_wp2_with fail
    refine (cIsHead k o ch true HA.out _).mono ?_
    rintro e w2 ⟨rfl, hb2⟩
    have HH2 := Lib.hid (keep_block HH1.out hb2)
    clear g0 g1 g2
    obtain ⟨g0, g1, g2⟩ := self3 HH2.out
    have hb3 := below_then hb hb2
    have HS3 := Lib.hid (hs.below hb3)
    go_wp2_with fail
    refine (cFits l.length p o S true ho.1 ho.2 HS.out hSS hl HQ.out _).mono ?_
    rintro e w' ⟨rfl, rfl⟩
    have HG1 := Lib.hid g1
    go_wp2
    go_region_held3 (fun W => W.cell? ⟨w.heap.size, 1, none⟩ = some (.int .i64 o) ∧ Below w'.heap.size w' W)
      (first | exact key1 HG1.out (by assumption) | exact key1 HG1.out (Below.drew (Below.refl _ _)))
      (first
        | (go_at_call 19; refine (cAround _ l p HV.out hpl kk oo cc _ tt HB.out _ (HS3.out.below (show _ ∧ Below w'.heap.size w' _ from by assumption).2)).mono ?_; rintro e w3 ⟨rfl, h3⟩; have hb4 : Below w'.heap.size w' w3 := below_then (show _ ∧ Below w'.heap.size w' _ from by assumption).2 h3))
    have HH3 := Lib.hid (keep_block HH2.out hb4)
    clear g0 g1 g2
    obtain ⟨g0, g1, g2⟩ := self3 HH3.out
    have hb5 := below_then hb3 hb4
    have HS5 := Lib.hid (hs.below hb5)
    have hz5 := hb5.size
    clear hb hb2 hb3 hb4 hs
    go_wp2_with fail
    refine (cClone b0 o0 cap l hl1 hl _ HS5.out).mono ?_
    rintro e w4 ⟨g, cp, rfl, hg, hcp, ht, hb6⟩
    have HH4 := Lib.hid (keep_block HH3.out hb6)
    clear g0 g1 g2
    obtain ⟨g0, g1, g2⟩ := self3 HH4.out
    have hgw : w.heap.size ≠ g := by have := lt_of_block HH3.out; omega
    have hb7 := below_then hb5 hb6
    have hg7 : w.heap.size ≤ g := by omega
    obtain ⟨t0, t1, t2⟩ := ht.cells hpl
    have f0 := ht.frozen (p * 3)
    have f1 := ht.frozen (p * 3 + 1)
    have f2 := ht.frozen (p * 3 + 2)
    have HT := Lib.hid ((ht.set p ⟨k, o, ch⟩).congr (fun i _ => setTo_start l p ⟨k, o, ch⟩ i))
    have HB7 := Lib.hid (below_set3 hb7 hg7 (p * 3) (p * 3 + 1) (p * 3 + 2) (.int .i64 k) (.int .i64 o) (.int .i64 ch))
    have HH5 := Lib.hid (other_set3 HH4.out hgw (p * 3) (p * 3 + 1) (p * 3 + 2) (.int .i64 k) (.int .i64 o) (.int .i64 ch))
    clear ht hb6 hb7 hb5
    go_wp2
    clear t0 t1 t2 f0 f1 f2 g0 g1 g2
    go_loopw [10] (fun x wr => ∃ m : Nat, 1 ≤ m ∧ m ≤ S ∧ x = .int .i64 ((p + m : Nat) : Int) ∧ Hid (TabIs wr g l.length (setTo l p ⟨k, o, ch⟩ (p + m))) ∧ Hid (Below w.heap.size w wr) ∧ Hid (wr.heap[w.heap.size]? = some (.cells #[.int .i64 k, .int .i64 o, .int .i64 ch] 31))) (fun x _ => p + S - (intOf x).toNat)
    case atStart => exact ⟨1, Nat.le_refl _, hSS.1, by go_num, HT, HB7, HH5⟩
    case round =>
      obtain ⟨m, hm1, hm2, rfl, HT2, HBr, HHr⟩ := hrel
      obtain ⟨g0, g1, g2⟩ := self3 HHr.out
      by_cases hlt2 : m < S
      · obtain ⟨t0, t1, t2⟩ := HT2.out.cells (show p + m < l.length by omega)
        have f0 := HT2.out.frozen ((p + m) * 3)
        have f1 := HT2.out.frozen ((p + m) * 3 + 1)
        have f2 := HT2.out.frozen ((p + m) * 3 + 2)
        have HT3 := Lib.hid ((HT2.out.set (p + m) pin).congr (fun i _ => setTo_step l p ⟨k, o, ch⟩ (p + m) (by omega) i))
        have HB8 := Lib.hid (below_set3 HBr.out hg7 ((p + m) * 3) ((p + m) * 3 + 1) ((p + m) * 3 + 2) (.int .i64 1) (.int .i64 0) (.int .i64 0))
        have HH6 := Lib.hid (other_set3 HHr.out hgw ((p + m) * 3) ((p + m) * 3 + 1) ((p + m) * 3 + 2) (.int .i64 1) (.int .i64 0) (.int .i64 0))
        go_wp2_with (go_at_call 26; refine (cPages o S ho.1 ho.2 HS.out hSS.2 _).mono ?_; rintro e w' ⟨rfl, rfl⟩)
        go_roundw
        case rel => exact ⟨m + 1, by omega, by omega, by go_num, HT3, HB8, HH6⟩
        case measure => simp [intOf]; omega
      · obtain rfl : m = S := by omega
        have HTE := Lib.hid (HT2.out.congr (h := pg (setF l p ⟨k, o, ch⟩)) (fun i hi => by rw [← HSZ.out]; exact setTo_end l p ⟨k, o, ch⟩ i hi))
        go_wp2_with (go_at_call 26; refine (cPages o m ho.1 ho.2 HS.out hSS.2 _).mono ?_; rintro e w' ⟨rfl, rfl⟩)
        go_ret2
        exact ⟨g, cp, rfl, hg7, hcp, HTE.out, HBr.out⟩
end
end Go.Proofs.Ytdhjpoplgbcgjaa
