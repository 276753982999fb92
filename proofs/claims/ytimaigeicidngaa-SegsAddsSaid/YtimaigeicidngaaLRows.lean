/-
  SegsRows: Check, Add and Next, program against document's answer.
-/
import Derived.Test.YtimaigeicidngaaWorks
set_option linter.unusedVariables false
set_option linter.unusedSimpArgs false
namespace Go.Proofs.Ytimaigeicidngaa
open Go Go.RowKit

theorem cut300 (n : Nat) : ∃ m : Nat, (if (300 : Int) < (n : Int) then (300 : Int) else (n : Int)) = (m : Int) ∧ m ≤ n ∧ m ≤ 300 := by
  by_cases h : (300 : Int) < (n : Int)
  · exact ⟨300, by rw [if_pos h]; rfl, by omega, Nat.le_refl _⟩
  · exact ⟨n, by rw [if_neg h], Nat.le_refl _, by omega⟩
theorem shows_cut {w : World} {ao : Option Addr} {cap m : Nat} {l : List Wt} (h : ShowW w (.slice ao l.length cap) l) (hm : m ≤ l.length) : ∃ L : List Wt, L.length = m ∧ ShowW w (.slice ao m cap) L :=
  ⟨l.take m, by rw [List.length_take]; omega, h.first hm⟩
/-- block g has n records -/
def RowAt (w : World) (g n : Nat) : Prop := ∃ c : Array Value, w.heap[g]? = some (.cells c 24 (0, 0)) ∧ n * 2 ≤ c.size
theorem RowAt.frozen {w : World} {g n : Nat} (h : RowAt w g n) (j : Nat) : w.frozen? ⟨g, j, none⟩ = false := by
  obtain ⟨c, hb, _⟩ := h
  exact self_free hb j
theorem RowAt.cell {w : World} {g n : Nat} (h : RowAt w g n) {j : Nat} (hj : j < n * 2) : ∃ u, w.cell? ⟨g, j, none⟩ = some u := by
  obtain ⟨c, hb, hc⟩ := h
  exact ⟨_, self_cell hb j _ (Array.getElem?_eq_getElem (by omega))⟩
theorem RowAt.set {w : World} {g n : Nat} (h : RowAt w g n) (j : Nat) (u : Value) : RowAt (w.setCell ⟨g, j, none⟩ u) g n := by
  obtain ⟨c, hb, hc⟩ := h
  exact ⟨_, cells_set hb j u, by simpa using hc⟩
theorem RowAt.below {w w' : World} {g n : Nat} (h : RowAt w g n) (hb : Below w.heap.size w w') : RowAt w' g n := by
  obtain ⟨c, hg, hc⟩ := h
  exact ⟨c, keep_block hg hb, hc⟩
theorem row_of {w : World} {B n : Nat} {ao : Option Addr} {cap : Nat} {l : List Wt} (h : OwnW B w (.slice ao n cap) l) : n = 0 ∨ ∃ g, ao = some ⟨g, 0, none⟩ ∧ B ≤ g ∧ RowAt w g n ∧ n ≤ cap ∧ cap ≤ 9223372036854775807 := by
  rcases h.2 with ⟨e, _⟩ | ⟨g, cp, cur, e, hB, hb, hc, hm, hsz, _⟩
  · cases e
    exact .inl rfl
  · cases e
    exact .inr ⟨g, rfl, hB, ⟨cur, hb, by rw [hsz]; omega⟩, hc, by unfold maxLen at hm; omega⟩
theorem self_agg {w w' : World} {K : Nat} {a b : Value} {t : TypeId} {fr : Nat × Nat} (h : w.heap[K]? = some (.cells #[a, b] t fr)) (hb : Below w.heap.size w w') : w'.heap[K]? = some (.cells #[a, b] t fr) := keep_block h hb
set_option maxHeartbeats 4000000 in
set_option maxRecDepth 100000 in
theorem walkRows (u : Value) (l : List Wt) (a d : Int) (W : World) (hs : ShowW W u l) :
    Calls Try.prog 3 #[u, .agg #[.int .i64 a, .int .i64 d]] W fun e W' => e = .returned (.bool true) ∧ Below W.heap.size W W' := by
  have hs0 := hs
  obtain ⟨ao, cap, rfl, hcap, hat⟩ := hs.form
  obtain ⟨m, hm, hml, hm300⟩ := cut300 l.length
  obtain ⟨L, rfl, hsL⟩ := shows_cut hs0 hml
  obtain ⟨k, hk⟩ : ∃ k, chkF L = k := ⟨_, rfl⟩
  obtain ⟨x, hx⟩ : ∃ x, nextF L = x := ⟨_, rfl⟩
  obtain ⟨c, hc⟩ : ∃ c, addF L ⟨a, d⟩ = c := ⟨_, rfl⟩
  obtain ⟨R, hR⟩ : ∃ R, addL L ⟨a, d⟩ = R := ⟨_, rfl⟩
  have HK := Lib.hid hk
  have HX := Lib.hid hx
  have HCR := Lib.hid (And.intro hc hR)
  have HS := Lib.hid hsL
  have B0 := Lib.hid (below_one (Below.refl W.heap.size W) (.cells #[.int .i64 a, .int .i64 d] 24))
  have X0 := Lib.hid (heap_new W (.cells #[.int .i64 a, .int .i64 d] 24))
  clear hs hs0 hat hk hx hc hR hsL
  go_enter Try.func3, Try.ntmps3
  go_wp2_with fail
  refine (rCopy _ L _ (HS.out.below B0.out) (by omega)).mono ?_
  rintro e w1 ⟨ia, ic, rfl, hown, hb⟩
  have X1 := Lib.hid (keep_block X0.out hb)
  have B1 := Lib.hid (B0.out.trans (hb.mono B0.out.size))
  have S1 := Lib.hid hown.shows
  clear hown hb X0 B0
  obtain ⟨x0, x1⟩ := self2 X1.out
  have xl := lt_of_block X1.out
  go_wp2_with fail
  refine (cAdd _ L a d _ S1.out).mono ?_
  rintro e w2 ⟨aa, na, ca, hna, rfl, hown, hb⟩
  rw [HCR.out.1]
  rw [HCR.out.2] at hna hown
  have HA2 := Lib.hid hown
  have HNA := Lib.hid hna
  have D2 := Lib.hid hb
  have X2 := Lib.hid (keep_block X1.out hb)
  clear hown hb hna x0 x1 xl X1
  obtain ⟨x0, x1⟩ := self2 X2.out
  have xl := lt_of_block X2.out
  go_wp2_with fail
  refine (rAdd _ L a d _ (HS.out.below (below_then B1.out D2.out))).mono ?_
  rintro e w3 ⟨ba, nb, cb, hnb, rfl, hown, hb⟩
  rw [HCR.out.1]
  rw [HCR.out.2] at hnb hown
  have HA3 := Lib.hid (HA2.out.below hb)
  have HB3 := Lib.hid hown.shows
  have D3 := Lib.hid (below_then D2.out hb)
  clear hown hb hnb x0 x1 xl X2 D2 HA2
  go_wp2_with fail
  refine (cCheck _ L k HK.out _ (S1.out.below D3.out)).mono ?_
  rintro e w4 ⟨rfl, hb⟩
  have HA4 := Lib.hid (HA3.out.below hb)
  have HB4 := Lib.hid (HB3.out.below hb)
  have D4 := Lib.hid (below_then D3.out hb)
  clear hb HA3 HB3 D3
  go_wp2_with fail
  refine (rCheck _ L k HK.out _ (HS.out.below (below_then B1.out D4.out))).mono ?_
  rintro e w5 ⟨rfl, hb⟩
  have HA5 := Lib.hid (HA4.out.below hb)
  have HB5 := Lib.hid (HB4.out.below hb)
  have D5 := Lib.hid (below_then D4.out hb)
  clear hb HA4 HB4 D4
  go_wp2_with fail
  refine (cNext _ L x HX.out _ (S1.out.below D5.out)).mono ?_
  rintro e w6 ⟨rfl, hb⟩
  have HA6 := Lib.hid (HA5.out.below hb)
  have HB6 := Lib.hid (HB5.out.below hb)
  have D6 := Lib.hid (below_then D5.out hb)
  clear hb HA5 HB5 D5
  go_wp2_with fail
  refine (rNext _ L x HX.out _ (HS.out.below (below_then B1.out D6.out))).mono ?_
  rintro e w7 ⟨rfl, hb⟩
  have HA7 := Lib.hid (HA6.out.below hb)
  have HB7 := Lib.hid (HB6.out.below hb)
  have D7 := Lib.hid (below_then D6.out hb)
  clear hb HA6 HB6 D6
  go_wp2_with fail
  refine (cSame _ _ R R _ HA7.out.shows HB7.out).mono ?_
  rintro e w8 ⟨rfl, hb⟩
  rw [decide_eq_true rfl]
  have HA8 := Lib.hid (HA7.out.below hb)
  have D8 := Lib.hid (below_then D7.out hb)
  clear hb HA7 HB7 D7
  rcases row_of HA8.out with rfl | ⟨g, rfl, hg, hrow, hca, hcm⟩
  · go_wp2
    go_loopw [10] (fun i wr => i = .int .i64 0 ∧ wr = w8) (fun _ _ => 0)
    case atStart => exact ⟨rfl, rfl⟩
    case round =>
      obtain ⟨rfl, rfl⟩ := hrel
      go_wp2_with fail
      refine (cSame _ _ L L _ (S1.out.below D8.out) (HS.out.below (below_then B1.out D8.out))).mono ?_
      rintro e w9 ⟨rfl, hb⟩
      rw [decide_eq_true rfl]
      have B9 := Lib.hid (below_then (below_then B1.out D8.out) hb)
      clear hb
      go_wp2_with fail
      refine (works _).mono ?_
      rintro e w10 ⟨rfl, hb⟩
      have B10 := Lib.hid (below_then B9.out hb)
      clear hb
      go_wp2
      go_ret
      exact ⟨rfl, B10.out⟩
  · have HR := Lib.hid hrow
    clear hrow
    go_wp2
    go_loopw [10] (fun i wr => ∃ j : Nat, j ≤ na ∧ i = .int .i64 j ∧ Hid (RowAt wr g na) ∧ Hid (Below w1.heap.size w1 wr)) (fun i _ => na - (intOf i).toNat)
    case atStart => exact ⟨0, Nat.zero_le _, rfl, HR, D8⟩
    case round =>
      clear HR D8 HA8
      obtain ⟨j, hj, rfl, HR, D8⟩ := hrel
      by_cases hlt : j < na
      · obtain ⟨y, hy⟩ := HR.out.cell (j := j * 2) (by omega)
        have hf := HR.out.frozen (j * 2)
        have HR2 := Lib.hid (HR.out.set (j * 2) (.int .i64 (-1)))
        have D2 := Lib.hid (D8.out.setCell (p := ⟨g, j * 2, none⟩) hg (.int .i64 (-1)))
        go_wp2
        go_roundw
        case rel => exact ⟨j + 1, by omega, by go_num, HR2, D2⟩
        case measure => simp [intOf]; omega
      · have hje : j = na := by omega
        go_wp2_with fail
        refine (cSame _ _ L L _ (S1.out.below D8.out) (HS.out.below (below_then B1.out D8.out))).mono ?_
        rintro e w9 ⟨rfl, hb⟩
        rw [decide_eq_true rfl]
        have B9 := Lib.hid (below_then (below_then B1.out D8.out) hb)
        clear hb
        go_wp2_with fail
        refine (works _).mono ?_
        rintro e w10 ⟨rfl, hb⟩
        have B10 := Lib.hid (below_then B9.out hb)
        clear hb
        go_wp2
        go_ret
        exact ⟨rfl, B10.out⟩
theorem walkRowsV (u : Value) (l : List Wt) (v : Value) (x : Wt) (W : World) (hs : ShowW W u l) (hv : v = x.agg) :
    Calls Try.prog 3 #[u, v] W fun e W' => e = .returned (.bool true) ∧ Below W.heap.size W W' := by
  subst hv
  exact walkRows u l x.who x.due W hs
end Go.Proofs.Ytimaigeicidngaa
