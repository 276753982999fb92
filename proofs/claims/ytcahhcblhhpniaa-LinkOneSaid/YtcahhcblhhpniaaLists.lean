/-
  The laws LinkLists and LinkAll, walked.
-/
import Derived.Test.YtcahhcblhhpniaaWorks
import Derived.Test.YtcahhcblhhpniaaRlist
set_option linter.unusedVariables false
set_option linter.unusedSimpArgs false
namespace Go.Proofs.Ytcahhcblhhpniaa
open Go Go.RowKit

theorem cList (u : Value) (l : List Int) (k a : Int) (out : List Int) (err : Int) (w : World) (hs : ShowU w u l) (hk : okW k) (hr : lst l k a = (out, err)) :
    Calls Try.prog 15 #[u, .int .u64 k, .int .i64 a] w fun e w' => ∃ ao cp, e = .returned (.tuple #[.slice ao out.length cp, .int .i64 err]) ∧ OwnI w.heap.size w' (.slice ao out.length cp) out ∧ Below w.heap.size w w' := by
  by_cases h : okL l a
  · exact cListOk u l k a out err w hs hk h hr
  · refine (cListBad u l k a hs h).mono ?_
    rintro e w' ⟨rfl, rfl⟩
    rw [lst_bad h] at hr
    obtain ⟨rfl, rfl⟩ := Prod.mk.inj hr
    exact ⟨none, 0, rfl, OwnI.nil _ _, Below.refl _ _⟩
theorem rList (u : Value) (l : List Int) (k a : Int) (out : List Int) (err : Int) (w : World) (hs : ShowU w u l) (hk : okW k) (hr : lst l k a = (out, err)) :
    Calls Try.prog 16 #[u, .int .u64 k, .int .i64 a] w fun e w' => ∃ ao cp, e = .returned (.tuple #[.slice ao out.length cp, .int .i64 err]) ∧ OwnI w.heap.size w' (.slice ao out.length cp) out ∧ Below w.heap.size w w' := by
  by_cases h : okL l a
  · exact rListOk u l k a out err w hs hk h hr
  · refine (rListBad u l k a hs h).mono ?_
    rintro e w' ⟨rfl, rfl⟩
    rw [lst_bad h] at hr
    obtain ⟨rfl, rfl⟩ := Prod.mk.inj hr
    exact ⟨none, 0, rfl, OwnI.nil _ _, Below.refl _ _⟩
def RowAt (w : World) (g n : Nat) : Prop := ∃ c : Array Value, w.heap[g]? = some (.cells c 3 (0, 0)) ∧ n ≤ c.size
theorem RowAt.frozen {w : World} {g n : Nat} (h : RowAt w g n) (j : Nat) : w.frozen? ⟨g, j, none⟩ = false := by
  obtain ⟨c, hb, _⟩ := h
  exact self_free hb j
theorem RowAt.cell {w : World} {g n : Nat} (h : RowAt w g n) {j : Nat} (hj : j < n) : ∃ u, w.cell? ⟨g, j, none⟩ = some u := by
  obtain ⟨c, hb, hc⟩ := h
  exact ⟨_, self_cell hb j _ (Array.getElem?_eq_getElem (by omega))⟩
theorem RowAt.set {w : World} {g n : Nat} (h : RowAt w g n) (j : Nat) (u : Value) : RowAt (w.setCell ⟨g, j, none⟩ u) g n := by
  obtain ⟨c, hb, hc⟩ := h
  exact ⟨_, cells_set hb j u, by simpa using hc⟩
theorem RowAt.below {w w' : World} {g n : Nat} (h : RowAt w g n) (hb : Below w.heap.size w w') : RowAt w' g n := by
  obtain ⟨c, hg, hc⟩ := h
  exact ⟨c, keep_block hg hb, hc⟩
theorem row_of {w : World} {B n : Nat} {ao : Option Addr} {cap : Nat} {l : List Int} (h : OwnI B w (.slice ao n cap) l) : n = 0 ∨ ∃ g, ao = some ⟨g, 0, none⟩ ∧ B ≤ g ∧ RowAt w g n ∧ n ≤ cap ∧ cap ≤ 9223372036854775807 := by
  rcases h.2 with ⟨e, _⟩ | ⟨g, cp, cur, e, hB, hb, hc, hm, hsz, _⟩
  · cases e
    exact .inl rfl
  · cases e
    exact .inr ⟨g, rfl, hB, ⟨cur, hb, by rw [hsz]; omega⟩, hc, by unfold maxLen at hm; omega⟩
set_option maxHeartbeats 4000000 in
set_option maxRecDepth 100000 in
theorem walkLists (u : Value) (l : List Int) (k a : Int) (W : World) (hs : ShowU W u l) (hl : l.length ≤ 17592186044416) (hk : okW k) : Calls Try.prog 4 #[u, .int .u64 k, .int .i64 a] W fun e W' => e = .returned (.bool true) ∧ Below W.heap.size W W' := by
  obtain ⟨out, err, hr⟩ : ∃ out err, lst l k a = (out, err) := ⟨_, _, rfl⟩
  have HC : Hid (∀ u w, ShowU w u l → Calls Try.prog 15 #[u, .int .u64 k, .int .i64 a] w fun e w' => ∃ ao cp, e = .returned (.tuple #[.slice ao out.length cp, .int .i64 err]) ∧ OwnI w.heap.size w' (.slice ao out.length cp) out ∧ Below w.heap.size w w') := Lib.hid (fun u w h => cList u l k a out err w h hk hr)
  have HR : Hid (∀ u w, ShowU w u l → Calls Try.prog 16 #[u, .int .u64 k, .int .i64 a] w fun e w' => ∃ ao cp, e = .returned (.tuple #[.slice ao out.length cp, .int .i64 err]) ∧ OwnI w.heap.size w' (.slice ao out.length cp) out ∧ Below w.heap.size w w') := Lib.hid (fun u w h => rList u l k a out err w h hk hr)
  have HS := Lib.hid hs
  have hee : (err == err) = true := by simp
  obtain ⟨n, hn⟩ : ∃ n, out.length = n := ⟨_, rfl⟩
  rw [hn] at HC HR
  clear hr hk hn
  go_enter Try.func4, Try.ntmps4
  go_wp2_with (at_builtin; refine wpList_copyU (by rfl) _ _ (by rfl) (by rfl) u l hs (by rfl) hl ?_)
  intro ao cap w1 hown hb
  have H1 := Lib.hid (own_u hown)
  have HW1 := Lib.hid hb
  have HU1 := Lib.hid (hs.below hb)
  obtain ⟨v, hv⟩ : ∃ v, Value.slice ao l.length cap = v := ⟨_, rfl⟩
  rw [hv] at H1 ⊢
  clear hown hb hs hv
  go_wp2_with fail
  refine (HC.out _ _ H1.out).mono ?_
  rintro e w2 ⟨xo, xc, rfl, ho2, hb2⟩
  have HB2 := Lib.hid hb2
  have HO2 := Lib.hid ho2
  have HU2 := Lib.hid (HU1.out.below hb2)
  clear hb2 ho2 HC HU1
  go_wp2_with fail
  refine (HR.out _ _ HU2.out).mono ?_
  rintro e w3 ⟨yo, yc, rfl, ho3, hb3⟩
  have HB3 := Lib.hid (HB2.out.trans (hb3.mono HB2.out.size))
  have HO3 := Lib.hid (OwnI.below HO2.out hb3)
  have HP3 := Lib.hid ho3.shows
  clear hb3 ho3 HR HU2 HB2 HO2
  go_wp2_with fail
  refine (cEqYes _ _ _ _ rfl _ HO3.out.shows HP3.out).mono ?_
  rintro e w4 ⟨rfl, hb4⟩
  have HB4 := Lib.hid (HB3.out.trans (hb4.mono HB3.out.size))
  have HO4 := Lib.hid (OwnI.below HO3.out hb4)
  clear hb4 HB3 HO3 HP3
  have HT : Hid (∀ wz, Below w1.heap.size w1 wz → ShowU wz v l ∧ ShowU wz u l ∧ Below W.heap.size W wz) := Lib.hid (fun wz h => ⟨H1.out.below h, (HS.out.below HW1.out).below h, below_then HW1.out h⟩)
  rcases row_of HO4.out with rfl | ⟨g, rfl, hg, hrow, hc1, hc2⟩
  · go_wp2
    go_loopw [13] (fun i wr => i = .int .i64 0 ∧ Hid (Below w1.heap.size w1 wr)) (fun i _ => 0)
    case atStart => exact ⟨rfl, HB4⟩
    case round =>
      obtain ⟨rfl, HB⟩ := hrel
      obtain ⟨t1, t2, t3⟩ := HT.out _ HB.out
      have T1 := Lib.hid t1
      have T2 := Lib.hid t2
      have T3 := Lib.hid t3
      clear t1 t2 t3
      go_wp2_with fail
      refine (cEqWYes _ _ _ _ rfl _ T1.out T2.out).mono ?_
      rintro e w5 ⟨rfl, hb5⟩
      have HW5 := Lib.hid (below_then T3.out hb5)
      clear hb5 T1 T2 T3
      go_wp2_with fail
      refine (works _).mono ?_
      rintro e w6 ⟨rfl, hb6⟩
      have HW6 := Lib.hid (below_then HW5.out hb6)
      clear hb6 HW5
      go_wp2
      go_ret
      exact ⟨rfl, HW6.out⟩
  · have HR := Lib.hid hrow
    have HG := Lib.hid hg
    clear hrow hg HO4
    go_wp2
    go_loopw [13] (fun i wr => ∃ j : Nat, j ≤ n ∧ i = .int .i64 j ∧ Hid (RowAt wr g n) ∧ Hid (Below w1.heap.size w1 wr)) (fun i _ => n - (intOf i).toNat)
    case atStart => exact ⟨0, Nat.zero_le _, rfl, HR, HB4⟩
    case round =>
      clear HR HB4
      obtain ⟨j, hj, rfl, HR, HB⟩ := hrel
      by_cases hlt : j < n
      · obtain ⟨y, hy⟩ := HR.out.cell hlt
        have hf := HR.out.frozen j
        have HR2 := Lib.hid (HR.out.set j (.int .i64 (-9)))
        have D2 := Lib.hid (HB.out.setCell (p := ⟨g, j, none⟩) HG.out (.int .i64 (-9)))
        go_wp2
        go_roundw
        case rel => exact ⟨j + 1, by omega, by go_num, HR2, D2⟩
        case measure => simp [intOf]; omega
      · obtain rfl : j = n := by omega
        clear hj hlt HR
        obtain ⟨t1, t2, t3⟩ := HT.out _ HB.out
        have T1 := Lib.hid t1
        have T2 := Lib.hid t2
        have T3 := Lib.hid t3
        clear t1 t2 t3
        go_wp2_with fail
        refine (cEqWYes _ _ _ _ rfl _ T1.out T2.out).mono ?_
        rintro e w5 ⟨rfl, hb5⟩
        have HW5 := Lib.hid (below_then T3.out hb5)
        clear hb5 T1 T2 T3
        go_wp2_with fail
        refine (works _).mono ?_
        rintro e w6 ⟨rfl, hb6⟩
        have HW6 := Lib.hid (below_then HW5.out hb6)
        clear hb6 HW5
        go_wp2
        go_ret
        exact ⟨rfl, HW6.out⟩
set_option maxHeartbeats 4000000 in
theorem walkAll (x k : Int) (hk : okW k) (W : World) : Calls Try.prog 8 #[.int .i64 x, .int .u64 k] W fun e W' => e = .returned (.bool true) ∧ Below W.heap.size W W' := by
  have HX := Lib.hid (cBringN x 16 16 rfl (by decide))
  have h1 := bring_lt x 16 (by decide)
  generalize bring x 16 = M at *
  obtain ⟨N, hN⟩ : ∃ N : Nat, 1 + M = N := ⟨_, rfl⟩
  have hni : (1 : Int) + (M : Int) = (N : Int) := by omega
  have n1 : 1 ≤ N := by omega
  have n2 : N ≤ 16 := by omega
  have hup : (upF N 0).length = N := by simp [upF]
  have hnn : ((N : Int) != (N : Int)) = false := by simp
  have HF := Lib.hid (cFresh N k n1 n2 hk)
  have HL : Hid (∀ u w, ShowU w u (frs N k) → Calls Try.prog 15 #[u, .int .u64 k, .int .i64 0] w fun e w' => ∃ ao cp, e = .returned (.tuple #[.slice ao N cp, .int .i64 0]) ∧ OwnI w.heap.size w' (.slice ao N cp) (upF N 0) ∧ Below w.heap.size w w') := Lib.hid (fun u w h => by
    have h2 := cList u _ k 0 _ 0 w h hk (lst_fresh (i := 0) n2 (by omega))
    rw [hup] at h2
    exact h2)
  have HU : Hid (∀ i, i < N → pk (upF N 0) i = (i : Int)) := Lib.hid (fun i hi => by simp [pk, upF, hi])
  have HP := Lib.hid hup
  have HFL := frs_len N k
  clear hk hN hup
  go_enter Try.func8, Try.ntmps8
  go_wp2_with fail
  refine (HX.out _).mono ?_
  rintro e w1 ⟨rfl, rfl⟩
  go_wp2_with fail
  refine (HF.out _).mono ?_
  rintro e w1 ⟨g, rfl, hg1, hs1, hb1⟩
  have HW1 := Lib.hid hb1
  have HS1 := Lib.hid (hs1.show_ HFL (by omega))
  clear hb1 hs1 hg1 HF
  go_wp2_with fail
  refine (HL.out _ _ HS1.out).mono ?_
  rintro e w2 ⟨xo, xc, rfl, ho2, hb2⟩
  have HW2 := Lib.hid (below_then HW1.out hb2)
  have HO2 := Lib.hid ho2.shows
  clear hb2 ho2 HS1 HL HW1
  obtain ⟨ao', cp', ev, _, hat⟩ := HO2.out.form
  rw [HP.out] at ev
  obtain ⟨rfl, _, rfl⟩ := Value.slice.inj ev
  clear ev
  go_wp2
  go_loopw [10] (fun i wr => ∃ j : Nat, j ≤ N ∧ i = .int .i64 j ∧ wr = w2) (fun i _ => N - (intOf i).toNat)
  case atStart => exact ⟨0, Nat.zero_le _, rfl, rfl⟩
  case round =>
    obtain ⟨j, hj, rfl, rfl⟩ := hrel
    by_cases hlt : j < N
    · obtain ⟨b1, o1, rfl, c1⟩ := hat j (by rw [HP.out]; exact hlt)
      rw [HU.out j hlt] at c1
      have hjj : ((j : Int) != (j : Int)) = false := by simp
      clear hat
      go_wp2
      go_roundw
      case rel => exact ⟨j + 1, by omega, by go_num, trivial⟩
      case measure => simp [intOf]; omega
    · obtain rfl : j = N := by omega
      clear hat
      go_wp2_with fail
      refine (works _).mono ?_
      rintro e w6 ⟨rfl, hb6⟩
      have HW6 := Lib.hid (below_then HW2.out hb6)
      clear hb6 HW2
      go_wp2
      go_ret
      exact ⟨rfl, HW6.out⟩
end Go.Proofs.Ytcahhcblhhpniaa
