/-
  SegsCut: what Ready answers first is the beginning of the row, which waits for no more.
-/
import Derived.Test.YtimaigeicidngaaLRows
set_option linter.unusedVariables false
set_option linter.unusedSimpArgs false
namespace Go.Proofs.Ytimaigeicidngaa
open Go Go.RowKit

theorem ShowI.cell {w : World} {ao : Option Addr} {n cap : Nat} {l : List Int} (h : ShowI w (.slice ao n cap) l) {i : Nat} (hi : i < n) : ∃ b o, ao = some ⟨b, o, none⟩ ∧ w.cell? ⟨b, o + i, none⟩ = some (.int .i64 (pk l i)) := by
  obtain ⟨ao', cap', e, _, hat⟩ := h.form
  obtain ⟨rfl, hn, rfl⟩ : ao = ao' ∧ n = l.length ∧ cap = cap' := by simpa using e
  exact hat i (by omega)
theorem ShowW.cell {w : World} {ao : Option Addr} {n cap : Nat} {l : List Wt} (h : ShowW w (.slice ao n cap) l) {i : Nat} (hi : i < n) : ∃ b o, ao = some ⟨b, o, none⟩ ∧ w.cell? ⟨b, o + i * 2, none⟩ = some (.int .i64 (wt l i).who) ∧ w.cell? ⟨b, o + i * 2 + 1, none⟩ = some (.int .i64 (wt l i).due) := by
  obtain ⟨ao', cap', e, _, hat⟩ := h.form
  obtain ⟨rfl, hn, rfl⟩ : ao = ao' ∧ n = l.length ∧ cap = cap' := by simpa using e
  exact hat i (by omega)
theorem pk_ids {l : List Wt} {k i : Nat} (hi : i < k) (hk : k ≤ l.length) : pk (ids (l.take k)) i = (wt l i).who := by
  have h1 : i < (ids (l.take k)).length := by rw [take_len hk]; exact hi
  rw [← pk_at _ _ h1, ← wt_at l i (by omega)]
  simp [ids]
set_option maxHeartbeats 4000000 in
set_option maxRecDepth 100000 in
theorem walkCut (u : Value) (l : List Wt) (d : Int) (W : World) (hs : ShowW W u l) :
    Calls Try.prog 5 #[u, .int .i64 d] W fun e W' => e = .returned (.bool true) ∧ Below W.heap.size W W' := by
  obtain ⟨ao, cap, rfl, hcap, hat⟩ := hs.form
  obtain ⟨c, hc⟩ : ∃ c, chkF l = c := ⟨_, rfl⟩
  have HC := Lib.hid hc
  have HS := Lib.hid hs
  clear hs hc
  go_enter Try.func5, Try.ntmps5
  go_wp2_with fail
  refine (works _).mono ?_
  rintro e w1 ⟨rfl, hb⟩
  have B1 := Lib.hid hb
  clear hb
  go_wp2_with fail
  refine (cReady _ l d _ (HS.out.below B1.out)).mono ?_
  rintro e w2 ⟨i1, n1, c1, r1, m1, k1, hn1, hm1, rfl, hoi, hor, hb⟩
  rw [HC.out]
  have B2 := Lib.hid (below_then B1.out hb)
  clear hb B1
  by_cases hc0 : c = 0
  rotate_left
  · obtain ⟨h1, h2⟩ := rdy_no (d := d) (fun e => hc0 (HC.out.symm.trans e))
    rw [h1] at hn1
    rw [h2] at hm1
    obtain rfl : n1 = 0 := hn1
    obtain rfl : m1 = 0 := hm1
    have hq : (c != 0) = true := by simpa using hc0
    clear h1 h2 hoi hor
    go_wp2_with fail
    refine (cCheck _ l c HC.out _ (HS.out.below B2.out)).mono ?_
    rintro e w3 ⟨rfl, hb⟩
    have B3 := Lib.hid (below_then B2.out hb)
    clear hb
    go_wp2
    go_ret
    exact ⟨rfl, B3.out⟩
  subst hc0
  obtain ⟨h1, h2⟩ := rdy_ok (d := d) HC.out
  have hlen := chk_len HC.out
  rw [h1] at hn1 hoi
  rw [h2] at hm1 hor
  obtain ⟨K, hK⟩ : ∃ K, cutN d l = K := ⟨_, rfl⟩
  have hKl : K ≤ l.length := by rw [← hK]; exact cutN_le d l
  have HLT : Hid (∀ j, j < K → (wt l j).due ≤ d) := Lib.hid (by rw [← hK]; exact cutN_lt d l)
  have HGE : Hid (∀ j, K ≤ j → j < l.length → d < (wt l j).due) := Lib.hid (fun j h1 h2 => by
    have := cutN_at d l (by omega)
    have := due_le (chk_go.1 HC.out).2 (i := cutN d l) (j := j) (by omega) h2
    omega)
  have HAG : Hid (rdyI (l.drop K) d = [] ∧ rdyR (l.drop K) d = l.drop K ∧ chkF (l.drop K) = 0) := Lib.hid (by
    have h3 := chk_drop HC.out K
    obtain ⟨h4, h5⟩ := rdy_ok (d := d) h3
    have h6 : cutN d (l.drop K) = 0 := by rw [← hK]; exact cut_again
    rw [h6] at h4 h5
    exact ⟨h4, h5, h3⟩)
  rw [hK] at hn1 hoi hm1 hor
  rw [take_len hKl] at hn1
  rw [List.length_drop] at hm1
  subst hn1 hm1
  have HOI := Lib.hid hoi.shows
  have HOR := Lib.hid hor.shows
  clear h1 h2 hK hoi hor
  obtain ⟨m, hm⟩ : ∃ m, l.length - n1 = m := ⟨_, rfl⟩
  rw [hm] at HOR ⊢
  have hsum : (n1 : Int) + (m : Int) = (l.length : Int) := by omega
  have hsq : ((n1 : Int) + (m : Int) != (l.length : Int)) = false := by simp [hsum]
  have HM := Lib.hid hm
  have HSUM := Lib.hid hsum
  clear hm
  go_wp2
  go_loopw [8] (fun x wr => ∃ i : Nat, i ≤ l.length ∧ x = .int .i64 i ∧ Below w2.heap.size w2 wr) (fun x _ => l.length - (intOf x).toNat)
  case atStart => exact ⟨0, by omega, rfl, Below.refl _ _⟩
  case round =>
    obtain ⟨i, hi, rfl, hb⟩ := hrel
    by_cases hlt : i < l.length
    · obtain ⟨b0, o0, rfl, y1, y2⟩ := hat i hlt
      have e1 := cell_keep hb (cell_keep B2.out y1)
      have e2 := cell_keep hb (cell_keep B2.out y2)
      clear y1 y2
      by_cases hiK : i < n1
      · obtain ⟨b3, o3, rfl, y3⟩ := HOI.out.cell hiK
        rw [pk_ids hiK hKl] at y3
        have e3 := cell_keep hb y3
        have hle := HLT.out i hiK
        generalize (wt l i).who = x at e1 e3
        generalize (wt l i).due = y at e2 hle
        have hiKi : (i : Int) < (n1 : Int) := by omega
        have q1 : decide (d < y) = false := decide_eq_false (by omega)
        have q2 : decide ((n1 : Int) ≤ (i : Int)) = false := decide_eq_false (by omega)
        have q3 : decide (n1 ≤ i) = false := decide_eq_false (by omega)
        clear y3 hle
        go_wp2
        go_quiet (fail)
        go_wp2
        go_quiet (fail)
        go_wp2
        go_roundw
        case rel => exact ⟨i + 1, by omega, by go_num, below_drewN hb _⟩
        case measure => simp [intOf]; omega
      · obtain ⟨j, hj⟩ : ∃ j, i - n1 = j := ⟨_, rfl⟩
        have hjm : j < m := by have := HM.out; omega
        obtain ⟨b3, o3, rfl, y3, y4⟩ := HOR.out.cell hjm
        rw [wt_drop, show n1 + j = i by omega] at y3 y4
        have e3 := cell_keep hb y3
        have e4 := cell_keep hb y4
        have hle := HGE.out i (by omega) hlt
        have heq : ∀ w', (Op.equalIn 10000 24 (.agg #[.int .i64 (wt l i).who, .int .i64 (wt l i).due]) (.agg #[.int .i64 (wt l i).who, .int .i64 (wt l i).due])).run Try.prog w' = .ok true w' := fun w' => eqinIs (decide_eq_true rfl)
        have hgd := guardW
        generalize (wt l i).who = x at e1 e3 heq
        generalize (wt l i).due = y at e2 e4 hle heq
        have q1 : decide (y ≤ d) = false := decide_eq_false (by omega)
        have q2 : decide ((i : Int) < (n1 : Int)) = false := decide_eq_false (by omega)
        have q3 : decide (i < n1) = false := decide_eq_false (by omega)
        have q4 : (n1 : Int) ≤ (i : Int) := by omega
        have q5 : IntKind.i64.wrap ((i : Int) - (n1 : Int)) = (j : Int) := by rw [show (i : Int) - (n1 : Int) = (j : Int) by omega]; exact IntWalk.i64_in _ (by omega)
        have q6 : (j : Int) < (m : Int) := by omega
        clear y3 y4 hle hj
        go_wp2
        go_quiet (fail)
        go_wp2
        go_quiet (fail)
        go_wp2
        go_roundw
        case rel => exact ⟨i + 1, by omega, by go_num, below_drewN hb _⟩
        case measure => simp [intOf]; omega
    · have hie : i = l.length := by omega
      have B3 := Lib.hid (below_then B2.out hb)
      go_wp2_with fail
      refine (cReady _ (l.drop n1) d _ (HOR.out.below hb)).mono ?_
      rintro e w4 ⟨i5, n5, c5, r5, m5, k5, hn5, hm5, rfl, _, _, hb5⟩
      rw [HAG.out.2.2]
      rw [HAG.out.1] at hn5
      rw [HAG.out.2.1, List.length_drop, HM.out] at hm5
      obtain rfl : n5 = 0 := hn5
      subst hm5
      have B4 := Lib.hid (below_then B3.out hb5)
      clear hb5
      go_wp2
      go_ret
      exact ⟨rfl, B4.out⟩
end Go.Proofs.Ytimaigeicidngaa
