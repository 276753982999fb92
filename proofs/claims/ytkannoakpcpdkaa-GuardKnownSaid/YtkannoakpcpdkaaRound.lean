/-
  GuardRound.
-/
import Derived.Test.YtkannoakpcpdkaaWorks
set_option linter.unusedVariables false
set_option linter.unusedSimpArgs false
namespace Go.Proofs.Ytkannoakpcpdkaa
open Go Go.RowKit

/-- a row that is an allocated object, whatever its own bytes are -/
def Sided (n M : Nat) (f : Nat → Int) : Prop := ∀ i, i < M → (i < 8 ∨ n + 8 ≤ i) → f i = 204
theorem Sided.start (n M : Nat) : Sided n M (outF n) := fun i _ h => outF_side h _ _ _
theorem Sided.set {n M : Nat} {f : Nat → Int} (h : Sided n M f) {k : Nat} (h1 : 8 ≤ k) (h2 : k < n + 8) (x : Int) : Sided n M (turnF f k x) := fun i hi hs => by
  unfold turnF
  rw [if_neg (by omega)]
  exact h i hi hs
set_option maxHeartbeats 8000000 in
theorem walkRound (x : Int) (u : Value) (l : List Int) (y : Int) (w : World) (hu : ShowB w u l) :
    Calls Try.prog 5 #[.int .i64 x, u, .int .i64 y] w fun e w' => e = .returned (.bool true) ∧ Below w.heap.size w w' := by
  obtain ⟨ao, cap, rfl, hcap, hat⟩ := hu.form
  have HAT := Lib.hid hat
  obtain ⟨L, hL⟩ : ∃ L, l.length = L := ⟨_, rfl⟩
  have HLL := Lib.hid hL
  rw [hL] at hcap ⊢
  clear hu hat hL
  obtain ⟨z, hz⟩ : ∃ z, bring x 1024 = z := ⟨_, rfl⟩
  have HZ := Lib.hid hz
  have hz1 : z < 1024 := by rw [← hz]; exact bring_lt x 1024 (by decide)
  clear hz
  obtain ⟨n, hn⟩ : ∃ n, n = z + 1 := ⟨_, rfl⟩
  have hn' : 1 + (z : Int) = (n : Int) := by omega
  have h1 : 1 ≤ n := by omega
  have h2 : n ≤ 1024 := by omega
  clear hn
  obtain ⟨M, hM⟩ : ∃ M, M = n + 16 := ⟨_, rfl⟩
  have HM := Lib.hid hM
  have hMn : (n : Int) + 16 = (M : Int) := by omega
  have hMb : M ≤ 1040 := by omega
  clear hM
  obtain ⟨p, hp⟩ : ∃ p, bring y n = p := ⟨_, rfl⟩
  have HP := Lib.hid hp
  have hp1 : p < n := by rw [← hp]; exact bring_lt y n h1
  clear hp
  go_enter Try.func5, Try.ntmps5
  go_wp2_with fail
  refine (cWorks w).mono ?_
  rintro e w0 ⟨rfl, hb⟩
  have B0 := Lib.hid hb
  clear hb
  go_wp2_with fail
  refine (cBringN x 1024 1024 rfl (by decide) w0).mono ?_
  rintro e w1 ⟨rfl, rfl⟩
  rw [HZ.out]
  go_wp2_with fail
  refine (cLayYes n M h1 h2 HM.out w1).mono ?_
  rintro e w2 ⟨g1, k1, rfl, G1⟩
  have H1 := Lib.hid G1
  have hk1 := G1.cap
  clear G1
  go_wp2_with fail
  refine (cOutYes _ (lst M (freeF n)) n M h1 h2 (by rw [len_lst, HM.out]) HM.out (by rw [HM.out]; exact (chk_free h1 h2).1) w2 H1.out.shows).mono ?_
  rintro e w3 ⟨g2, k2, rfl, G2⟩
  have H2 := Lib.hid G2
  have hk2 := G2.cap
  have HNE : Hid (g1 ≠ g2) := Lib.hid (by have := H1.out.row.lt; have := G2.new; omega)
  clear G2
  go_wp2_with fail
  refine (cBringN y n n rfl ⟨h1, by omega⟩ w3).mono ?_
  rintro e w4 ⟨rfl, rfl⟩
  rw [HP.out]
  have B4 : Hid (Below w.heap.size w w4) := Lib.hid (below_then (below_then B0.out H1.out.below) H2.out.below)
  go_wp2
  go_loopw [11] (fun i wr => ∃ (k : Nat) (f : Nat → Int), k ≤ L ∧ k ≤ n ∧ i = .int .i64 k ∧ Hid (Sided n M f) ∧ Hid (RowY wr g2 M f) ∧ Hid (Kept (· = g2) w4 wr)) (fun i _ => L - (intOf i).toNat)
  case atStart => exact ⟨0, _, by omega, by omega, by first | rfl | go_num, Lib.hid (Sided.start n M), Lib.hid H2.out.row, Lib.hid (Kept.refl _ _)⟩
  case round =>
    obtain ⟨k, f, hk, hkn, rfl, HSD, HR, HK⟩ := hrel
    have HGN : Hid (w.heap.size ≤ g2) := Lib.hid (by have := H2.out.new; have := H1.out.below.size; have := B0.out.size; omega)
    by_cases hlt : k < L
    · by_cases hpk : p + k < n
      · obtain ⟨b1, o1, rfl, c1⟩ := HAT.out k (by rw [HLL.out]; exact hlt)
        have d1 : wr.cell? ⟨b1, o1 + k, none⟩ = some (.int .u8 (pk l k)) := cell_kept (cell_keep B4.out c1) HK.out (by
          have := World.block_lt_of_cell? w _ c1
          have h9 : b1 < w.heap.size := this
          have := HGN.out
          intro e
          have e' : b1 = g2 := e
          omega)
        obtain ⟨s, hs⟩ : ∃ s, s = 8 + p + k := ⟨_, rfl⟩
        have hs8 : 8 + (p : Int) + (k : Int) = (s : Int) := by omega
        have hsM : s < M := by omega
        have hpk' : (p : Int) + (k : Int) < (n : Int) := by omega
        have c2 := HR.out.cell hsM
        have f2 := HR.out.free s
        generalize pk l k = q at d1
        have HS := Lib.hid (HR.out.set hsM q)
        have HD := Lib.hid (HSD.out.set (k := s) (by omega) (by omega) q)
        have HK2 := Lib.hid (HK.out.setCell (p := ⟨g2, s, none⟩) rfl (.int .u8 q))
        clear c1 hs
        go_wp2
        go_roundw
        case rel => exact ⟨k + 1, _, by omega, by omega, by go_num, HD, HS, HK2⟩
        case measure => simp [intOf]; omega
      · have hpk' : ¬ (p : Int) + (k : Int) < (n : Int) := by omega
        go_wp2_with fail
        refine (cBackYes _ (lst M f) n M h1 h2 (by rw [len_lst, HM.out]) HM.out (by have := HSD.out; rw [HM.out] at this ⊢; exact (chk_out h1 h2 this).1) wr (HR.out.shows H2.out.le H2.out.max)).mono ?_
        rintro e w5 ⟨g3, k3, rfl, G3⟩
        have H3 := Lib.hid G3
        clear G3
        have HB5 : Hid (Below w.heap.size w w5) := Lib.hid (below_then (below_kept B4.out HK.out (fun j hj => by rw [hj]; exact HGN.out)) H3.out.below)
        have HR1 : Hid (RowY w5 g1 M (freeF n)) := Lib.hid (((H1.out.row.below H2.out.below).kept HK.out HNE.out).below H3.out.below)
        go_wp2_with fail
        refine (cEqYes _ _ (lst M (freeF n)) (lst M (freeF n)) rfl w5 H3.out.shows (HR1.out.shows H1.out.le H1.out.max) (by rw [HM.out]; exact bytey_free n)).mono ?_
        rintro e w6 ⟨rfl, rfl⟩
        go_wp2
        go_ret
        exact ⟨rfl, HB5.out⟩
    · have hkL : ¬ (k : Int) < (L : Int) := by omega
      go_wp2_with fail
      refine (cBackYes _ (lst M f) n M h1 h2 (by rw [len_lst, HM.out]) HM.out (by have := HSD.out; rw [HM.out] at this ⊢; exact (chk_out h1 h2 this).1) wr (HR.out.shows H2.out.le H2.out.max)).mono ?_
      rintro e w5 ⟨g3, k3, rfl, G3⟩
      have H3 := Lib.hid G3
      clear G3
      have HB5 : Hid (Below w.heap.size w w5) := Lib.hid (below_then (below_kept B4.out HK.out (fun j hj => by rw [hj]; exact HGN.out)) H3.out.below)
      have HR1 : Hid (RowY w5 g1 M (freeF n)) := Lib.hid (((H1.out.row.below H2.out.below).kept HK.out HNE.out).below H3.out.below)
      go_wp2_with fail
      refine (cEqYes _ _ (lst M (freeF n)) (lst M (freeF n)) rfl w5 H3.out.shows (HR1.out.shows H1.out.le H1.out.max) (by rw [HM.out]; exact bytey_free n)).mono ?_
      rintro e w6 ⟨rfl, rfl⟩
      go_wp2
      go_ret
      exact ⟨rfl, HB5.out⟩
end Go.Proofs.Ytkannoakpcpdkaa
