/-
  The law TreeHeirs, walked.
-/
import Derived.Test.YtbdlkglngjjpjaaOne
set_option linter.unusedVariables false
set_option linter.unusedSimpArgs false
namespace Go.Proofs.Ytbdlkglngjjpjaa
open Go Go.RowKit

section
variable {W w w' : World} {B g j : Nat} {t : Tr}
theorem getD_mem {l : List Nat} {j : Nat} (h : j < l.length) : l.getD j 0 ∈ l := by
  rw [List.getD_eq_getElem?_getD, List.getElem?_eq_getElem h]
  exact List.getElem_mem h
/-- the groups of a path are groups -/
theorem path_in_range (hI : TI t) (h1 : 1 ≤ g) (h2 : g ≤ t.n) (hj : j < (path t g).length) : 1 ≤ (path t g).getD j 0 ∧ (path t g).getD j 0 ≤ t.n := by
  have := path_mem hI g h1 h2 _ (getD_mem hj)
  omega
theorem exists_at {l : List Nat} {x : Nat} (h : x ∈ l) : ∃ j, j < l.length ∧ l.getD j 0 = x := by
  obtain ⟨j, hj, e⟩ := List.getElem_of_mem h
  exact ⟨j, hj, by rw [List.getD_eq_getElem?_getD, List.getElem?_eq_getElem hj]; exact e⟩
end
set_option maxHeartbeats 2000000 in
set_option maxRecDepth 100000 in
theorem walkHeirs (u : Value) (l : List Wt) (W : World) (hs : ShowW W u l) : Calls Try.prog 5 #[u] W fun e W' => e = .returned (.bool true) ∧ Below W.heap.size W W' := by
  have HSW := Lib.hid hs
  clear hs
  go_enter Try.func5, Try.ntmps5
  go_wp2_with fail
  refine (cGrown u l W HSW.out).mono ?_
  rintro e w1 ⟨B, t, rfl, h1⟩
  have H1 := Lib.hid h1
  have HI := Lib.hid h1.ti
  clear h1 HSW
  go_wp2
  go_loopw [4] (fun i wr => ∃ g : Nat, 1 ≤ g ∧ g ≤ t.n + 1 ∧ i = .int .i64 g ∧ Hid (T1 W wr B t)) (fun i _ => t.n + 1 - (intOf i).toNat)
  case atStart => exact ⟨1, by omega, by omega, rfl, H1⟩
  case round =>
    clear H1
    obtain ⟨g, hg1, hg2, rfl, HT⟩ := hrel
    obtain ⟨N, hN⟩ : ∃ N, t.n = N := ⟨_, rfl⟩
    have HN := Lib.hid hN
    have hN16 : N ≤ 16 := by have := HI.out.n1.2; omega
    rw [hN] at hg2 ⊢
    clear hN
    by_cases hlt : g ≤ N
    · have HG : Hid (1 ≤ g ∧ g ≤ t.n) := Lib.hid (by rw [HN.out]; exact ⟨hg1, hlt⟩)
      obtain ⟨P, hP⟩ : ∃ P, path t g = P := ⟨_, rfl⟩
      have HP := Lib.hid hP
      obtain ⟨L, hL⟩ : ∃ L, ints P = L := ⟨_, rfl⟩
      have HL := Lib.hid hL
      have HPL : Hid (ints (path t (nu t.n (g : Int))) = L) := Lib.hid (by rw [nu_yes HG.out, hP]; exact hL)
      have HLEN : Hid (L.length = P.length) := Lib.hid (by rw [← hL, List.length_map])
      obtain ⟨hh, hhh⟩ : ∃ hh, heir t g = hh := ⟨_, rfl⟩
      have HH := Lib.hid hhh
      have HHN : Hid (heir t (nu t.n (g : Int)) = hh) := Lib.hid (by rw [nu_yes HG.out]; exact hhh)
      clear hP hL hhh
      go_wp2_with fail
      refine (cMany HT.out.tq).mono ?_
      rintro e w2 ⟨rfl, rfl⟩
      rw [HN.out]
      go_wp2_with fail
      refine (cPath HPL.out HT.out.tq).mono ?_
      rintro e w3 ⟨ao, cap, rfl, hown, hb⟩
      have H3 := Lib.hid (And.intro (HT.out.below hb) hown)
      clear hown hb
      go_wp2_with fail
      refine (cHeir HHN.out H3.out.1.tq).mono ?_
      rintro e w4 ⟨rfl, hb⟩
      have H4 := Lib.hid (H3.out.1.below hb)
      obtain ⟨ao', cap', e, hcap, hat⟩ := (H3.out.2.below hb).shows.form
      cases e
      have HAT := Lib.hid hat
      clear hb hat H3
      go_wp2
      go_loopw [7] (fun i wr => ∃ j : Nat, j ≤ L.length ∧ i = .int .i64 j ∧ wr = w4 ∧ Hid (∀ i, i < j → P.getD i 0 ≠ hh)) (fun i _ => L.length - (intOf i).toNat)
      case atStart => exact ⟨0, Nat.zero_le _, rfl, rfl, Lib.hid (fun i hi => by omega)⟩
      case round =>
        obtain ⟨j, hj, rfl, rfl, HA⟩ := hrel
        by_cases hjl : j < L.length
        · obtain ⟨b, o, rfl, hc⟩ := HAT.out j hjl
          obtain ⟨z, hz⟩ : ∃ z, P.getD j 0 = z := ⟨_, rfl⟩
          have HZ := Lib.hid hz
          rw [← HL.out, pk_ints, hz] at hc
          have HZN : Hid (1 ≤ z ∧ z ≤ t.n) := Lib.hid (by
            have h1 := path_in_range HI.out HG.out.1 HG.out.2 (j := j) (by rw [HP.out, ← HLEN.out]; exact hjl)
            rw [HP.out, hz] at h1
            exact h1)
          clear hz
          by_cases hzh : z = hh
          · subst hzh
            have hne : ((z : Int) != (z : Int)) = false := by simp
            have hjne : ((j : Int) == (L.length : Int)) = false := by simp; omega
            have HON : Hid (t.on (nu t.n (z : Int)) = true) := Lib.hid (by rw [nu_yes HZN.out, ← HH.out]; exact (heir_is HI.out g HG.out.1 HG.out.2).1)
            cases hog : t.on g with
            | true =>
              obtain rfl : z = g := by rw [← HH.out]; exact heir_on HI.out HG.out.1 HG.out.2 hog
              go_wp2_with fail
              refine (cOnline H4.out.tq _ _ HON.out).mono ?_
              rintro e w5 ⟨rfl, rfl⟩
              go_wp2_with fail
              refine (cOnline H4.out.tq _ _ HON.out).mono ?_
              rintro e w5 ⟨rfl, rfl⟩
              go_wp2
              go_roundw
              case rel => exact ⟨z + 1, by omega, by omega, by go_num, H4⟩
              case measure => simp [intOf]; omega
            | false =>
              have hzg : z ≠ g := fun e => by
                have h1 := HON.out
                rw [nu_yes HZN.out, e, hog] at h1
                cases h1
              have hgh : ((z : Int) == (g : Int)) = false := by simp; omega
              have HOG : Hid (t.on (nu t.n (g : Int)) = false) := Lib.hid (by rw [nu_yes HG.out]; exact hog)
              clear hog
              go_wp2_with fail
              refine (cOnline H4.out.tq _ _ HON.out).mono ?_
              rintro e w5 ⟨rfl, rfl⟩
              go_wp2_with fail
              refine (cOnline H4.out.tq _ _ HOG.out).mono ?_
              rintro e w5 ⟨rfl, rfl⟩
              go_wp2
              go_roundw
              case rel => exact ⟨g + 1, by omega, by omega, by go_num, H4⟩
              case measure => simp [intOf]; omega
          · have hne : ((z : Int) != (hh : Int)) = true := by simp; omega
            have HOZ : Hid (t.on (nu t.n (z : Int)) = false) := Lib.hid (by
              rw [nu_yes HZN.out]
              have h1 := heir_ahead HI.out g HG.out.1 HG.out.2 j
              rw [HP.out, HH.out, HZ.out] at h1
              exact h1 (by rw [← HLEN.out]; exact hjl) HA.out hzh)
            have HA2 : Hid (∀ i, i < j + 1 → P.getD i 0 ≠ hh) := Lib.hid (fun i hi => by
              by_cases e : i = j
              · subst e; rw [HZ.out]; exact hzh
              · exact HA.out i (by omega))
            clear hzh
            go_wp2_with fail
            refine (cOnline H4.out.tq _ _ HOZ.out).mono ?_
            rintro e w5 ⟨rfl, rfl⟩
            go_wp2
            go_roundw
            case rel => exact ⟨j + 1, by omega, by go_num, by trivial, HA2⟩
            case measure => simp [intOf]; omega
        · exfalso
          obtain ⟨i, hi, e⟩ := exists_at (heir_is HI.out g HG.out.1 HG.out.2).2
          rw [HP.out] at hi e
          rw [HH.out] at e
          exact HA.out i (by rw [← HLEN.out] at hi; omega) e
    · obtain rfl : g = N + 1 := by omega
      have HO1 : Hid (t.on (nu t.n 1) = true) := Lib.hid (by rw [show (1 : Int) = ((1 : Nat) : Int) from rfl, nu_yes ⟨Nat.le_refl _, HI.out.n1.1⟩]; exact HI.out.on1)
      go_wp2_with fail
      refine (cMany HT.out.tq).mono ?_
      rintro e w2 ⟨rfl, rfl⟩
      rw [HN.out]
      go_wp2_with fail
      refine (cOnline HT.out.tq _ _ HO1.out).mono ?_
      rintro e w5 ⟨rfl, rfl⟩
      go_wp2_with fail
      refine (works _).mono ?_
      rintro e w6 ⟨rfl, hb⟩
      have HB := Lib.hid (below_then HT.out.low hb)
      clear hb
      go_wp2
      go_ret
      exact ⟨rfl, HB.out⟩
end Go.Proofs.Ytbdlkglngjjpjaa
