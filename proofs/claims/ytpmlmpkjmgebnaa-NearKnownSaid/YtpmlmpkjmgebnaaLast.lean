/-
  The law NearLast, walked.
-/
import Derived.Test.YtpmlmpkjmgebnaaOne
set_option linter.unusedVariables false
set_option linter.unusedSimpArgs false
namespace Go.Proofs.Ytpmlmpkjmgebnaa
open Go Go.RowKit

theorem cBringN (x m : Int) (n : Nat) (hm : m = n) (h : 1 ≤ n ∧ n ≤ 2000) (w : World) : Calls Try.prog 14 #[.int .i64 x, .int .i64 m] w fun e w' => e = .returned (.int .i64 (bring x n)) ∧ w' = w := by
  subst hm
  exact cBring x n w (by omega) (by omega)
theorem nonempty_take {l : List Int} {k : Nat} (h1 : 1 ≤ k) (h2 : 1 ≤ l.length) : 0 < (l.take k).length := by simp; omega
set_option maxHeartbeats 16000000 in
set_option maxRecDepth 100000 in
theorem walkLast (x0 : Int) (u : Value) (l : List Int) (W : World) (hs : ShowI W u l) : Calls Try.prog 5 #[.int .i64 x0, u] W fun e W' => e = .returned (.bool true) ∧ Below W.heap.size W W' := by
  obtain ⟨ao, cap, rfl, hcap, hat⟩ := hs.form
  clear hs
  obtain ⟨lim, hlim⟩ : ∃ lim, bring x0 65 = lim := ⟨_, rfl⟩
  have hl64 : lim ≤ 64 := by have := bring_lt x0 65 (by decide); omega
  have HL := Lib.hid hlim
  clear hlim
  go_enter Try.func5, Try.ntmps5
  go_wp2_with fail
  refine (cBringN x0 65 65 rfl (by decide) _).mono ?_
  rintro e w1 ⟨rfl, rfl⟩
  rw [HL.out]
  go_wp2_with fail
  refine (oNew (W := w1) 1 lim 1 lim w1 rfl rfl (by decide) hl64 (Below.refl _ _)).mono ?_
  rintro e w2 ⟨B, g, rfl, h1⟩
  have H1 := Lib.hid h1
  clear h1 HL
  go_wp2
  go_loopw [7] (fun i wr => ∃ (k : Nat) (vs : Nat → Value) (f : F), k ≤ l.length ∧ k ≤ 100 ∧ i = .int .i64 k ∧ Hid (One w1 wr B g vs 1 lim f)) (fun i _ => l.length - (intOf i).toNat)
  case atStart => exact ⟨0, _, _, by omega, by omega, rfl, H1⟩
  case round =>
    obtain ⟨k, vs, f, hk, hk100, rfl, HO⟩ := hrel
    by_cases hlt : k < l.length
    · by_cases hlt2 : k < 100
      · obtain ⟨b1, o1, rfl, c1⟩ := hat k hlt
        have d1 := cell_keep HO.out.low c1
        clear c1
        generalize pk l k = y at d1
        obtain ⟨p, hp⟩ : ∃ p, bring y 1024 = p := ⟨_, rfl⟩
        have hp2 : p < 1024 := by have := bring_lt y 1024 (by decide); omega
        have HP := Lib.hid hp
        clear hp
        go_wp2_with fail
        refine (cBringN y 1024 1024 rfl (by decide) _).mono ?_
        rintro e w3 ⟨rfl, rfl⟩
        rw [HP.out]
        clear HP
        obtain ⟨out, er, f', hr⟩ := put_is 1 lim f 0 p
        have HR := Lib.hid hr
        go_wp2_with fail
        refine (oPut HO.out HR.out).mono ?_
        rintro e w4 ⟨v4, vs4, rfl, h4, _, ho4⟩
        obtain ⟨a4, cp4, rfl, hcp4, _⟩ := ho4.shows.form
        have H4 := Lib.hid h4
        clear h4 ho4
        have hne : ∀ er' : Int, Hid (er = er') → er = er' := fun _ h => h.out
        have HC : Hid ((er = 9 ∨ er = 60) ∨ (er = 0 ∧ 0 < out.length) ∨ (er = 0 ∧ out = [] ∧ hasB f 1 p = false ∧ (f 0).length + 1 ≤ lim ∧ f' = upd f 0 (f 0 ++ [(p : Int)]))) := Lib.hid (by
          have h0 := HR.out
          generalize hc : (0 : Int) = cc at h0
          cases h0 with
          | range _ _ _ => exact .inl (.inl rfl)
          | block _ _ _ _ _ _ => exact .inl (.inr rfl)
          | ok c _ q1 q2 q3 q4 q5 =>
            obtain rfl : c = 0 := by omega
            exact .inr (.inr ⟨rfl, rfl, q4, q5, rfl⟩)
          | cut c _ kk q1 q2 q3 q4 q5 q6 =>
            obtain rfl : c = 0 := by omega
            exact .inr (.inl ⟨rfl, nonempty_take (by omega) (by simp)⟩))
        clear hr hne
        rcases HC.out with hE | hE | hE
        · have hE0 : (er != 0) = true := by
            rcases hE with rfl | rfl <;> rfl
          clear HC HR hE
          go_wp2
          go_roundw
          case rel => exact ⟨k + 1, _, _, by omega, by omega, by go_num, H4⟩
          case measure => simp [intOf]; omega
        · obtain ⟨rfl, hlen⟩ := hE
          clear HC HR
          go_wp2
          go_roundw
          case rel => exact ⟨k + 1, _, _, by omega, by omega, by go_num, H4⟩
          case measure => simp [intOf]; omega
        · obtain ⟨rfl, rfl, hh, hll, rfl⟩ := hE
          have HT : Hid (TakeIs 1 (upd f 0 (f 0 ++ [(p : Int)])) 0 p true (upd f 0 (f 0))) := Lib.hid (by
            have := TakeIs.yes (n := 1) (f := upd f 0 (f 0 ++ [(p : Int)])) 0 (f 0) (p : Int) (by decide) (upd_same _ _ _)
            rw [upd_upd] at this
            exact this)
          have HH : Hid (hasB (upd f 0 (f 0)) 1 p = false) := Lib.hid (hasB_no.2 fun i hi => by
            obtain rfl : i = 0 := by omega
            rw [upd_same]
            exact hasB_no.1 hh 0 (by decide))
          have HPT : Hid (PutIs 1 lim (upd f 0 (f 0)) 0 p [] 0 (upd f 0 (f 0 ++ [(p : Int)]))) := Lib.hid (by
            have := PutIs.ok (n := 1) (lim := lim) (f := upd f 0 (f 0)) 0 (p : Int) (by decide) (by omega) (by omega) HH.out (by rw [upd_same]; exact hll)
            rw [upd_upd, upd_same] at this
            exact this)
          clear HC HR hh hll
          go_wp2_with fail
          refine (oTake H4.out HT.out).mono ?_
          rintro e w5 ⟨vs5, rfl, h5, _⟩
          have H5 := Lib.hid h5
          clear h5
          go_wp2_with fail
          refine (oHas H5.out HH.out).mono ?_
          rintro e w6 ⟨rfl, h6, _⟩
          have H6 := Lib.hid h6
          clear h6
          go_wp2_with fail
          refine (oPut H6.out HPT.out).mono ?_
          rintro e w7 ⟨v7, vs7, rfl, h7, _, ho7⟩
          have H7 := Lib.hid h7
          clear h7 ho7 H4 H5 H6 HT HH HPT
          go_wp2
          go_roundw
          case rel => exact ⟨k + 1, _, _, by omega, by omega, by go_num, H7⟩
          case measure => simp [intOf]; omega
      · obtain rfl : k = 100 := by omega
        rw [show ((100 : Nat) : Int) = 100 from rfl]
        go_wp2_with fail
        refine (cWorks _).mono ?_
        rintro e w3 ⟨rfl, hb⟩
        have HB := Lib.hid (below_then HO.out.low hb)
        clear hb
        go_wp2
        go_ret
        exact ⟨rfl, HB.out⟩
    · obtain rfl : k = l.length := by omega
      go_wp2_with fail
      refine (cWorks _).mono ?_
      rintro e w3 ⟨rfl, hb⟩
      have HB := Lib.hid (below_then HO.out.low hb)
      clear hb
      go_wp2
      go_ret
      exact ⟨rfl, HB.out⟩
end Go.Proofs.Ytpmlmpkjmgebnaa
