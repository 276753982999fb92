/-
  played: a Zone to which calls are done.
-/
import Derived.Test.YtlljomnpdgmifaaDo
import Derived.Laws.AppendOwn
set_option linter.unusedVariables false
set_option linter.unusedSimpArgs false
namespace Go.Proofs.Ytlljomnpdgmifaa
open Go Go.RowKit

theorem cBringN (x m : Int) (n : Nat) (hm : m = n) (h : 1 ≤ n ∧ n ≤ 2000) (w : World) : Calls Try.prog 14 #[.int .i64 x, .int .i64 m] w fun e w' => e = .returned (.int .i64 (bring x n)) ∧ w' = w := by
  subst hm
  exact cBring x n w h.1 (by omega)
/-- what played leaves -/
def PlayedOk (W : World) (m : Nat) (e : Ending) (w' : World) : Prop := ∃ z N l f t g M v, e = .returned (.tuple #[.pointer (some ⟨z, 0, none⟩), v]) ∧ M ≤ 60 ∧ Pw W w' z N m l f t g M v
set_option maxHeartbeats 16000000 in
set_option maxRecDepth 100000 in
theorem cPlayed (pages : Int) (u : Value) (l : List Qd) (m : Nat) (hm : 1 + bring pages 150 = m) (W : World) (hs : ShowD W u l) :
    Calls Try.prog 13 #[.int .i64 pages, u] W (PlayedOk W m) := by
  obtain ⟨ao, cap0, rfl, hcap, hat⟩ := hs.form
  clear hs
  have hbl := bring_lt pages 150 (by decide)
  obtain ⟨r, hr⟩ : ∃ r, bring pages 150 = r := ⟨_, rfl⟩
  rw [hr] at hm hbl
  have HR0 := Lib.hid hr
  clear hr
  obtain rfl : m = r + 1 := by omega
  clear hm
  obtain ⟨i0, hi, hz0, hz1, hz2⟩ := info_parts infoA
  go_enter Try.func13, Try.ntmps13
  go_wp2_with fail
  refine (cBringN pages 150 150 rfl (by decide) _).mono ?_
  rintro e w' ⟨rfl, rfl⟩
  rw [HR0.out]
  go_wp2_with fail
  refine (tNew (W := w') 3 (1 + (r : Int)) 3 (r + 1) (ini (r + 1)) rfl (by omega) rfl (by decide) (by omega) (Below.refl _ _)).mono ?_
  rintro e w1 ⟨z, N0, rfl, hz⟩
  have HP0 := Lib.hid (Pw.start hz)
  clear hz
  go_wp2
  go_loopw [8, 9] (fun v y wr => ∃ j : Nat, j ≤ l.length ∧ j ≤ 60 ∧ y = .int .i64 j ∧ ∃ M, M ≤ j ∧ Hid (∃ N L f t g, Pw w' wr z N (r + 1) L f t g M v)) (fun _ y _ => l.length - (intOf y).toNat)
  case atStart => exact ⟨0, by omega, by omega, rfl, 0, by omega, Lib.hid ⟨_, _, _, _, _, HP0.out⟩⟩
  case round =>
    obtain ⟨j, hj, hj60, rfl, M, hMj, HS⟩ := hrel
    obtain ⟨N, L, f, t, g, hpl⟩ := HS.out
    have HP := Lib.hid hpl
    obtain ⟨va, vc, rfl, hvc1, hvc2⟩ := own_shape hpl.own
    clear HS hpl
    by_cases hlt : j < l.length ∧ j < 60
    · obtain ⟨hlt, h60⟩ := hlt
      obtain ⟨b1, o1, rfl, c0, c1, c2, c3'⟩ := hat j hlt
      obtain ⟨kd, hkd⟩ : ∃ k, (qd l j).kind = k := ⟨_, rfl⟩
      obtain ⟨cpu, hcpu⟩ : ∃ k, (qd l j).cpu = k := ⟨_, rfl⟩
      obtain ⟨a, ha⟩ : ∃ a, (qd l j).a = a := ⟨_, rfl⟩
      obtain ⟨b, hb⟩ : ∃ b, (qd l j).b = b := ⟨_, rfl⟩
      rw [hkd] at c0
      rw [hcpu] at c1
      rw [ha] at c2
      rw [hb] at c3'
      have d0 := cell_keep HP.out.zt.low c0
      have d1 := cell_keep HP.out.zt.low c1
      have d2 := cell_keep HP.out.zt.low c2
      have d3 := cell_keep HP.out.zt.low c3'
      clear c0 c1 c2 c3' hat hkd hcpu ha hb
      obtain ⟨c3, hc3⟩ : ∃ c, bring cpu 3 = c := ⟨_, rfl⟩
      have hc3l : c3 < 3 := by rw [← hc3]; exact bring_lt cpu 3 (by decide)
      have HC3 := Lib.hid hc3
      obtain ⟨K, hK⟩ : ∃ K, bring kd 4 = K := ⟨_, rfl⟩
      have HK4 := Lib.hid hK
      clear hK hc3
      by_cases hK3 : K = 3
      · subst hK3
        have HR : Hid (DrIs 3 L f (c3 : Int) 0 (backL L (f c3)) (nUpd f c3 [])) := Lib.hid (.ok c3 hc3l)
        have HSM := Lib.hid (HP.out.zt.zc.inv.drain hc3l)
        go_wp2_with fail
        refine (cBringN cpu 3 3 rfl (by decide) _).mono ?_
        rintro e w2 ⟨rfl, rfl⟩
        rw [HC3.out]
        go_wp2_with fail
        refine (cBringN kd 4 4 rfl (by decide) _).mono ?_
        rintro e w2 ⟨rfl, rfl⟩
        rw [HK4.out]

        go_wp2_with fail
        refine (tDrain HP.out.zt HR.out).mono ?_
        rintro e w4 ⟨rfl, N4, t4, hz4, hg4⟩
        have HP5 := Lib.hid (HP.out.same hz4 hg4 HSM.out)
        clear hz4 hg4
        go_wp2
        go_roundw
        case rel => exact ⟨j + 1, by omega, by omega, by go_num, M, by omega, Lib.hid ⟨_, _, _, _, _, HP5.out⟩⟩
        case measure => simp [intOf]; omega
      · have hK3b : ((K : Int) == 3) = false := by rw [beq_eq_false_iff_ne]; omega
        by_cases hK0 : K = 0
        · subst hK0
          obtain ⟨o, ho⟩ : ∃ o, bring a 4 = o := ⟨_, rfl⟩
          obtain ⟨b9, hb9⟩ : ∃ b9, bring b 9 = b9 := ⟨_, rfl⟩
          have HA4 := Lib.hid ho
          have HB9 := Lib.hid hb9
          obtain ⟨pi, ei, l', f', hr⟩ := al_is HP.out.zt.zc.inv (c3 : Int) (o : Int) (b9 : Int)
          rcases hr.facts HP.out.zt.zc.inv with ⟨rfl, p, o', rfl, ho', _, hza⟩ | ⟨hei, rfl, hsm⟩
          · obtain rfl : o = o' := by omega
            have HZA := Lib.hid hza
            have HR := Lib.hid hr
            clear hr hza ho hb9 ho'
            go_wp2_with fail
            refine (cBringN cpu 3 3 rfl (by decide) _).mono ?_
            rintro e w2 ⟨rfl, rfl⟩
            rw [HC3.out]
            go_wp2_with fail
            refine (cBringN kd 4 4 rfl (by decide) _).mono ?_
            rintro e w2 ⟨rfl, rfl⟩
            rw [HK4.out]

            go_wp2_with fail
            refine (cBringN a 4 4 rfl (by decide) _).mono ?_
            rintro e w2 ⟨rfl, rfl⟩
            rw [HA4.out]
            go_wp2_with fail
            refine (cBringN b 9 9 rfl (by decide) _).mono ?_
            rintro e w2 ⟨rfl, rfl⟩
            rw [HB9.out]
            go_wp2_with fail
            refine (tAlloc HP.out.zt HR.out).mono ?_
            rintro e w4 ⟨rfl, N4, t4, hz4, hg4⟩

            have hown := HP.out.ownKept hg4
            have HOW := Lib.hid hown
            have HZ4 := Lib.hid hz4
            have hzz := hz4.low.size
            obtain ⟨xs, hxs⟩ : ∃ xs, prs g M = xs := ⟨_, rfl⟩
            rw [hxs] at hown
            have HXS := Lib.hid hxs
            clear hz4 hg4 hxs
            go_wp2_with (at_builtin; refine wpList_append_own _ (by rfl) _ _ 36 (by rfl) w'.heap.size 42 i0 (.agg #[.int .i64 0, .int .i64 0]) 2 16 Try.underlying36 hi hz0 hz1 hz2 (by rfl) (by decide) _ M xs (by rfl) (hown.alloc _) ⟨_, 0, none⟩ 1 1 [.int .i64 (p : Int), .int .i64 (o : Int)] (by rfl) (by rfl) (new2 _ _ _ _) (by intro u hu; simp at hu; rcases hu with rfl | rfl <;> rfl) (by unfold maxLen; omega) (by omega) (by first | omega | (rw [size_alloc]; omega) | (simp only [size_alloc]; omega)) ?_)
            intro v' w5 hown' hg5 _
            have HP6 := Lib.hid (HP.out.more HZ4.out HZA.out HOW.out (by rw [HXS.out]; exact hown') hg5)
            clear hown hown' hg5
            go_wp2
            go_roundw
            case rel => exact ⟨j + 1, by omega, by omega, by go_num, M + 1, by omega, Lib.hid ⟨_, _, _, _, _, HP6.out⟩⟩
            case measure => simp [intOf]; omega
          · have HSM := Lib.hid hsm
            have HR := Lib.hid hr
            have hei2 : (ei == 0) = false := by simpa using hei
            clear hr hsm ho hb9 hei
            go_wp2_with fail
            refine (cBringN cpu 3 3 rfl (by decide) _).mono ?_
            rintro e w2 ⟨rfl, rfl⟩
            rw [HC3.out]
            go_wp2_with fail
            refine (cBringN kd 4 4 rfl (by decide) _).mono ?_
            rintro e w2 ⟨rfl, rfl⟩
            rw [HK4.out]

            go_wp2_with fail
            refine (cBringN a 4 4 rfl (by decide) _).mono ?_
            rintro e w2 ⟨rfl, rfl⟩
            rw [HA4.out]
            go_wp2_with fail
            refine (cBringN b 9 9 rfl (by decide) _).mono ?_
            rintro e w2 ⟨rfl, rfl⟩
            rw [HB9.out]
            go_wp2_with fail
            refine (tAlloc HP.out.zt HR.out).mono ?_
            rintro e w4 ⟨rfl, N4, t4, hz4, hg4⟩

            have HP5 := Lib.hid (HP.out.same hz4 hg4 HSM.out)
            clear hz4 hg4
            go_wp2
            go_roundw
            case rel => exact ⟨j + 1, by omega, by omega, by go_num, M, by omega, Lib.hid ⟨_, _, _, _, _, HP5.out⟩⟩
            case measure => simp [intOf]; omega
        · have hK0b : ((K : Int) == 0) = false := by rw [beq_eq_false_iff_ne]; omega
          by_cases hM0 : M = 0
          · subst hM0
            obtain ⟨o, ho⟩ : ∃ o, bring a 4 = o := ⟨_, rfl⟩
            obtain ⟨b9, hb9⟩ : ∃ b9, bring b 9 = b9 := ⟨_, rfl⟩
            have HA4 := Lib.hid ho
            have HB9 := Lib.hid hb9
            obtain ⟨pi, ei, l', f', hr⟩ := al_is HP.out.zt.zc.inv (c3 : Int) (o : Int) (b9 : Int)
            rcases hr.facts HP.out.zt.zc.inv with ⟨rfl, p, o', rfl, ho', _, hza⟩ | ⟨hei, rfl, hsm⟩
            · obtain rfl : o = o' := by omega
              have HZA := Lib.hid hza
              have HR := Lib.hid hr
              clear hr hza ho hb9 ho'
              go_wp2_with fail
              refine (cBringN cpu 3 3 rfl (by decide) _).mono ?_
              rintro e w2 ⟨rfl, rfl⟩
              rw [HC3.out]
              go_wp2_with fail
              refine (cBringN kd 4 4 rfl (by decide) _).mono ?_
              rintro e w2 ⟨rfl, rfl⟩
              rw [HK4.out]

              go_wp2_with fail
              refine (cBringN a 4 4 rfl (by decide) _).mono ?_
              rintro e w2 ⟨rfl, rfl⟩
              rw [HA4.out]
              go_wp2_with fail
              refine (cBringN b 9 9 rfl (by decide) _).mono ?_
              rintro e w2 ⟨rfl, rfl⟩
              rw [HB9.out]
              go_wp2_with fail
              refine (tAlloc HP.out.zt HR.out).mono ?_
              rintro e w4 ⟨rfl, N4, t4, hz4, hg4⟩

              have hown := HP.out.ownKept hg4
              have HOW := Lib.hid hown
              have HZ4 := Lib.hid hz4
              have hzz := hz4.low.size
              obtain ⟨xs, hxs⟩ : ∃ xs, prs g 0 = xs := ⟨_, rfl⟩
              rw [hxs] at hown
              have HXS := Lib.hid hxs
              clear hz4 hg4 hxs
              go_wp2_with (at_builtin; refine wpList_append_own _ (by rfl) _ _ 36 (by rfl) w'.heap.size 42 i0 (.agg #[.int .i64 0, .int .i64 0]) 2 16 Try.underlying36 hi hz0 hz1 hz2 (by rfl) (by decide) _ 0 xs (by rfl) (hown.alloc _) ⟨_, 0, none⟩ 1 1 [.int .i64 (p : Int), .int .i64 (o : Int)] (by rfl) (by rfl) (new2 _ _ _ _) (by intro u hu; simp at hu; rcases hu with rfl | rfl <;> rfl) (by unfold maxLen; omega) (by omega) (by first | omega | (rw [size_alloc]; omega) | (simp only [size_alloc]; omega)) ?_)
              intro v' w5 hown' hg5 _
              have HP6 := Lib.hid (HP.out.more HZ4.out HZA.out HOW.out (by rw [HXS.out]; exact hown') hg5)
              clear hown hown' hg5
              go_wp2
              go_roundw
              case rel => exact ⟨j + 1, by omega, by omega, by go_num, 0 + 1, by omega, Lib.hid ⟨_, _, _, _, _, HP6.out⟩⟩
              case measure => simp [intOf]; omega
            · have HSM := Lib.hid hsm
              have HR := Lib.hid hr
              have hei2 : (ei == 0) = false := by simpa using hei
              clear hr hsm ho hb9 hei
              go_wp2_with fail
              refine (cBringN cpu 3 3 rfl (by decide) _).mono ?_
              rintro e w2 ⟨rfl, rfl⟩
              rw [HC3.out]
              go_wp2_with fail
              refine (cBringN kd 4 4 rfl (by decide) _).mono ?_
              rintro e w2 ⟨rfl, rfl⟩
              rw [HK4.out]

              go_wp2_with fail
              refine (cBringN a 4 4 rfl (by decide) _).mono ?_
              rintro e w2 ⟨rfl, rfl⟩
              rw [HA4.out]
              go_wp2_with fail
              refine (cBringN b 9 9 rfl (by decide) _).mono ?_
              rintro e w2 ⟨rfl, rfl⟩
              rw [HB9.out]
              go_wp2_with fail
              refine (tAlloc HP.out.zt HR.out).mono ?_
              rintro e w4 ⟨rfl, N4, t4, hz4, hg4⟩

              have HP5 := Lib.hid (HP.out.same hz4 hg4 HSM.out)
              clear hz4 hg4
              go_wp2
              go_roundw
              case rel => exact ⟨j + 1, by omega, by omega, by go_num, 0, by omega, Lib.hid ⟨_, _, _, _, _, HP5.out⟩⟩
              case measure => simp [intOf]; omega
          · obtain ⟨M', rfl⟩ : ∃ M', M = M' + 1 := ⟨M - 1, by omega⟩
            obtain ⟨hb, cap, e, hcp⟩ := HP.out.form (by omega)
            cases e
            obtain ⟨k2, hk2⟩ : ∃ k2, bring a (M' + 1) = k2 := ⟨_, rfl⟩
            have hk2l : k2 < M' + 1 := by rw [← hk2]; exact bring_lt a (M' + 1) (by omega)
            have HK2 := Lib.hid hk2
            obtain ⟨hc2, _⟩ := (own_cells2 HP.out.own).1 k2 hk2l
            obtain ⟨l', f', hr, hd⟩ := HP.out.freeIs hk2l c3 hc3l
            have HR := Lib.hid hr
            have HD := Lib.hid hd
            have hM0b : (((M' + 1 : Nat) : Int) == 0) = false := by rw [beq_eq_false_iff_ne]; omega
            have hp1024 : (g k2).1 < 1024 := by
              obtain ⟨ca, ho⟩ := HP.out.outs k2 hk2l
              have := (ot_some.1 ho).1.1
              have := HP.out.zt.zc.inv.std.valid.2.1
              omega
            clear hk2 hr hd
            go_wp2_with fail
            refine (cBringN cpu 3 3 rfl (by decide) _).mono ?_
            rintro e w2 ⟨rfl, rfl⟩
            rw [HC3.out]
            go_wp2_with fail
            refine (cBringN kd 4 4 rfl (by decide) _).mono ?_
            rintro e w2 ⟨rfl, rfl⟩
            rw [HK4.out]

            go_wp2_with fail
            refine (cBringN a _ (M' + 1) rfl (by omega) _).mono ?_
            rintro e w2 ⟨rfl, rfl⟩
            rw [HK2.out]
            go_wp2_with fail
            refine (tFree HP.out.zt (wf_small _ (by omega)) HR.out).mono ?_
            rintro e w4 ⟨rfl, N4, t4, hz4, hg4⟩
            obtain ⟨hcells, hfro⟩ := own_cells2 (HP.out.ownKept hg4)
            obtain ⟨e1, e1b⟩ := hcells M' (by omega)
            obtain ⟨e2, e2b⟩ := hcells k2 hk2l
            have e3 := hfro (k2 * 2)
            have e4 := hfro (k2 * 2 + 1)
            have HP5 := Lib.hid (HP.out.less hk2l hz4 hg4 HD.out)
            clear hcells hfro hz4 hg4 hc2
            go_wp2
            go_roundw
            case rel => exact ⟨j + 1, by omega, by omega, by go_num, M', by omega, Lib.hid ⟨_, _, _, _, _, HP5.out⟩⟩
            case measure => simp [intOf]; omega
    · by_cases hjl : j = l.length
      · subst hjl
        go_wp2
        go_ret2
        exact ⟨z, N, L, f, t, g, M, _, rfl, by omega, HP.out⟩
      · obtain rfl : j = 60 := by omega
        have hl60 : 60 < l.length := by omega
        go_wp2
        go_ret2
        exact ⟨z, N, L, f, t, g, M, _, rfl, by omega, HP.out⟩
end Go.Proofs.Ytlljomnpdgmifaa
