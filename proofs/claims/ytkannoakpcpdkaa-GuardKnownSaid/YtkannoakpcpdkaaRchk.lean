/-
  Check of the document; Out, Back.
-/
import Derived.Test.YtkannoakpcpdkaaRef
set_option linter.unusedVariables false
set_option linter.unusedSimpArgs false
namespace Go.Proofs.Ytkannoakpcpdkaa
open Go Go.RowKit

theorem rChkSize (u : Value) (l : List Int) (out : Bool) (hl : ¬ szOk l) (w : World) (hu : ShowB w u l) :
    Calls Try.prog 15 #[u, .bool out] w fun e w' => e = .returned (.tuple #[.int .i64 (chkA l out), .int .i64 (chkE l out)]) ∧ Below w.heap.size w w' := by
  obtain ⟨ao, cap, rfl, hcap, _⟩ := hu.form
  have HA := Lib.hid (chk_size out hl).2
  have HE := Lib.hid (chk_size out hl).1
  unfold szOk at hl
  clear hu
  by_cases h : l.length < 17
  · generalize l.length = n at *
    clear hl
    go_enter Try.func15, Try.ntmps15
    go_wp2
    go_ret2
    exact ⟨by rw [HA.out, HE.out]; rfl, Below.refl _ _⟩
  · have h2 : 1040 < l.length := by omega
    generalize l.length = n at *
    clear hl
    go_enter Try.func15, Try.ntmps15
    go_wp2
    go_ret2
    exact ⟨by rw [HA.out, HE.out]; rfl, Below.refl _ _⟩
/-- the row behind the copy of what may stand in it -/
def outR (n : Nat) (l : List Int) (i : Nat) : Int := if 8 ≤ i ∧ i < 8 + n then pk l i else objF n 204 0 0 i
theorem row_cpd {w' : World} {g n M : Nat} {l : List Int} {f : Nat → Int} {c c' : Array Value} (hM : M = n + 16) (hc : M ≤ c.size) (hf : ∀ i, i < M → c[i]? = some (.int .u8 (f i))) (h1 : w'.heap[g]? = some (.cells c' 5 (0, 0))) (h2 : c'.size = c.size)
    (h3 : Cpd c c' 8 n (bys (lst n (fun j => pk l (j + 8))))) (hF : f = objF n 204 0 0) : RowY w' g M (outR n l) := by
  refine ⟨c', h1, by omega, fun i hi => ?_⟩
  rw [h3 i]
  unfold outR
  by_cases h : 8 ≤ i ∧ i < 8 + n
  · rw [if_pos h, if_pos h, bys_at (by rw [len_lst]; omega), pk_lst _ (by omega)]
    rw [show i - 8 + 8 = i by omega]
  · rw [if_neg h, if_neg h, hf i hi, hF]
theorem wrg_outR {l : List Int} {n k : Nat} (hl : l.length = n + 16) : wrg l true k = (pk l k != outR n l k) := by
  by_cases h : k < 8 ∨ l.length - 8 ≤ k
  · rw [wrg_side h]
    unfold outR
    rw [if_neg (by omega), outF_side (by omega)]
  · rw [wrg_mid h]
    unfold outR
    rw [if_pos (by omega)]
    simp
theorem run_mid {w : World} {b o M p n cap : Nat} (h1 : 8 ≤ p) (h2 : p ≤ cap) (h3 : p - 8 = n) (h4 : cap ≠ 8) : (Instr.slice 22 (.slice (some ⟨b, o, none⟩) M cap) (some (.int .i64 8)) (some (.int .i64 (p : Int))) none).run Try.prog w = .ok (.slice (some ⟨b, o + 8, none⟩) n (cap - 8)) w := by
  obtain ⟨i0, hi, hz0, hz1, hz2⟩ := info_parts infoB
  rw [run_slice_lh w 22 _ M cap (by kernel_rfl) .i64 .i64 8 (p : Int) (by omega) (by omega) (by omega)]
  simp [sizeOf, typeInfo, sliced, show Try.prog.elem 22 = 5 by kernel_rfl, hi, hz1, Result.andThen, go_sem, h3, h4]
set_option maxHeartbeats 6000000 in
theorem rChkFits (u : Value) (l : List Int) (out : Bool) (hl : szOk l) (w : World) (hu : ShowB w u l) :
    Calls Try.prog 15 #[u, .bool out] w fun e w' => e = .returned (.tuple #[.int .i64 (chkA l out), .int .i64 (chkE l out)]) ∧ Below w.heap.size w w' := by
  obtain ⟨ao, cap, rfl, hcap, hat⟩ := hu.form
  have HAT := Lib.hid hat
  have HL := Lib.hid hl
  obtain ⟨n, hn⟩ : ∃ n, l.length = n + 16 := ⟨l.length - 16, by unfold szOk at hl; omega⟩
  have hn1 : 1 ≤ n := by unfold szOk at hl; omega
  have hn2 : n ≤ 1024 := by unfold szOk at hl; omega
  have HLEN := Lib.hid hn
  obtain ⟨M, hM⟩ : ∃ M, M = l.length := ⟨_, rfl⟩
  have HML := Lib.hid hM
  have HMN : Hid (M = n + 16) := Lib.hid (by rw [hM, hn])
  have HN : Hid (l.length - 16 = n) := Lib.hid (by omega)
  rw [← hM] at hcap ⊢
  have hMb : M ≤ 1040 := by rw [HMN.out]; omega
  have hMa : 17 ≤ M := by rw [HMN.out]; omega
  have hM16 : (M : Int) - 16 = (n : Int) := by rw [HMN.out]; omega
  clear hat hu hn hl hM
  cases out with
  | false =>
    go_enter Try.func15, Try.ntmps15
    go_wp2_with fail
    refine (rLaid n M 187 107 165 hn1 hn2 HMN.out w).mono ?_
    rintro e W ⟨g, gc, rfl, hG⟩
    have hgc := hG.cap
    have HR : Hid (RowY W g M (freeF n)) := Lib.hid hG.row
    have HB := Lib.hid hG.below
    have HFF : Hid (∀ k, k < M → wrg l false k = (pk l k != freeF n k)) := Lib.hid (fun k _ => by rw [wrg_f, HN.out])
    obtain ⟨F, hF⟩ : ∃ F, freeF n = F := ⟨_, rfl⟩
    rw [hF] at HFF HR
    clear hG hF
    go_wp2
    go_loopw [7] (fun i wr => ∃ k : Nat, k ≤ M ∧ i = .int .i64 k ∧ Hid (Fine l false k) ∧ Hid (Below W.heap.size W wr)) (fun i _ => M - (intOf i).toNat)
    case atStart => exact ⟨0, by omega, by first | rfl | go_num, Lib.hid (Fine.zero _ _), Lib.hid (Below.refl _ _)⟩
    case round =>
      obtain ⟨k, hk, rfl, HF, HBW⟩ := hrel
      by_cases hlt : k < M
      · obtain ⟨b1, o1, rfl, c1⟩ := HAT.out k (by rw [← HML.out]; exact hlt)
        have d1 := cell_keep HBW.out (cell_keep HB.out c1)
        have d2 := (HR.out.below HBW.out).cell hlt
        have HKL : Hid (k < l.length) := Lib.hid (by rw [← HML.out]; exact hlt)
        have HS : Hid (wrg l false k = false → Fine l false (k + 1)) := Lib.hid HF.out.succ
        have HP : Hid (wrg l false k = true → chkE l false = 180 ∧ chkA l false = k) := Lib.hid (fun h => chk_bad HL.out HKL.out h HF.out)
        have HW : Hid (wrg l false k = (pk l k != F k)) := Lib.hid (HFF.out k hlt)
        clear c1
        generalize F k = y at d2 HW
        generalize pk l k = x at d1 HW
        by_cases hxy : x = y
        · subst hxy
          have HS1 := Lib.hid (HS.out (by rw [HW.out]; simp))
          have hne : (x != x) = false := by simp
          clear HS HP HW
          go_wp2
          go_quiet (fail)
          go_wp2
          go_roundw
          case rel => exact ⟨k + 1, by omega, by go_num, HS1, Lib.hid (below_drewN HBW.out _)⟩
          case measure => simp [intOf]; omega
        · have hp := HP.out (by rw [HW.out]; simpa using hxy)
          have HP1 := Lib.hid hp.1
          have HP2 := Lib.hid hp.2
          have hne : (x != y) = true := by simpa using hxy
          clear HS HP HW hp
          go_wp2
          go_quiet (fail)
          go_wp2
          go_ret2
          exact ⟨by rw [HP1.out, HP2.out]; rfl, below_drewN (below_then HB.out HBW.out) _⟩
      · obtain rfl : k = M := by omega
        have hp := chk_ok HL.out (by rw [← HML.out]; exact HF.out)
        have HP1 := Lib.hid hp.1
        have HP2 := Lib.hid hp.2
        clear hp
        go_wp2
        go_ret2
        exact ⟨by rw [HP1.out, HP2.out]; rfl, below_then HB.out HBW.out⟩
  | true =>
    go_enter Try.func15, Try.ntmps15
    go_wp2_with fail
    refine (rLaid n M 187 107 165 hn1 hn2 HMN.out w).mono ?_
    rintro e W0 ⟨g0, gc0, rfl, hG0⟩
    have HB0 := Lib.hid hG0.below
    have hgc0 := hG0.cap
    clear hG0
    go_wp2_with fail
    refine (rLaid n M 204 0 0 hn1 hn2 HMN.out W0).mono ?_
    rintro e W1 ⟨g, gc, rfl, hG⟩
    have hgc := hG.cap
    have HG0 : Hid (W0.heap.size ≤ g) := Lib.hid hG.new
    have HB1 := Lib.hid (below_then HB0.out hG.below)
    obtain ⟨c, hc, hcs, hcf⟩ := hG.row
    have HC := Lib.hid hc
    have HCF := Lib.hid hcf
    have hcs8 : 8 + n ≤ c.size := by omega
    obtain ⟨b1, o1, rfl, _⟩ := HAT.out 0 (by rw [← HML.out]; omega)
    have HSRC : Hid (∀ j v, (bys (lst n (fun j => pk l (j + 8))))[j]? = some v → W1.cell? ((⟨b1, o1 + 8, none⟩ : Addr).add j) = some v) := Lib.hid (fun j v hj => by
      have hj' := (List.getElem?_eq_some_iff.1 hj).1
      simp only [List.length_map, len_lst] at hj'
      rw [bys_at (by rw [len_lst]; exact hj'), pk_lst _ hj'] at hj
      obtain rfl := Option.some.inj hj
      obtain ⟨b2, o2, e2, c2⟩ := HAT.out (j + 8) (by rw [HLEN.out]; omega)
      obtain ⟨rfl, rfl⟩ : b1 = b2 ∧ o1 = o2 := by simpa using e2
      rw [plain_add, show o1 + 8 + j = o1 + (j + 8) by omega]
      exact cell_keep HB1.out c2)
    have HVL : Hid ((bys (lst n (fun j => pk l (j + 8)))).length = n) := Lib.hid (by simp [len_lst])
    clear hG hc hcf
    obtain ⟨p, hp⟩ : ∃ p, M = p + 8 := ⟨M - 8, by omega⟩
    have hp8 : (M : Int) - 8 = (p : Int) := by omega
    have hpn : (p : Int) - 8 = (n : Int) := by rw [HMN.out] at hp; omega
    have HPN : Hid (p - 8 = n) := Lib.hid (by rw [HMN.out] at hp; omega)
    have hpb : 8 ≤ p ∧ p ≤ M := by omega
    have q0 : (0 : Int) ≤ (p : Int) := by omega
    have q1 : (8 : Int) ≤ (p : Int) := by omega
    have q2 : (p : Int) ≤ (gc : Int) := by omega
    have q3 : (p : Int) ≤ (cap : Int) := by omega
    have q4 : (8 : Int) < (gc : Int) := by omega
    have q5 : (8 : Int) < (cap : Int) := by omega
    have q11 : IntKind.i64.wrap (p : Int) = (p : Int) := IntWalk.i64_in _ (by omega)
    have q12 : ∀ w : World, (Instr.slice 22 (.slice (some ⟨g, 0, none⟩) M gc) (some (.int .i64 8)) (some (.int .i64 (p : Int))) none).run Try.prog w = .ok (.slice (some ⟨g, 8, none⟩) n (gc - 8)) w := fun w => by
      have := run_mid (w := w) (b := g) (o := 0) (M := M) (p := p) (n := n) (cap := gc) (by omega) (by omega) HPN.out (by omega)
      rwa [Nat.zero_add] at this
    have q13 : ∀ w : World, (Instr.slice 22 (.slice (some ⟨b1, o1, none⟩) M cap) (some (.int .i64 8)) (some (.int .i64 (p : Int))) none).run Try.prog w = .ok (.slice (some ⟨b1, o1 + 8, none⟩) n (cap - 8)) w := fun w => run_mid (by omega) (by omega) HPN.out (by omega)
    have q6 : ¬ gc = 8 := by omega
    have q7 : gc - 8 ≠ 0 := by omega
    have q8 : ¬ cap = 8 := by omega
    have q9 : cap - 8 ≠ 0 := by omega
    have q10 : p - 8 = n := by rw [HMN.out] at hp; omega
    have HMIN : Hid (n = Nat.min n n) := Lib.hid (by simp [Nat.min_def])
    clear hp
    go_wp2
    go_region_held3 (fun W => True) (trivial) (first | (refine step_copyC rfl (.tmp 29) (.tmp 34) rfl (g := g) (off := 8) (m := n) (c := c) (ad := ⟨b1, o1 + 8, none⟩) (vs := bys (lst n (fun j => pk l (j + 8)))) (dLen := n) (dCap := gc - 8) (sLen := n) (sCap := cap - 8) (by kernel_rfl) (by kernel_rfl) HC.out HVL.out HMIN.out HSRC.out hcs8 (bys_one _) ?_; intro W c4 ea eb ec ed))
    have HR : Hid (RowY W g M (outR n l)) := Lib.hid (row_cpd HMN.out hcs HCF.out ea eb ec rfl)
    have HB : Hid (Below w.heap.size w W) := Lib.hid (below_kept HB1.out.drew ed (fun k hk => by rw [hk]; exact Nat.le_trans HB0.out.size HG0.out))
    have HFF : Hid (∀ k, k < M → wrg l true k = (pk l k != outR n l k)) := Lib.hid (fun k _ => wrg_outR HLEN.out)
    obtain ⟨F, hF⟩ : ∃ F, outR n l = F := ⟨_, rfl⟩
    rw [hF] at HFF HR
    clear hF ea eb ec ed HC HCF HSRC hcs8 hcs
    go_wp2
    go_loopw [7] (fun i wr => ∃ k : Nat, k ≤ M ∧ i = .int .i64 k ∧ Hid (Fine l true k) ∧ Hid (Below W.heap.size W wr)) (fun i _ => M - (intOf i).toNat)
    case atStart => exact ⟨0, by omega, by first | rfl | go_num, Lib.hid (Fine.zero _ _), Lib.hid (Below.refl _ _)⟩
    case round =>
      obtain ⟨k, hk, rfl, HF, HBW⟩ := hrel
      by_cases hlt : k < M
      · obtain ⟨b2, o2, e2, c1⟩ := HAT.out k (by rw [← HML.out]; exact hlt)
        obtain ⟨rfl, rfl⟩ : b1 = b2 ∧ o1 = o2 := by simpa using e2
        have d1 := cell_keep HBW.out (cell_keep HB.out c1)
        have d2 := (HR.out.below HBW.out).cell hlt
        have HKL : Hid (k < l.length) := Lib.hid (by rw [← HML.out]; exact hlt)
        have HS : Hid (wrg l true k = false → Fine l true (k + 1)) := Lib.hid HF.out.succ
        have HP : Hid (wrg l true k = true → chkE l true = 180 ∧ chkA l true = k) := Lib.hid (fun h => chk_bad HL.out HKL.out h HF.out)
        have HW : Hid (wrg l true k = (pk l k != F k)) := Lib.hid (HFF.out k hlt)
        clear c1
        generalize F k = y at d2 HW
        generalize pk l k = x at d1 HW
        by_cases hxy : x = y
        · subst hxy
          have HS1 := Lib.hid (HS.out (by rw [HW.out]; simp))
          have hne : (x != x) = false := by simp
          clear HS HP HW
          go_wp2
          go_quiet (fail)
          go_wp2
          go_roundw
          case rel => exact ⟨k + 1, by omega, by go_num, HS1, Lib.hid (below_drewN HBW.out _)⟩
          case measure => simp [intOf]; omega
        · have hp := HP.out (by rw [HW.out]; simpa using hxy)
          have HP1 := Lib.hid hp.1
          have HP2 := Lib.hid hp.2
          have hne : (x != y) = true := by simpa using hxy
          clear HS HP HW hp
          go_wp2
          go_quiet (fail)
          go_wp2
          go_ret2
          exact ⟨by rw [HP1.out, HP2.out]; rfl, below_drewN (below_then HB.out HBW.out) _⟩
      · obtain rfl : k = M := by omega
        have hp := chk_ok HL.out (by rw [← HML.out]; exact HF.out)
        have HP1 := Lib.hid hp.1
        have HP2 := Lib.hid hp.2
        clear hp
        go_wp2
        go_ret2
        exact ⟨by rw [HP1.out, HP2.out]; rfl, below_then HB.out HBW.out⟩

theorem rChk (u : Value) (l : List Int) (out : Bool) (w : World) (hu : ShowB w u l) :
    Calls Try.prog 15 #[u, .bool out] w fun e w' => e = .returned (.tuple #[.int .i64 (chkA l out), .int .i64 (chkE l out)]) ∧ Below w.heap.size w w' := by
  by_cases h : szOk l
  · exact rChkFits u l out h w hu
  · exact rChkSize u l out h w hu
set_option maxHeartbeats 2000000 in
theorem rOut (u : Value) (l : List Int) (w : World) (hu : ShowB w u l) :
    Calls Try.prog 17 #[u] w fun e w' => ∃ ao n cap, e = .returned (.tuple #[.slice ao n cap, .int .i64 (chkE l false)]) ∧ ShowB w' (.slice ao n cap) (gotL l false) ∧ Below w.heap.size w w' := by
  have hu' := hu
  obtain ⟨ao, cap, rfl, hcap, _⟩ := hu'.form
  have HU := Lib.hid hu
  clear hu hu'
  by_cases h : chkE l false = 0
  · obtain ⟨n, h1, h2, h3⟩ := sz_of h
    have HG : Hid (gotL l false = lst (n + 16) (objF n 204 90 90)) := Lib.hid (by simp only [gotL, h, if_true, Bool.false_eq_true, if_false]; rw [show l.length - 16 = n by omega])
    obtain ⟨M, hM⟩ : ∃ M, M = n + 16 := ⟨_, rfl⟩
    have HM := Lib.hid hM
    rw [← hM] at HG
    have HLM : Hid (l.length = M) := Lib.hid (by omega)
    have hMn : (M : Int) - 16 = (n : Int) := by omega
    have hMb : M ≤ 1040 := by omega
    have HE := Lib.hid h
    rw [HLM.out] at HU hcap ⊢
    rw [h]
    clear h hM h3
    go_enter Try.func17, Try.ntmps17
    go_wp2_with fail
    refine (rChk _ l false _ HU.out).mono ?_
    rintro e w1 ⟨rfl, hb⟩
    rw [HE.out]
    have HB := Lib.hid hb
    clear hb
    go_wp2_with fail
    refine (rLaid n M 204 90 90 h1 h2 HM.out w1).mono ?_
    rintro e w2 ⟨g, gc, rfl, hG⟩
    have HS : Hid (ShowB w2 (.slice (some ⟨g, 0, none⟩) M gc) (gotL l false)) := Lib.hid (by rw [HG.out]; exact hG.shows)
    have HB2 := Lib.hid (below_then HB.out hG.below)
    clear hG
    go_wp2
    go_ret2
    exact ⟨_, _, _, rfl, HS.out, HB2.out⟩
  · have hne : (chkE l false != 0) = true := by simpa using h
    have HG := Lib.hid (got_no h)
    obtain ⟨q, hq⟩ : ∃ q, chkE l false = q := ⟨_, rfl⟩
    rw [hq] at hne ⊢
    have HQ := Lib.hid hq
    clear h hq
    go_enter Try.func17, Try.ntmps17
    go_wp2_with fail
    refine (rChk _ l false _ HU.out).mono ?_
    rintro e w1 ⟨rfl, hb⟩
    rw [HQ.out]
    have HB := Lib.hid hb
    clear hb
    go_wp2
    go_ret2
    exact ⟨_, _, _, rfl, by rw [HG.out]; exact ShowB.nil _, HB.out⟩
set_option maxHeartbeats 2000000 in
theorem rBack (u : Value) (l : List Int) (w : World) (hu : ShowB w u l) :
    Calls Try.prog 19 #[u] w fun e w' => ∃ ao n cap, e = .returned (.tuple #[.slice ao n cap, .int .i64 (chkE l true)]) ∧ ShowB w' (.slice ao n cap) (gotL l true) ∧ Below w.heap.size w w' := by
  have hu' := hu
  obtain ⟨ao, cap, rfl, hcap, _⟩ := hu'.form
  have HU := Lib.hid hu
  clear hu hu'
  by_cases h : chkE l true = 0
  · obtain ⟨n, h1, h2, h3⟩ := sz_of h
    have HG : Hid (gotL l true = lst (n + 16) (objF n 187 107 165)) := Lib.hid (by simp only [gotL, h, if_true, Bool.false_eq_true, if_false]; rw [show l.length - 16 = n by omega])
    obtain ⟨M, hM⟩ : ∃ M, M = n + 16 := ⟨_, rfl⟩
    have HM := Lib.hid hM
    rw [← hM] at HG
    have HLM : Hid (l.length = M) := Lib.hid (by omega)
    have hMn : (M : Int) - 16 = (n : Int) := by omega
    have hMb : M ≤ 1040 := by omega
    have HE := Lib.hid h
    rw [HLM.out] at HU hcap ⊢
    rw [h]
    clear h hM h3
    go_enter Try.func19, Try.ntmps19
    go_wp2_with fail
    refine (rChk _ l true _ HU.out).mono ?_
    rintro e w1 ⟨rfl, hb⟩
    rw [HE.out]
    have HB := Lib.hid hb
    clear hb
    go_wp2_with fail
    refine (rLaid n M 187 107 165 h1 h2 HM.out w1).mono ?_
    rintro e w2 ⟨g, gc, rfl, hG⟩
    have HS : Hid (ShowB w2 (.slice (some ⟨g, 0, none⟩) M gc) (gotL l true)) := Lib.hid (by rw [HG.out]; exact hG.shows)
    have HB2 := Lib.hid (below_then HB.out hG.below)
    clear hG
    go_wp2
    go_ret2
    exact ⟨_, _, _, rfl, HS.out, HB2.out⟩
  · have hne : (chkE l true != 0) = true := by simpa using h
    have HG := Lib.hid (got_no h)
    obtain ⟨q, hq⟩ : ∃ q, chkE l true = q := ⟨_, rfl⟩
    rw [hq] at hne ⊢
    have HQ := Lib.hid hq
    clear h hq
    go_enter Try.func19, Try.ntmps19
    go_wp2_with fail
    refine (rChk _ l true _ HU.out).mono ?_
    rintro e w1 ⟨rfl, hb⟩
    rw [HQ.out]
    have HB := Lib.hid hb
    clear hb
    go_wp2
    go_ret2
    exact ⟨_, _, _, rfl, by rw [HG.out]; exact ShowB.nil _, HB.out⟩
end Go.Proofs.Ytkannoakpcpdkaa
