/-
  The law ChargeBounds, walked.
-/
import Derived.Test.YtahkfagfobfliaaArr
set_option linter.unusedVariables false
set_option linter.unusedSimpArgs false
namespace Go.Proofs.Ytahkfagfobfliaa
open Go Go.RowKit

/-- what one call makes of the counts -/
structure Rises (t t' : Ct) (e : Int) (k : Nat) : Prop where
  z : ∀ j, 1 ≤ j → j ≤ 16 → 0 ≤ t'.us j
  s : (e ≠ 0 ∨ k = 0) → ∀ j, t'.us j = t.us j
  r : ∀ j, 1 ≤ j → j ≤ 16 → t.us j < t'.us j → t'.us j ≤ t'.mo j
theorem Rises.same {t t' : Ct} {e : Int} {k : Nat} (hc : CI t) (hu : t'.us = t.us) : Rises t t' e k :=
  ⟨fun j h1 h2 => by rw [hu]; exact (hc.u j h1 h2).1, fun _ j => by rw [hu], fun j _ _ h => by rw [hu] at h; omega⟩
section
variable {t t' : Ct} {x n e a q : Int} {l : List Int} {k : Nat}
theorem LmIs.rises (h : LmIs t x n e t') (hc : CI t) : Rises t t' e k := by
  cases h with
  | bad _ => exact .same hc rfl
  | ok _ _ _ _ _ => exact .same hc rfl
theorem UpIs.rises (h : UpIs t x n e t') (hc : CI t) (hk : k ≠ 0) : Rises t t' e k := by
  have hc' := h.ci hc
  cases h with
  | bad _ => exact .same hc rfl
  | full _ _ _ _ _ _ => exact .same hc rfl
  | ok K hg h1 h2 hn hf =>
    refine ⟨fun j h1 h2 => (hc'.u j h1 h2).1, fun h => absurd h (by simp [hk]), fun j _ _ h => ?_⟩
    unfold Ct.up Ct.set at h ⊢
    dsimp only at h ⊢
    by_cases ej : j = K
    · subst ej; rw [if_pos rfl]; exact hf
    · rw [if_neg ej] at h; omega
theorem DnIs.rises (h : DnIs t x n e t') (hc : CI t) (hk : k ≠ 0) : Rises t t' e k := by
  have hc' := h.ci hc
  cases h with
  | bad _ => exact .same hc rfl
  | few _ _ _ _ _ _ => exact .same hc rfl
  | ok K hg h1 h2 hn hf =>
    refine ⟨fun j h1 h2 => (hc'.u j h1 h2).1, fun h => absurd h (by simp [hk]), fun j _ _ h => ?_⟩
    unfold Ct.dn Ct.set at h ⊢
    dsimp only at h ⊢
    unfold isN at hn
    by_cases ej : j = K
    · subst ej; rw [if_pos rfl] at h; omega
    · rw [if_neg ej] at h; omega
theorem TryIs.rises (h : TryIs q t l n a e t') (hc : CI t) (hk : k ≠ 0) : Rises t t' e k := by
  have hc' := h.ci hc
  cases h with
  | bad _ => exact .same hc rfl
  | full _ _ _ _ _ _ _ => exact .same hc rfl
  | ok hq hp hn hb =>
    refine ⟨fun j h1 h2 => (hc'.u j h1 h2).1, fun h => absurd h (by simp [hk]), fun j _ _ h => ?_⟩
    rw [all_us] at h ⊢
    by_cases ej : (j : Int) ∈ l
    · rw [if_pos ej]
      obtain ⟨i, hi, e⟩ := mem_pk ej
      have := hb i hi
      unfold fits at this
      rwa [e, Int.toNat_natCast] at this
    · rw [if_neg ej] at h; omega
theorem BkIs.rises (h : BkIs q t l n e t') (hc : CI t) (hk : k ≠ 0) : Rises t t' e k := by
  have hc' := h.ci hc
  cases h with
  | bad _ => exact .same hc rfl
  | few _ _ _ _ _ _ _ => exact .same hc rfl
  | ok hq hp hn hb =>
    refine ⟨fun j h1 h2 => (hc'.u j h1 h2).1, fun h => absurd h (by simp [hk]), fun j _ _ h => ?_⟩
    rw [all_us] at h
    unfold isN at hn
    split at h <;> omega
end
set_option maxHeartbeats 16000000 in
set_option maxRecDepth 100000 in
theorem walkBounds (u : Value) (l : List Dq) (W : World) (hs : ShowD W u l) : Calls Try.prog 4 #[u] W fun e W' => e = .returned (.bool true) ∧ Below W.heap.size W W' := by
  obtain ⟨ao, cap, rfl, hcap, hat⟩ := hs
  obtain ⟨ZN, hzeroN, hZN⟩ := makeN
  have HZN := Lib.hid hZN
  clear hZN
  go_enter Try.func4, Try.ntmps4
  go_wp2_with fail
  refine (works _).mono ?_
  rintro e w0 ⟨rfl, hb0⟩
  have HB0 := Lib.hid hb0
  clear hb0
  go_wp2_with fail
  refine (oNew _).mono ?_
  rintro e w1 ⟨B, g, rfl, h1⟩
  have H1 : Hid (C1 W w1 B g noC) := Lib.hid ⟨h1.cv, h1.ci, HB0.out.trans (h1.low.mono HB0.out.size), Nat.le_trans HB0.out.size h1.ge.1, Nat.le_trans HB0.out.size h1.ge.2⟩
  clear h1 HB0
  go_wp2
  go_loopw [4] (fun i wr => ∃ k : Nat, k ≤ l.length ∧ k ≤ 100 ∧ i = .int .i64 k ∧ Hid (∃ t, C1 W wr B g t)) (fun i _ => l.length - (intOf i).toNat)
  case atStart => exact ⟨0, by omega, by omega, rfl, Lib.hid ⟨_, H1.out⟩⟩
  case round =>
    clear H1
    obtain ⟨k, hk, hk100, rfl, HS⟩ := hrel
    obtain ⟨t, ht⟩ := HS.out
    have HT := Lib.hid ht
    clear ht HS
    by_cases hlt : k < l.length
    · by_cases hlt2 : k < 100
      · obtain ⟨b1, o1, p, rfl, hcall⟩ := hat k hlt
        have d0 := cell_keep HT.out.low hcall.k
        have d1 := cell_keep HT.out.low hcall.a
        have d2 := cell_keep HT.out.low hcall.n
        have d3 := cell_keep HT.out.low hcall.q
        have HP := Lib.hid hcall.l
        clear hcall
        generalize (dq l k).kind = kd at d0
        generalize (dq l k).a = x at d1
        generalize (dq l k).n = n at d2
        generalize (dq l k).path = pl at HP
        obtain ⟨pa, pcap, rfl, _⟩ := HP.out.form
        generalize pl.length = plen at *
        obtain ⟨q, hq⟩ : ∃ q, bring kd 5 = q := ⟨_, rfl⟩
        have HQ := Lib.hid hq
        have hq5 : q < 5 := by rw [← hq]; exact bring_lt kd 5 (by decide)
        clear hq
        have hdb := Lib.hid (heap_new wr (.cells #[.int .i64 kd, .int .i64 x, .int .i64 n, .slice pa plen pcap] 30))
        have HU0 := Lib.hid (UK.new (HT.out.alloc (.cells #[.int .i64 kd, .int .i64 x, .int .i64 n, .slice pa plen pcap] 30)) HZN.out t.us)
        have HD0 := Lib.hid (keep_block hdb.out (below_one (Below.refl _ _) (.cells ZN 34)))
        rw [size_alloc] at HU0
        go_wp2
        obtain ⟨D, hD⟩ : ∃ D, wr.heap.size = D := ⟨_, rfl⟩
        obtain ⟨U, hU⟩ : ∃ U, D + 1 = U := ⟨_, rfl⟩
        obtain ⟨w2, hw2⟩ : ∃ w2, (wr.alloc (.cells #[.int .i64 kd, .int .i64 x, .int .i64 n, .slice pa plen pcap] 30)).alloc (.cells ZN 34) = w2 := ⟨_, rfl⟩
        rw [hw2, hD, hU] at HU0
        rw [hw2, hD] at HD0
        simp only [hw2, hD, hU]
        clear hw2 hD hU hdb d0 d1 d2 d3
        simp only [show decide ((k : Int) < 100) = true from decide_eq_true (by omega)]
        go_loopw [7] (fun i wx => ∃ j : Nat, 1 ≤ j ∧ j ≤ 17 ∧ i = .int .i64 j ∧ Hid (UK W wx B g t U (fillI t.us j)) ∧ Hid (wx.heap[D]? = some (.cells #[.int .i64 kd, .int .i64 x, .int .i64 n, .slice pa plen pcap] 30 (0, 0)))) (fun i _ => 17 - (intOf i).toNat)
        case atStart => exact ⟨1, by omega, by omega, rfl, HU0, HD0⟩
        case round =>
          clear HU0 HD0
          obtain ⟨j, hj1, hj2, rfl, HU, HD⟩ := hrel
          by_cases hj : j < 17
          · have HV : Hid (usedF t (j : Int) = t.us j) := Lib.hid (usedF_at hj1 (by omega))
            have cu := HU.out.cu hj
            have fu := HU.out.u.frozen j
            have H5 := Lib.hid (HU.out.setU j (.int .i64 (t.us j)) (fillI_next t.us hj1))
            have hUD : D ≠ U := by
              rintro rfl
              obtain ⟨c, hb, _⟩ := HU.out.u
              rw [HD.out] at hb
              have e := Option.some.inj hb
              injection e with _ e2
              exact absurd e2 (by decide)
            have HD5 : Hid ((World.setCell wr ⟨U, j, none⟩ (.int .i64 (t.us j))).heap[D]? = some (.cells #[.int .i64 kd, .int .i64 x, .int .i64 n, .slice pa plen pcap] 30 (0, 0))) := Lib.hid (by rw [Below.heap_setCell _ _ _ _ hUD]; exact HD.out)
            obtain ⟨v1, hv1⟩ : ∃ v1, fillI t.us j j = v1 := ⟨_, rfl⟩
            rw [hv1] at cu
            clear hv1 hUD
            go_wp2_with fail
            refine (cUsed HU.out.o.cv _ _ HV.out).mono ?_
            rintro e wy ⟨rfl, rfl⟩
            go_wp2
            go_roundw
            case rel => exact ⟨j + 1, by omega, by omega, by go_num, H5, HD5⟩
            case measure => simp [intOf]; omega
          · obtain rfl : j = 17 := by omega
            have c0 := self_cell HD.out 0 _ rfl
            have c1 := self_cell HD.out 1 _ rfl
            have c2 := self_cell HD.out 2 _ rfl
            have c3 := self_cell HD.out 3 _ rfl
            clear hj hj1 hj2
            rw [show ((17 : Nat) : Int) = 17 from rfl]
            go_wp2_with fail
            refine (cBringN kd 5 5 rfl (by decide) _).mono ?_
            rintro e wy ⟨rfl, rfl⟩
            rw [HQ.out]
            clear HQ
            have HST := Lib.hid (HU.out.o.arg HP.out)
            rcases (by omega : q = 0 ∨ q = 1 ∨ q = 2 ∨ q = 3 ∨ q = 4) with rfl | rfl | rfl | rfl | rfl
            · obtain ⟨er, t', hr⟩ := LmIs.ex t x n
              have HR : Hid (Rises t t' er 0) := Lib.hid (hr.rises HU.out.o.ci)
              go_wp2_with fail
              refine (oLimit HU.out.o hr).mono ?_
              rintro e wz ⟨rfl, h6, k6⟩
              have H6 := Lib.hid (HU.out.kt h6 k6)
              clear h6 k6 hr HU HST HD c0 c1 c2 c3
              go_wp2
              go_loopw [10] (fun i wx => ∃ j : Nat, 1 ≤ j ∧ j ≤ 17 ∧ i = .int .i64 j ∧ Hid (UK W wx B g t' U (fillI t.us 17))) (fun i _ => 17 - (intOf i).toNat)
              case atStart => exact ⟨1, by omega, by omega, rfl, H6⟩
              case round =>
                clear H6
                obtain ⟨j, hj1, hj2, rfl, HU⟩ := hrel
                by_cases hj : j < 17
                · have HV : Hid (usedF t' (j : Int) = t'.us j) := Lib.hid (usedF_at hj1 (by omega))
                  have HM : Hid (mostF t' (j : Int) = t'.mo j) := Lib.hid (mostF_at hj1 (by omega))
                  have cu := HU.out.cu hj
                  rw [fillI_at ⟨hj1, hj⟩] at cu
                  have hz := HR.out.z j hj1 (by omega)
                  have hs := fun h => HR.out.s h j
                  have hrr := HR.out.r j hj1 (by omega)
                  generalize t'.us j = n1 at HV hz hs hrr
                  generalize t'.mo j = m1 at HM hrr
                  generalize t.us j = n0 at cu hs hrr
                  have hz1 : ¬ n1 < 0 := by omega
                  clear hz
                  go_wp2_with fail
                  refine (cUsed HU.out.o.cv _ _ HV.out).mono ?_
                  rintro e wy ⟨rfl, rfl⟩
                  by_cases he : er = 0
                  · subst he
                    by_cases hgt : n0 < n1
                    · have hm1 : ¬ m1 < n1 := by have := hrr hgt; omega
                      have hne : (n1 != n0) = true := by rw [bne_iff_ne]; omega
                      exact absurd (hs (.inr (by first | rfl | trivial))) (by omega)
                    · have hne : (n1 != n0) = false := by have := hs (.inr (by first | rfl | trivial)); simp [this]
                      clear hs hrr
                      go_wp2
                      go_roundw
                      case rel => exact ⟨j + 1, by omega, by omega, by go_num, HU⟩
                      case measure => simp [intOf]; omega
                  · obtain rfl := hs (.inl he)
                    have hee : (er != 0) = true := by simp [he]
                    have hne : (n1 != n1) = false := by simp
                    have hgt : ¬ n1 < n1 := by omega
                    clear hs hrr
                    go_wp2
                    go_roundw
                    case rel => exact ⟨j + 1, by omega, by omega, by go_num, HU⟩
                    case measure => simp [intOf]; omega
                · obtain rfl : j = 17 := by omega
                  have H7 := Lib.hid HU.out.o
                  rw [show ((17 : Nat) : Int) = 17 from rfl]
                  go_wp2
                  go_roundw
                  case rel => exact ⟨k + 1, by omega, by omega, by go_num, Lib.hid ⟨_, H7.out⟩⟩
                  case measure => simp [intOf]; omega
            · obtain ⟨er, t', hr⟩ := UpIs.ex t x n
              have HR : Hid (Rises t t' er 1) := Lib.hid (hr.rises HU.out.o.ci (by decide))
              go_wp2_with fail
              refine (oUp HU.out.o hr).mono ?_
              rintro e wz ⟨rfl, h6, k6⟩
              have H6 := Lib.hid (HU.out.kt h6 k6)
              clear h6 k6 hr HU HST HD c0 c1 c2 c3
              go_wp2
              go_loopw [10] (fun i wx => ∃ j : Nat, 1 ≤ j ∧ j ≤ 17 ∧ i = .int .i64 j ∧ Hid (UK W wx B g t' U (fillI t.us 17))) (fun i _ => 17 - (intOf i).toNat)
              case atStart => exact ⟨1, by omega, by omega, rfl, H6⟩
              case round =>
                clear H6
                obtain ⟨j, hj1, hj2, rfl, HU⟩ := hrel
                by_cases hj : j < 17
                · have HV : Hid (usedF t' (j : Int) = t'.us j) := Lib.hid (usedF_at hj1 (by omega))
                  have HM : Hid (mostF t' (j : Int) = t'.mo j) := Lib.hid (mostF_at hj1 (by omega))
                  have cu := HU.out.cu hj
                  rw [fillI_at ⟨hj1, hj⟩] at cu
                  have hz := HR.out.z j hj1 (by omega)
                  have hs := fun h => HR.out.s h j
                  have hrr := HR.out.r j hj1 (by omega)
                  generalize t'.us j = n1 at HV hz hs hrr
                  generalize t'.mo j = m1 at HM hrr
                  generalize t.us j = n0 at cu hs hrr
                  have hz1 : ¬ n1 < 0 := by omega
                  clear hz
                  go_wp2_with fail
                  refine (cUsed HU.out.o.cv _ _ HV.out).mono ?_
                  rintro e wy ⟨rfl, rfl⟩
                  by_cases he : er = 0
                  · subst he
                    by_cases hgt : n0 < n1
                    · have hm1 : ¬ m1 < n1 := by have := hrr hgt; omega
                      have hne : (n1 != n0) = true := by rw [bne_iff_ne]; omega
                      clear hs hrr
                      go_wp2_with (go_at_call 13; refine (cMost HU.out.o.cv _ _ HM.out).mono ?_; rintro e wy2 ⟨rfl, rfl⟩)
                      go_roundw
                      case rel => exact ⟨j + 1, by omega, by omega, by go_num, HU⟩
                      case measure => simp [intOf]; omega
                    · 
                      clear hs hrr
                      go_wp2
                      go_roundw
                      case rel => exact ⟨j + 1, by omega, by omega, by go_num, HU⟩
                      case measure => simp [intOf]; omega
                  · obtain rfl := hs (.inl he)
                    have hee : (er != 0) = true := by simp [he]
                    have hne : (n1 != n1) = false := by simp
                    have hgt : ¬ n1 < n1 := by omega
                    clear hs hrr
                    go_wp2
                    go_roundw
                    case rel => exact ⟨j + 1, by omega, by omega, by go_num, HU⟩
                    case measure => simp [intOf]; omega
                · obtain rfl : j = 17 := by omega
                  have H7 := Lib.hid HU.out.o
                  rw [show ((17 : Nat) : Int) = 17 from rfl]
                  go_wp2
                  go_roundw
                  case rel => exact ⟨k + 1, by omega, by omega, by go_num, Lib.hid ⟨_, H7.out⟩⟩
                  case measure => simp [intOf]; omega
            · obtain ⟨er, t', hr⟩ := DnIs.ex t x n
              have HR : Hid (Rises t t' er 2) := Lib.hid (hr.rises HU.out.o.ci (by decide))
              go_wp2_with fail
              refine (oDown HU.out.o hr).mono ?_
              rintro e wz ⟨rfl, h6, k6⟩
              have H6 := Lib.hid (HU.out.kt h6 k6)
              clear h6 k6 hr HU HST HD c0 c1 c2 c3
              go_wp2
              go_loopw [10] (fun i wx => ∃ j : Nat, 1 ≤ j ∧ j ≤ 17 ∧ i = .int .i64 j ∧ Hid (UK W wx B g t' U (fillI t.us 17))) (fun i _ => 17 - (intOf i).toNat)
              case atStart => exact ⟨1, by omega, by omega, rfl, H6⟩
              case round =>
                clear H6
                obtain ⟨j, hj1, hj2, rfl, HU⟩ := hrel
                by_cases hj : j < 17
                · have HV : Hid (usedF t' (j : Int) = t'.us j) := Lib.hid (usedF_at hj1 (by omega))
                  have HM : Hid (mostF t' (j : Int) = t'.mo j) := Lib.hid (mostF_at hj1 (by omega))
                  have cu := HU.out.cu hj
                  rw [fillI_at ⟨hj1, hj⟩] at cu
                  have hz := HR.out.z j hj1 (by omega)
                  have hs := fun h => HR.out.s h j
                  have hrr := HR.out.r j hj1 (by omega)
                  generalize t'.us j = n1 at HV hz hs hrr
                  generalize t'.mo j = m1 at HM hrr
                  generalize t.us j = n0 at cu hs hrr
                  have hz1 : ¬ n1 < 0 := by omega
                  clear hz
                  go_wp2_with fail
                  refine (cUsed HU.out.o.cv _ _ HV.out).mono ?_
                  rintro e wy ⟨rfl, rfl⟩
                  by_cases he : er = 0
                  · subst he
                    by_cases hgt : n0 < n1
                    · have hm1 : ¬ m1 < n1 := by have := hrr hgt; omega
                      have hne : (n1 != n0) = true := by rw [bne_iff_ne]; omega
                      clear hs hrr
                      go_wp2_with (go_at_call 13; refine (cMost HU.out.o.cv _ _ HM.out).mono ?_; rintro e wy2 ⟨rfl, rfl⟩)
                      go_roundw
                      case rel => exact ⟨j + 1, by omega, by omega, by go_num, HU⟩
                      case measure => simp [intOf]; omega
                    · 
                      clear hs hrr
                      go_wp2
                      go_roundw
                      case rel => exact ⟨j + 1, by omega, by omega, by go_num, HU⟩
                      case measure => simp [intOf]; omega
                  · obtain rfl := hs (.inl he)
                    have hee : (er != 0) = true := by simp [he]
                    have hne : (n1 != n1) = false := by simp
                    have hgt : ¬ n1 < n1 := by omega
                    clear hs hrr
                    go_wp2
                    go_roundw
                    case rel => exact ⟨j + 1, by omega, by omega, by go_num, HU⟩
                    case measure => simp [intOf]; omega
                · obtain rfl : j = 17 := by omega
                  have H7 := Lib.hid HU.out.o
                  rw [show ((17 : Nat) : Int) = 17 from rfl]
                  go_wp2
                  go_roundw
                  case rel => exact ⟨k + 1, by omega, by omega, by go_num, Lib.hid ⟨_, H7.out⟩⟩
                  case measure => simp [intOf]; omega
            · obtain ⟨ra, er, t', hr⟩ := TryIs.ex t pl n (askP pl n) askP_zero
              have HR : Hid (Rises t t' er 3) := Lib.hid (hr.rises HU.out.o.ci (by decide))
              go_wp2_with fail
              refine (oTry HU.out.o rfl hr HST.out).mono ?_
              rintro e wz ⟨rfl, h6, k6⟩
              have H6 := Lib.hid (HU.out.kt h6 k6)
              clear h6 k6 hr HU HST HD c0 c1 c2 c3
              go_wp2
              go_loopw [10] (fun i wx => ∃ j : Nat, 1 ≤ j ∧ j ≤ 17 ∧ i = .int .i64 j ∧ Hid (UK W wx B g t' U (fillI t.us 17))) (fun i _ => 17 - (intOf i).toNat)
              case atStart => exact ⟨1, by omega, by omega, rfl, H6⟩
              case round =>
                clear H6
                obtain ⟨j, hj1, hj2, rfl, HU⟩ := hrel
                by_cases hj : j < 17
                · have HV : Hid (usedF t' (j : Int) = t'.us j) := Lib.hid (usedF_at hj1 (by omega))
                  have HM : Hid (mostF t' (j : Int) = t'.mo j) := Lib.hid (mostF_at hj1 (by omega))
                  have cu := HU.out.cu hj
                  rw [fillI_at ⟨hj1, hj⟩] at cu
                  have hz := HR.out.z j hj1 (by omega)
                  have hs := fun h => HR.out.s h j
                  have hrr := HR.out.r j hj1 (by omega)
                  generalize t'.us j = n1 at HV hz hs hrr
                  generalize t'.mo j = m1 at HM hrr
                  generalize t.us j = n0 at cu hs hrr
                  have hz1 : ¬ n1 < 0 := by omega
                  clear hz
                  go_wp2_with fail
                  refine (cUsed HU.out.o.cv _ _ HV.out).mono ?_
                  rintro e wy ⟨rfl, rfl⟩
                  by_cases he : er = 0
                  · subst he
                    by_cases hgt : n0 < n1
                    · have hm1 : ¬ m1 < n1 := by have := hrr hgt; omega
                      have hne : (n1 != n0) = true := by rw [bne_iff_ne]; omega
                      clear hs hrr
                      go_wp2_with (go_at_call 13; refine (cMost HU.out.o.cv _ _ HM.out).mono ?_; rintro e wy2 ⟨rfl, rfl⟩)
                      go_roundw
                      case rel => exact ⟨j + 1, by omega, by omega, by go_num, HU⟩
                      case measure => simp [intOf]; omega
                    · 
                      clear hs hrr
                      go_wp2
                      go_roundw
                      case rel => exact ⟨j + 1, by omega, by omega, by go_num, HU⟩
                      case measure => simp [intOf]; omega
                  · obtain rfl := hs (.inl he)
                    have hee : (er != 0) = true := by simp [he]
                    have hne : (n1 != n1) = false := by simp
                    have hgt : ¬ n1 < n1 := by omega
                    clear hs hrr
                    go_wp2
                    go_roundw
                    case rel => exact ⟨j + 1, by omega, by omega, by go_num, HU⟩
                    case measure => simp [intOf]; omega
                · obtain rfl : j = 17 := by omega
                  have H7 := Lib.hid HU.out.o
                  rw [show ((17 : Nat) : Int) = 17 from rfl]
                  go_wp2
                  go_roundw
                  case rel => exact ⟨k + 1, by omega, by omega, by go_num, Lib.hid ⟨_, H7.out⟩⟩
                  case measure => simp [intOf]; omega
            · obtain ⟨er, t', hr⟩ := BkIs.ex t pl n (askP pl n) askP_zero
              have HR : Hid (Rises t t' er 4) := Lib.hid (hr.rises HU.out.o.ci (by decide))
              go_wp2_with fail
              refine (oBack HU.out.o rfl hr HST.out).mono ?_
              rintro e wz ⟨rfl, h6, k6⟩
              have H6 := Lib.hid (HU.out.kt h6 k6)
              clear h6 k6 hr HU HST HD c0 c1 c2 c3
              go_wp2
              go_loopw [10] (fun i wx => ∃ j : Nat, 1 ≤ j ∧ j ≤ 17 ∧ i = .int .i64 j ∧ Hid (UK W wx B g t' U (fillI t.us 17))) (fun i _ => 17 - (intOf i).toNat)
              case atStart => exact ⟨1, by omega, by omega, rfl, H6⟩
              case round =>
                clear H6
                obtain ⟨j, hj1, hj2, rfl, HU⟩ := hrel
                by_cases hj : j < 17
                · have HV : Hid (usedF t' (j : Int) = t'.us j) := Lib.hid (usedF_at hj1 (by omega))
                  have HM : Hid (mostF t' (j : Int) = t'.mo j) := Lib.hid (mostF_at hj1 (by omega))
                  have cu := HU.out.cu hj
                  rw [fillI_at ⟨hj1, hj⟩] at cu
                  have hz := HR.out.z j hj1 (by omega)
                  have hs := fun h => HR.out.s h j
                  have hrr := HR.out.r j hj1 (by omega)
                  generalize t'.us j = n1 at HV hz hs hrr
                  generalize t'.mo j = m1 at HM hrr
                  generalize t.us j = n0 at cu hs hrr
                  have hz1 : ¬ n1 < 0 := by omega
                  clear hz
                  go_wp2_with fail
                  refine (cUsed HU.out.o.cv _ _ HV.out).mono ?_
                  rintro e wy ⟨rfl, rfl⟩
                  by_cases he : er = 0
                  · subst he
                    by_cases hgt : n0 < n1
                    · have hm1 : ¬ m1 < n1 := by have := hrr hgt; omega
                      have hne : (n1 != n0) = true := by rw [bne_iff_ne]; omega
                      clear hs hrr
                      go_wp2_with (go_at_call 13; refine (cMost HU.out.o.cv _ _ HM.out).mono ?_; rintro e wy2 ⟨rfl, rfl⟩)
                      go_roundw
                      case rel => exact ⟨j + 1, by omega, by omega, by go_num, HU⟩
                      case measure => simp [intOf]; omega
                    · 
                      clear hs hrr
                      go_wp2
                      go_roundw
                      case rel => exact ⟨j + 1, by omega, by omega, by go_num, HU⟩
                      case measure => simp [intOf]; omega
                  · obtain rfl := hs (.inl he)
                    have hee : (er != 0) = true := by simp [he]
                    have hne : (n1 != n1) = false := by simp
                    have hgt : ¬ n1 < n1 := by omega
                    clear hs hrr
                    go_wp2
                    go_roundw
                    case rel => exact ⟨j + 1, by omega, by omega, by go_num, HU⟩
                    case measure => simp [intOf]; omega
                · obtain rfl : j = 17 := by omega
                  have H7 := Lib.hid HU.out.o
                  rw [show ((17 : Nat) : Int) = 17 from rfl]
                  go_wp2
                  go_roundw
                  case rel => exact ⟨k + 1, by omega, by omega, by go_num, Lib.hid ⟨_, H7.out⟩⟩
                  case measure => simp [intOf]; omega
      · obtain rfl : k = 100 := by omega
        rw [show ((100 : Nat) : Int) = 100 from rfl]
        go_wp2
        go_ret
        exact ⟨rfl, HT.out.low⟩
    · obtain rfl : k = l.length := by omega
      go_wp2
      go_ret
      exact ⟨rfl, HT.out.low⟩
end Go.Proofs.Ytahkfagfobfliaa
