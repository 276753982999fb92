/-
  FrameSum: the pages of all blocks are together the table's.
-/
import Derived.Test.YtdhjpoplgbcgjaaTables
set_option linter.unusedVariables false
set_option linter.unusedSimpArgs false
namespace Go.Proofs.Ytdhjpoplgbcgjaa
open Go Go.RowKit

theorem sums_end {l : List Pg} (h : Valid l) : allTo l l.length = l.length ∧ outTo l l.length = freeF l := by
  have := h.2.2.sums rfl rfl
  rw [free_yes h]
  exact this
theorem sums_head {l : List Pg} {i : Nat} (hs : Starts l i) : allTo l (i + 1) = allTo l i + (pg l i).sz ∧ outTo l (i + 1) = outTo l i + (if (pg l i).kind = 0 then (pg l i).sz else 0) := sums_block hs 1 (Nat.le_refl _) (pg l i).sz_pos
theorem sums_pin {l : List Pg} {i : Nat} (hp : pg l i = pin) : allTo l (i + 1) = allTo l i ∧ outTo l (i + 1) = outTo l i := by
  constructor
  · show allTo l i + _ = _
    rw [hp]; rfl
  · show outTo l i + _ = _
    rw [hp]; rfl
set_option maxHeartbeats 8000000 in
set_option maxRecDepth 100000 in
theorem walkSum (u : Value) (l : List Pg) (W : World) (hs : ShowP W u l) :
    Calls Try.prog 6 #[u] W fun e W' => e = .returned (.bool true) ∧ Below W.heap.size W W' := by
  have hs0 := hs
  obtain ⟨ao, cap, rfl, hcap, hat⟩ := hs.form
  obtain ⟨m, hm, hml, hm200⟩ := cut200 l.length
  obtain ⟨L, rfl, hsL⟩ := shows_cut hs0 hml
  have HS := Lib.hid hsL
  clear hs hs0 hat
  by_cases hv : Valid L
  rotate_left
  · have HK := Lib.hid (chk_no hv)
    have HF := Lib.hid (free_no hv)
    clear hv hsL
    go_enter Try.func6, Try.ntmps6
    go_wp2_with fail
    refine (cCheck _ L 50 HK.out _ HS.out).mono ?_
    rintro e w1 ⟨rfl, hb1⟩
    go_wp2_with fail
    refine (cFree _ L 0 HF.out _ (HS.out.below hb1)).mono ?_
    rintro e w2 ⟨rfl, hb⟩
    have hb2 := below_then hb1 hb
    go_wp2_with fail
    refine (works _).mono ?_
    rintro e w3 ⟨rfl, hb⟩
    have hb3 := below_then hb2 hb
    go_wp2
    go_ret
    exact ⟨rfl, hb3⟩
  have HV := Lib.hid hv
  have HK := Lib.hid (chk_ok hv)
  obtain ⟨_, _, hsl, _, hatL⟩ := hsL.form
  cases hsl
  have HAT := Lib.hid hatL
  clear hv hsL hatL
  go_enter Try.func6, Try.ntmps6
  go_wp2_with fail
  refine (cCheck _ L 0 HK.out _ HS.out).mono ?_
  rintro e w1 ⟨rfl, hb1⟩
  go_wp2
  go_loopw [3, 4, 5] (fun a f x wr => ∃ k A F : Nat, k ≤ L.length ∧ x = .int .i64 k ∧ a = .int .i64 A ∧ f = .int .i64 F ∧ A ≤ k * 1024 ∧ F ≤ k * 1024 ∧ Hid (allTo L k = A ∧ outTo L k = F) ∧ Below W.heap.size W wr) (fun _ _ x _ => L.length - (intOf x).toNat)
  case atStart => exact ⟨0, 0, 0, Nat.zero_le _, rfl, rfl, rfl, Nat.zero_le _, Nat.zero_le _, Lib.hid ⟨rfl, rfl⟩, hb1⟩
  case round =>
    clear hb1
    obtain ⟨k, A, F, hk, rfl, rfl, rfl, hA, hF, HAF, hb⟩ := hrel
    by_cases hlt : k < L.length
    · have HHD := Lib.hid (head_in HV.out hlt)
      rcases HV.out.2.2.page hlt with ⟨hst, hbeg⟩ | ⟨hpin, hk0⟩
      · have HQ := Lib.hid (sums_head hst)
        have hok := hst.head
        rw [hbeg] at HHD
        obtain ⟨b', o', e', x0, x1, x2⟩ := HAT.out k hlt
        cases e'
        obtain ⟨p, hp⟩ : ∃ p, pg L k = p := ⟨_, rfl⟩
        rw [hp] at x0 x1 x2 HQ hok
        obtain ⟨kd, od, ch⟩ := p
        dsimp only at x0 x1 x2
        have ho := (Pg.ok_iff.1 hok).1
        have hkn := Pg.kind_ne hok
        dsimp only at ho hkn
        obtain ⟨S, hS⟩ : ∃ S : Nat, (2 : Int) ^ od.toNat = (S : Int) := ⟨2 ^ od.toNat, by simp⟩
        have hsz := sz_hd (k := kd) (c := ch) hS
        have hSS : 1 ≤ S ∧ S ≤ 1024 := by
          rw [← hsz]
          exact ⟨Pg.sz_pos _, Pg.sz_le hok⟩
        rw [hsz] at HQ
        dsimp only at HQ
        obtain ⟨ho0, ho1⟩ := ho
        clear hst hbeg hok hp hsz
        have hcall := (cHead _ L k _ _ HHD.out _ (HS.out.below hb))
        go_wp2_with fail
        refine hcall.mono ?_
        rintro e w2 ⟨rfl, hb2⟩
        have hbb := below_then hb hb2
        have y0 := cell_keep hbb x0
        have y1 := cell_keep hbb x1
        have y2 := cell_keep hbb x2
        have hkq : (kd == 1) = false := by simpa using hkn
        have hki : (k : Int) < (k : Int) + (S : Int) := by omega
        clear hcall x0 x1 x2 hb2 hb
        by_cases hz : kd = 0
        · have HQ1 : Hid (allTo L (k + 1) = A + S ∧ outTo L (k + 1) = F + S) := Lib.hid (by have := HQ.out; rw [if_pos hz, HAF.out.1, HAF.out.2] at this; exact this)
          subst hz
          clear HQ
          go_wp2
          go_roundw
          case rel => exact ⟨k + 1, A + S, F + S, by omega, by go_num, by go_num, by go_num, by omega, by omega, HQ1, hbb⟩
          case measure => simp [intOf]; omega
        · have HQ1 : Hid (allTo L (k + 1) = A + S ∧ outTo L (k + 1) = F) := Lib.hid (by have := HQ.out; rw [if_neg hz, HAF.out.1, HAF.out.2] at this; exact this)
          have hzq : (kd == 0) = false := by simpa using hz
          clear HQ
          go_wp2
          go_roundw
          case rel => exact ⟨k + 1, A + S, F, by omega, by go_num, by go_num, by go_num, by omega, by omega, HQ1, hbb⟩
          case measure => simp [intOf]; omega
      · have HQ1 : Hid (allTo L (k + 1) = A ∧ outTo L (k + 1) = F) := Lib.hid (by have := sums_pin hpin; rw [HAF.out.1, HAF.out.2] at this; exact this)
        obtain ⟨hst, hbl, hin⟩ := HV.out.2.2.at_beg hlt
        have hok := hst.head
        obtain ⟨b', o', e', x0, x1, x2⟩ := HAT.out k hlt
        cases e'
        rw [hpin] at x0 x1 x2
        dsimp only [pin] at x0 x1 x2
        obtain ⟨h, hh⟩ : ∃ h, beg L k = h := ⟨_, rfl⟩
        rw [hh] at HHD hst hbl hin hok
        obtain ⟨b'', o'', e', z0, z1, z2⟩ := HAT.out h (by omega)
        cases e'
        obtain ⟨p, hp⟩ : ∃ p, pg L h = p := ⟨_, rfl⟩
        rw [hp] at z0 z1 z2 hok hin
        obtain ⟨kd, od, ch⟩ := p
        dsimp only at z0 z1 z2
        have ho := (Pg.ok_iff.1 hok).1
        have hkn := Pg.kind_ne hok
        dsimp only at ho hkn
        obtain ⟨S, hS⟩ : ∃ S : Nat, (2 : Int) ^ od.toNat = (S : Int) := ⟨2 ^ od.toNat, by simp⟩
        have hsz := sz_hd (k := kd) (c := ch) hS
        have hSS : 1 ≤ S ∧ S ≤ 1024 := by
          rw [← hsz]
          exact ⟨Pg.sz_pos _, Pg.sz_le hok⟩
        rw [hsz] at hin
        obtain ⟨ho0, ho1⟩ := ho
        clear hst hok hp hsz hpin hh
        have hcall := (cHead _ L k _ _ HHD.out _ (HS.out.below hb))
        go_wp2_with fail
        refine hcall.mono ?_
        rintro e w2 ⟨rfl, hb2⟩
        have hbb := below_then hb hb2
        have y0 := cell_keep hbb x0
        have y1 := cell_keep hbb x1
        have t0 := cell_keep hbb z0
        have t1 := cell_keep hbb z1
        have hkq : (kd == 1) = false := by simpa using hkn
        have hki : (k : Int) < (h : Int) + (S : Int) := by omega
        clear hcall x0 x1 x2 hb2 hb z0 z1 z2
        go_wp2
        go_roundw
        case rel => exact ⟨k + 1, A, F, by omega, by go_num, by go_num, by go_num, by omega, by omega, HQ1, hbb⟩
        case measure => simp [intOf]; omega
    · have hke : k = L.length := by omega
      have HE : Hid (A = L.length ∧ freeF L = F) := Lib.hid (by
        have h1 := sums_end HV.out
        have h2 := HAF.out
        rw [hke] at h2
        exact ⟨by omega, by omega⟩)
      clear hlt hk
      subst hke
      have hAe : A = L.length := HE.out.1
      have HF : Hid (freeF L = F) := Lib.hid HE.out.2
      subst hAe
      go_wp2_with fail
      refine (cFree _ L F HF.out _ (HS.out.below hb)).mono ?_
      rintro e w2 ⟨rfl, hb2⟩
      have hb3 := below_then hb hb2
      go_wp2_with fail
      refine (works _).mono ?_
      rintro e w3 ⟨rfl, hb4⟩
      have hb5 := below_then hb3 hb4
      go_wp2
      go_ret
      exact ⟨rfl, hb5⟩
end Go.Proofs.Ytdhjpoplgbcgjaa
