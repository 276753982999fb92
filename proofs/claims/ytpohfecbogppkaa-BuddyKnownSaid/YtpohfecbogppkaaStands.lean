/-
  BuddyStands: behind any calls the table may be, no two buddies are both free, what is out is what was given out.
-/
import Derived.Test.YtpohfecbogppkaaBack
set_option linter.unusedVariables false
set_option linter.unusedSimpArgs false
namespace Go.Proofs.Ytpohfecbogppkaa
open Go Go.RowKit

/-- a page of a table: a free block's head, a head that is out, or inside -/
theorem Std.page {L : List Pg} (h : Std L) {k : Nat} (hk : k < L.length) : (∃ o, o ≤ 10 ∧ pg L k = fh o) ∨ (∃ o : Nat, o ≤ 10 ∧ (pg L k).kind = 2 ∧ (pg L k).order = o) ∨ pg L k = pin := by
  rcases h.valid.2.2.page hk with ⟨hs, _⟩ | ⟨e, _⟩
  · have h0 := Pg.ok_iff.1 hs.head
    by_cases h2 : (pg L k).kind = 2
    · exact .inr (.inl ⟨(pg L k).order.toNat, by omega, h2, by omega⟩)
    · exact .inl ⟨_, by omega, ok_zero hs.head h2⟩
  · exact .inr (.inr e)
theorem bring_small (o : Nat) (h : o ≤ 10) : bring (o : Int) 11 = o := by unfold bring; omega
theorem heads_more (L : List Pg) (k : Nat) : heads L (k + 1) = heads L k + one (pg L k) := rfl
theorem Pl.small {W w : World} {B g n N : Nat} {L : List Pg} {f : Nat → Nat} {v : Value} (h : Pl W w B g n L f N v) : N ≤ 300 := by
  have h1 := h.many
  have h2 := heads_le L L.length
  have h3 := h.len
  have h4 := h.n2
  omega
set_option maxHeartbeats 16000000 in
set_option maxRecDepth 100000 in
theorem walkStands (pages : Int) (u : Value) (l : List Pg) (W : World) (hs : ShowP W u l) :
    Calls Try.prog 4 #[.int .i64 pages, u] W fun e w' => e = .returned (.bool true) ∧ Below W.heap.size W w' := by
  obtain ⟨n, hn⟩ : ∃ n, 1 + bring pages 300 = n := ⟨_, rfl⟩
  have HN := Lib.hid hn
  clear hn
  go_enter Try.func4, Try.ntmps4
  go_wp2_with fail
  refine (cPlayed pages _ l n HN.out _ hs).mono ?_
  rintro e w1 ⟨B, g, L, f, N, v, rfl, hpl⟩
  clear hs
  obtain ⟨va, vc, rfl, hvc1, hvc2⟩ := own_shape hpl.own
  obtain ⟨F, hF⟩ : ∃ F, freeF L = F := ⟨_, rfl⟩
  have HF := Lib.hid hF
  have HP := Lib.hid hpl
  have hL := hpl.a.n2
  have hNs := hpl.small
  clear hpl hF
  go_wp2_with fail
  refine (cPagesOf HP.out.a).mono ?_
  rintro e w2 ⟨g2, cp, rfl, hg2, hcp, ht, hb2⟩
  have HP2 := Lib.hid (HP.out.below hb2)
  have HT := Lib.hid ht
  clear ht hb2 HP
  go_wp2_with fail
  refine (cCheck _ L 0 (chk_ok HP2.out.std.valid) _ (HT.out.shows hcp)).mono ?_
  rintro e w3 ⟨rfl, hb⟩
  have HP3 := Lib.hid (HP2.out.below hb)
  have HT3 := Lib.hid (HT.out.below hb)
  clear hb HP2 HT
  go_wp2_with fail
  refine (cFree _ L F HF.out _ (HT3.out.shows hcp)).mono ?_
  rintro e w4 ⟨rfl, hb⟩
  have HP4 := Lib.hid (HP3.out.below hb)
  have HT4 := Lib.hid (HT3.out.below hb)
  clear hb HP3 HT3
  go_wp2_with fail
  refine (cLeft HP4.out.a F HF.out).mono ?_
  rintro e w5 ⟨rfl, hb⟩
  have HP5 := Lib.hid (HP4.out.below hb)
  have HT5 := Lib.hid (HT4.out.below hb)
  clear hb HP4 HT4
  unfold maxLen at hcp
  go_wp2
  go_loopw [8, 9] (fun x y wr => ∃ k : Nat, k ≤ L.length ∧ y = .int .i64 k ∧ x = .int .i64 (heads L k) ∧ Hid (Below w5.heap.size w5 wr)) (fun _ y _ => L.length - (intOf y).toNat)
  case atStart => exact ⟨0, by omega, by first | rfl | go_num, by first | rfl | go_num, Lib.hid (Below.refl _ _)⟩
  case round =>
    obtain ⟨k, hk, rfl, rfl, HB⟩ := hrel
    have hh := heads_le L k
    by_cases hlt : k < L.length
    · have HTk := Lib.hid (HT5.out.below HB.out)
      obtain ⟨c0, c1, c2⟩ := HTk.out.cells hlt
      have hm := Lib.hid (heads_more L k)
      rcases HP5.out.std.page hlt with ⟨o, ho, e⟩ | ⟨o, ho, e1, e2⟩ | e
      · rw [e] at c0 c1 c2
        simp only [fh] at c0 c1 c2
        have HH : Hid (heads L (k + 1) = heads L k) := Lib.hid (by rw [heads_more, one_no (by rw [e]; simp [fh]), Nat.add_zero])
        have HBR := Lib.hid (bring_small o ho)
        obtain ⟨S, hS⟩ : ∃ S, 2 ^ o = S := ⟨_, rfl⟩
        have hS1 : 1 ≤ S ∧ S ≤ 1024 := by rw [← hS]; exact pow_le o ho
        have hSi : (2 : Int) ^ o = (S : Int) := pow_int o S hS
        have HSS := Lib.hid hS
        have HE := Lib.hid e
        have HM : Hid (heads L (k + 1) = heads L k) := HH
        have m1 : IntKind.i64.wrap (2 * (S : Int)) = 2 * (S : Int) := IntWalk.i64_in _ (by omega)
        have m2 : IntKind.i64.wrap ((k : Int) + (S : Int)) = (k : Int) + (S : Int) := IntWalk.i64_in _ (by omega)
        clear hS e
        by_cases hSb : S < 1024
        · have s1 : decide ((S : Int) < 1024) = true := decide_eq_true (by omega)
          by_cases hmod : k % (2 * S) = 0
          · have s2 : ((k : Int) % (2 * (S : Int)) == 0) = true := by rw [beq_iff_eq, emod_two, hmod]; rfl
            have s2t : ((k : Int).tmod (2 * (S : Int)) == 0) = true := by rw [Int.tmod_eq_emod_of_nonneg (by omega)]; exact s2
            by_cases hin : k + S < L.length
            · have s3 : decide ((k : Int) + (S : Int) < (L.length : Int)) = true := decide_eq_true (by omega)
              obtain ⟨k0, k1, k2⟩ := HTk.out.cells hin
              have hne : pg L (k + S) ≠ fh o := by
                have hup := pow_up o
                have h10 : o < 10 := by
                  apply Classical.byContradiction
                  intro h
                  have : o = 10 := by omega
                  rw [this] at HSS
                  have := HSS.out
                  omega
                have := HP5.out.std.nb k o h10 (by rw [hup, HSS.out]; exact hmod) (by rw [HSS.out]; exact hin) HE.out
                rwa [HSS.out] at this
              have heq := fun w => eq_free (x := pg L (k + S)) (o := (o : Int)) (decide_eq_false hne) w
              have hgd := guardP
              generalize pg L (k + S) = x at k0 k1 k2 heq
              clear hne hmod
              go_wp2_with fail
              refine (cBringLit o 11 _ rfl o HBR.out _ (by decide) (by decide)).mono ?_
              rintro e w6 ⟨rfl, rfl⟩
              go_wp2
              go_quiet (fail)
              go_wp2
              go_roundw
              case rel => exact ⟨k + 1, by omega, by go_num, by rw [HH.out], Lib.hid (below_drewN HB.out _)⟩
              case measure => simp [intOf]; omega
            · have s3 : decide ((k : Int) + (S : Int) < (L.length : Int)) = false := decide_eq_false (by omega)
              clear hmod
              go_wp2_with fail
              refine (cBringLit o 11 _ rfl o HBR.out _ (by decide) (by decide)).mono ?_
              rintro e w6 ⟨rfl, rfl⟩
              go_wp2
              go_quiet (fail)
              go_wp2
              go_roundw
              case rel => exact ⟨k + 1, by omega, by go_num, by rw [HH.out], Lib.hid (below_drewN HB.out _)⟩
              case measure => simp [intOf]; omega
          · have s2 : ((k : Int) % (2 * (S : Int)) == 0) = false := by rw [beq_eq_false_iff_ne, emod_two]; omega
            have s2t : ((k : Int).tmod (2 * (S : Int)) == 0) = false := by rw [Int.tmod_eq_emod_of_nonneg (by omega)]; exact s2
            clear hmod
            go_wp2_with fail
            refine (cBringLit o 11 _ rfl o HBR.out _ (by decide) (by decide)).mono ?_
            rintro e w6 ⟨rfl, rfl⟩
            go_wp2
            go_quiet (fail)
            go_wp2
            go_roundw
            case rel => exact ⟨k + 1, by omega, by go_num, by rw [HH.out], Lib.hid (below_drewN HB.out _)⟩
            case measure => simp [intOf]; omega
        · have s1 : decide ((S : Int) < 1024) = false := decide_eq_false (by omega)
          go_wp2_with fail
          refine (cBringLit o 11 _ rfl o HBR.out _ (by decide) (by decide)).mono ?_
          rintro e w6 ⟨rfl, rfl⟩
          go_wp2
          go_quiet (fail)
          go_wp2
          go_roundw
          case rel => exact ⟨k + 1, by omega, by go_num, by rw [HH.out], Lib.hid (below_drewN HB.out _)⟩
          case measure => simp [intOf]; omega
      · have HH : Hid (heads L (k + 1) = heads L k + 1) := Lib.hid (by rw [heads_more, one_yes e1])
        rw [e1] at c0
        rw [e2] at c1
        have HBR := Lib.hid (bring_small o ho)
        obtain ⟨S, hS⟩ : ∃ S, 2 ^ o = S := ⟨_, rfl⟩
        have hS1 : 1 ≤ S ∧ S ≤ 1024 := by rw [← hS]; exact pow_le o ho
        have hSi : (2 : Int) ^ o = (S : Int) := pow_int o S hS
        have HC := Lib.hid c0
        clear e1 e2 hS
        go_wp2_with fail
        refine (cBringLit o 11 _ rfl o HBR.out _ (by decide) (by decide)).mono ?_
        rintro e w6 ⟨rfl, rfl⟩
        go_wp2
        go_quiet (fail)
        go_wp2
        go_roundw
        case rel => exact ⟨k + 1, by omega, by go_num, by rw [HH.out]; go_num, Lib.hid (below_drewN HB.out _)⟩
        case measure => simp [intOf]; omega
      · rw [e] at c0 c1 c2
        simp only [pin] at c0 c1 c2
        have HH : Hid (heads L (k + 1) = heads L k) := Lib.hid (by rw [heads_more, one_no (by rw [e]; simp [pin]), Nat.add_zero])
        clear e
        go_wp2_with fail
        refine (cBringLit 0 11 _ rfl 0 (bring_small 0 (by decide)) _ (by decide) (by decide)).mono ?_
        rintro e w6 ⟨rfl, rfl⟩
        go_wp2
        go_quiet (fail)
        go_wp2
        go_roundw
        case rel => exact ⟨k + 1, by omega, by go_num, by rw [HH.out], Lib.hid (below_drewN HB.out _)⟩
        case measure => simp [intOf]; omega
    · obtain rfl : k = L.length := by omega
      have HPk := Lib.hid (HP5.out.below HB.out)
      have HTk := Lib.hid (HT5.out.below HB.out)
      have hmany := HP5.out.many
      rw [hmany]
      have HLOW := Lib.hid HPk.out.low
      clear hh hmany
      go_wp2
      go_loop [11] (fun x => ∃ i : Nat, i ≤ N ∧ x = .int .i64 i) (fun x => N - (intOf x).toNat)
      case atStart => exact ⟨0, by omega, by first | rfl | go_num⟩
      case round =>
        obtain ⟨i, hi, rfl⟩ := hrel
        by_cases hiN : i < N
        · obtain ⟨hb, cap, e, hcp2, hcells, hfro, hbg⟩ := HPk.out.form (by omega)
          cases e
          have hci := hcells i hiN
          obtain ⟨h1, h2⟩ := HPk.out.outs i hiN
          obtain ⟨q, hq⟩ : ∃ q, f i = q := ⟨_, rfl⟩
          rw [hq] at hci h1 h2
          obtain ⟨t0, _, _⟩ := HTk.out.cells h1
          rw [h2] at t0
          clear hq h2 hcells hfro
          go_wp2
          go_round
          case rel => exact ⟨i + 1, by omega, by go_num⟩
          case measure => simp [intOf]; omega
        · obtain rfl : i = N := by omega
          go_wp2_with fail
          refine (works _).mono ?_
          rintro e w7 ⟨rfl, hb7⟩
          have HB7 := Lib.hid (below_then HLOW.out hb7)
          clear hb7
          go_wp2
          go_ret
          exact ⟨rfl, HB7.out⟩
end Go.Proofs.Ytpohfecbogppkaa
