/-
  GraceEnds at the one input at which GraceKnown asks it: three processors, two hundred calls on the first one.
-/
import Derived.Test.YtnnpclknlccmiaaWaitsL
set_option linter.unusedVariables false
set_option linter.unusedSimpArgs false
namespace Go.Proofs.Ytnnpclknlccmiaa
open Go Go.RowKit

/-- so many calls have been made, all on processor 0 -/
structure CS (k : Nat) (g : Gr) : Prop where
  dp : ∀ p, p < 3 → g.dp p = 0
  nd : g.nd = 0
  len : (g.rs 0).length = k
  r1 : g.rs 1 = []
  r2 : g.rs 2 = []
  none : k = 0 → ∀ p, p < 3 → g.aw p = false
  all : 0 < k → ∀ p, p < 3 → g.aw p = true
  top : Top g 3 2
theorem CS.new : CS 0 noG := ⟨fun _ _ => rfl, rfl, rfl, rfl, rfl, fun _ _ _ => rfl, fun h => absurd h (Nat.lt_irrefl _), fun _ _ y hy => by simp [noG] at hy⟩
theorem CS.step {k : Nat} {g : Gr} (h : CS k g) (hk : k < 200) : ∃ g', CallIs 3 g (0 : Nat) (k : Int) 0 g' ∧ CS (k + 1) g' := by
  have hl : (g.rs 0).length ≠ 256 := by rw [h.len]; omega
  have hid : 0 ≤ (k : Int) ∧ (k : Int) ≤ 9007199254740991 := by omega
  cases ha : anyB g.aw 3 with
  | false =>
    refine ⟨_, .first 0 k (by omega) hid hl ha, h.dp, h.nd, ?_, ?_, ?_, fun e => by omega, fun _ p hp => allT_yes hp, top_row h.top (fun y hy => ?_)⟩
    · show (upd g.rs 0 (g.rs 0 ++ [⟨(k : Int), (g.nd : Int) + 1⟩]) 0).length = k + 1
      rw [upd_same, List.length_append, h.len]; rfl
    · show upd g.rs 0 (g.rs 0 ++ [⟨(k : Int), (g.nd : Int) + 1⟩]) 1 = []
      rw [upd_other _ _ (by omega)]; exact h.r1
    · show upd g.rs 0 (g.rs 0 ++ [⟨(k : Int), (g.nd : Int) + 1⟩]) 2 = []
      rw [upd_other _ _ (by omega)]; exact h.r2
    · rcases List.mem_append.1 hy with hy | hy
      · exact h.top 0 (by omega) y hy
      · obtain rfl : y = _ := List.mem_singleton.1 hy
        show (g.nd : Int) + 1 ≤ 2
        rw [h.nd]; decide
  | true =>
    have hk0 : 0 < k := by
      rcases Nat.eq_zero_or_pos k with e | e
      · have := anyB_no.2 (h.none e)
        rw [ha] at this; cases this
      · exact e
    refine ⟨_, .later 0 k (by omega) hid hl ha, h.dp, h.nd, ?_, ?_, ?_, fun e => by omega, fun _ p hp => h.all hk0 p hp, top_row h.top (fun y hy => ?_)⟩
    · show (upd g.rs 0 (g.rs 0 ++ [⟨(k : Int), (g.nd : Int) + 2⟩]) 0).length = k + 1
      rw [upd_same, List.length_append, h.len]; rfl
    · show upd g.rs 0 (g.rs 0 ++ [⟨(k : Int), (g.nd : Int) + 2⟩]) 1 = []
      rw [upd_other _ _ (by omega)]; exact h.r1
    · show upd g.rs 0 (g.rs 0 ++ [⟨(k : Int), (g.nd : Int) + 2⟩]) 2 = []
      rw [upd_other _ _ (by omega)]; exact h.r2
    · rcases List.mem_append.1 hy with hy | hy
      · exact h.top 0 (by omega) y hy
      · obtain rfl : y = _ := List.mem_singleton.1 hy
        show (g.nd : Int) + 2 ≤ 2
        rw [h.nd]; decide
/-- so many reports have been made -/
structure QS (j : Nat) (g : Gr) : Prop where
  dp : ∀ p, p < 3 → g.dp p = 0
  r1 : g.rs 1 = []
  r2 : g.rs 2 = []
  len : (g.rs 0).length = 200
  top : Top g 3 2
  way : (∀ p, p < 3 → g.aw p = false) ∨ (j < 3 ∧ g.nd = 0 ∧ ∀ p, p < 3 → g.aw p = decide (j ≤ p)) ∨ (3 ≤ j ∧ j < 6 ∧ g.nd = 1 ∧ ∀ p, p < 3 → g.aw p = decide (j - 3 ≤ p))
theorem QS.start {g : Gr} (h : CS 200 g) : QS 0 g := ⟨h.dp, h.r1, h.r2, h.len, h.top, .inr (.inl ⟨by omega, h.nd, fun p hp => by rw [h.all (by omega) p hp]; exact (decide_eq_true (Nat.zero_le p)).symm⟩)⟩
theorem QS.step {j c : Nat} {g : Gr} (h : QS j g) (hj : j < 6) (hc : c = j % 3) : ∃ g', QuietIs 3 g c 0 g' ∧ QS (j + 1) g' := by
  have hc3 : c < 3 := by omega
  have hd := h.dp c hc3
  rcases h.way with hw | ⟨h1, h2, hw⟩ | ⟨h1, h1b, h2, hw⟩
  · exact ⟨g, .idle c hc3 hd (hw c hc3), h.dp, h.r1, h.r2, h.len, h.top, .inl hw⟩
  · have hcj : c = j := by omega
    have ha : g.aw c = true := by rw [hw c hc3]; exact decide_eq_true (by omega)
    have hu : ∀ p, p < 3 → upd g.aw c false p = decide (j + 1 ≤ p) := by
      intro p hp
      by_cases e : p = c
      · subst e; rw [upd_same]; exact (decide_eq_false (by omega)).symm
      · rw [upd_other _ _ e, hw p hp]
        by_cases e2 : j ≤ p
        · rw [decide_eq_true e2, decide_eq_true (by omega)]
        · rw [decide_eq_false e2, decide_eq_false (by omega)]
    by_cases hj2 : j < 2
    · have hm : anyB (upd g.aw c false) 3 = true := anyB_iff.2 ⟨2, by omega, by rw [hu 2 (by omega)]; exact decide_eq_true (by omega)⟩
      exact ⟨_, .more c hc3 hd ha hm, h.dp, h.r1, h.r2, h.len, h.top, .inr (.inl ⟨by omega, h2, hu⟩)⟩
    · have hm : anyB (upd g.aw c false) 3 = false := anyB_no.2 (fun p hp => by rw [hu p hp]; exact decide_eq_false (by omega))
      cases hl : g.lat 3 (g.nd + 1) with
      | false => exact ⟨_, .last c hc3 hd ha hm hl, h.dp, h.r1, h.r2, h.len, h.top, .inl (anyB_no.1 hm)⟩
      | true => exact ⟨_, .next c hc3 hd ha hm hl, h.dp, h.r1, h.r2, h.len, h.top, .inr (.inr ⟨by omega, by omega, by show g.nd + 1 = 1; rw [h2], fun p hp => by show allT 3 p = _; rw [allT_yes hp]; exact (decide_eq_true (by omega)).symm⟩)⟩
  · have hcj : c = j - 3 := by omega
    have ha : g.aw c = true := by rw [hw c hc3]; exact decide_eq_true (by omega)
    have hu : ∀ p, p < 3 → upd g.aw c false p = decide (j + 1 - 3 ≤ p) := by
      intro p hp
      by_cases e : p = c
      · subst e; rw [upd_same]; exact (decide_eq_false (by omega)).symm
      · rw [upd_other _ _ e, hw p hp]
        by_cases e2 : j - 3 ≤ p
        · rw [decide_eq_true e2, decide_eq_true (by omega)]
        · rw [decide_eq_false e2, decide_eq_false (by omega)]
    by_cases hj2 : j < 5
    · have hm : anyB (upd g.aw c false) 3 = true := anyB_iff.2 ⟨2, by omega, by rw [hu 2 (by omega)]; exact decide_eq_true (by omega)⟩
      exact ⟨_, .more c hc3 hd ha hm, h.dp, h.r1, h.r2, h.len, h.top, .inr (.inr ⟨by omega, by omega, h2, hu⟩)⟩
    · have hm : anyB (upd g.aw c false) 3 = false := anyB_no.2 (fun p hp => by rw [hu p hp]; exact decide_eq_false (by omega))
      have hl : g.lat 3 (g.nd + 1) = false := lat_no.2 (by rw [h2]; exact h.top)
      exact ⟨_, .last c hc3 hd ha hm hl, h.dp, h.r1, h.r2, h.len, h.top, .inl (anyB_no.1 hm)⟩
/-- so many processors have been polled -/
structure PS (c : Nat) (g : Gr) : Prop where
  top : Top g 3 g.nd
  no : ∀ p, p < c → g.rs p = []
/-- how many records there are -/
def total (g : Gr) : Nat := (g.rs 0).length + (g.rs 1).length + (g.rs 2).length
theorem PS.step {c : Nat} {g : Gr} (h : PS c g) (hc : c < 3) : ∃ l g', PollIs 3 g c l 0 g' ∧ PS (c + 1) g' ∧ (total g' : Int) = (total g : Int) - l.length ∧ waiF 3 g' c = 0 := by
  have hcut : cutN (g.nd : Int) (g.rs c) = (g.rs c).length := by
    have h1 := cutN_le (g.nd : Int) (g.rs c)
    have h2 := cut_all.2 (h.top c hc)
    omega
  refine ⟨_, _, .ok c hc, ⟨top_row h.top (fun y hy => h.top c hc y (List.mem_of_mem_drop hy)), fun p hp => ?_⟩, ?_, ?_⟩
  · show upd g.rs c _ p = []
    by_cases e : p = c
    · subst e; rw [upd_same, hcut, List.drop_length]
    · rw [upd_other _ _ e]; exact h.no p (by omega)
  · rw [ids_length, hcut, List.drop_length, List.take_length]
    show ((upd g.rs c [] 0).length + (upd g.rs c [] 1).length + (upd g.rs c [] 2).length : Nat) = ((g.rs 0).length + (g.rs 1).length + (g.rs 2).length : Nat) - ((g.rs c).length : Int)
    have : c = 0 ∨ c = 1 ∨ c = 2 := by omega
    rcases this with rfl | rfl | rfl <;> simp [upd] <;> omega
  · rw [wai_yes _ hc]
    show ((upd g.rs c _ c).length : Int) = 0
    rw [upd_same, hcut, List.drop_length]; rfl
section
variable {W w w' : World} {B p n b : Nat} {g g' : Gr} {cpu er : Int} {l : List Int}
theorem wPoll (h : G0 W w B p n g) (hI : GI n b g) (hr : PollIs n g cpu l er g') :
    Calls Try.prog 13 #[.pointer (some ⟨B, 0, none⟩), .int .i64 cpu] w fun e w' => ∃ ao k cap, k = l.length ∧ e = .returned (.tuple #[.slice ao k cap, .int .i64 er]) ∧ G0 W w' B p n g' := by
  obtain ⟨vs, ha⟩ := h.pa
  exact (cPoll ha hI hr).mono fun e w' ⟨vs', ao, k, cap, h0, h1, h2, h3, h4⟩ => ⟨ao, k, cap, h0, h1, h.go h2 h3⟩
end
set_option maxHeartbeats 16000000 in
set_option maxRecDepth 100000 in
theorem walkEnds (u : Value) (l : List Pg) (W : World) (hs : ShowP W u l) (hlen : 200 < l.length) (hl : ∀ i, i < 200 → pg l i = ⟨3, 0, i⟩) : Calls Try.prog 21 #[.int .i64 2, u, .int .i64 0] W fun e W' => e = .returned (.bool true) ∧ Below W.heap.size W W' := by
  obtain ⟨ao, cap, rfl, hcap, hat⟩ := hs.form
  have HL := Lib.hid hl
  clear hs hl
  go_enter Try.func21, Try.ntmps21
  go_wp2_with fail
  refine (cBringN 2 8 8 rfl (by decide) _).mono ?_
  rintro e w0 ⟨rfl, rfl⟩
  rw [show ((bring 2 8 : Nat) : Int) = 2 from by decide]
  go_wp2_with fail
  refine (cNew 3 w0 (by decide)).mono ?_
  rintro e w1 ⟨B, p, rfl, ha, hb, h1, h2⟩
  have H1 : Hid (G0 w0 w1 B p 3 noG) := Lib.hid ⟨⟨_, ha⟩, hb, by rintro k (rfl | rfl) <;> assumption⟩
  clear ha hb h1 h2
  go_wp2
  go_loopw [9, 10, 11] (fun x y z wr => ∃ k : Nat, k ≤ 200 ∧ x = .int .i64 k ∧ y = .int .i64 k ∧ Hid (∃ g, G0 w0 wr B p 3 g ∧ GI 3 0 g ∧ CS k g)) (fun _ y _ _ => 200 - (intOf y).toNat)
  case atStart => exact ⟨0, by omega, rfl, rfl, Lib.hid ⟨_, H1.out, GI.new (by decide), CS.new⟩⟩
  case round =>
    clear H1
    obtain ⟨k, hk, rfl, rfl, HS⟩ := hrel
    by_cases hlt : k < 200
    · have hkl : k < l.length := by omega
      obtain ⟨g, hg0, hgi, hcs⟩ := HS.out
      obtain ⟨g', hr, hcs'⟩ := hcs.step hlt
      have HG := Lib.hid (And.intro hg0 (And.intro hgi (And.intro hr hcs')))
      obtain ⟨b1, o1, rfl, c0, c1, c2⟩ := hat k hkl
      rw [HL.out k hlt] at c0 c1
      have d0 := cell_keep hg0.low c0
      have d1 := cell_keep hg0.low c1
      dsimp only at d0 d1
      clear c0 c1 c2 hg0 hgi hcs hr hcs' HS
      go_wp2_with fail
      refine (cBringN 0 3 3 rfl (by decide) _).mono ?_
      rintro e w3 ⟨rfl, rfl⟩
      rw [show ((bring 0 3 : Nat) : Int) = 0 from by decide]
      go_wp2_with fail
      refine (cBringN 3 4 4 rfl (by decide) _).mono ?_
      rintro e w3 ⟨rfl, rfl⟩
      rw [show ((bring 3 4 : Nat) : Int) = 3 from by decide]
      go_wp2_with fail
      refine (wCall HG.out.1 HG.out.2.1 (by decide) HG.out.2.2.1).mono ?_
      rintro e w4 ⟨rfl, hg4⟩
      have H4 := Lib.hid hg4
      clear hg4 d0 d1
      go_wp2
      go_roundw
      case rel => exact ⟨k + 1, by omega, by go_num, by go_num, Lib.hid ⟨_, H4.out, HG.out.2.2.1.gi HG.out.2.1 (by decide), HG.out.2.2.2⟩⟩
      case measure => simp [intOf]; omega
    · obtain rfl : k = 200 := by omega
      rw [show ((200 : Nat) : Int) = 200 from rfl]
      obtain ⟨g, hg0, hgi, hcs⟩ := HS.out
      have HG := Lib.hid (And.intro hg0 (And.intro hgi hcs))
      clear hg0 hgi hcs HS
      clear HL hat
      go_wp2
      go_loopw [12] (fun x wr' => ∃ c : Nat, c ≤ 3 ∧ x = .int .i64 c ∧ wr' = wr) (fun x _ => 3 - (intOf x).toNat)
      case atStart => exact ⟨0, by omega, rfl, rfl⟩
      case round =>
        obtain ⟨c, hc, rfl, rfl⟩ := hrel
        by_cases hc3 : c < 3
        · obtain ⟨va, hva⟩ := HG.out.1.pa
          have HV := Lib.hid hva
          have HD : Hid (depF 3 g c = 0) := Lib.hid (by rw [dep_yes _ hc3, HG.out.2.2.dp c hc3]; rfl)
          clear hva
          go_wp2
          go_loopw [79] (fun x wz => wz = wr) (fun _ _ => 0)
          case atStart => exact rfl
          case round =>
            obtain rfl := hrel
            go_wp2_with fail
            refine (cDepth HV.out (by decide) 0 HD.out).mono ?_
            rintro e w4 ⟨rfl, rfl⟩
            go_wp2
            go_roundw
            case rel => exact ⟨c + 1, by omega, by go_num, by first | trivial | rfl⟩
            case measure => simp [intOf]; omega
        · obtain rfl : c = 3 := by omega
          rw [show ((3 : Nat) : Int) = 3 from rfl]
          have H2 := Lib.hid (And.intro HG.out.1 (And.intro HG.out.2.1 (QS.start HG.out.2.2)))
          clear HG
          go_wp2
          go_loopw [13] (fun x wx => ∃ j : Nat, j ≤ 6 ∧ x = .int .i64 j ∧ Hid (∃ g, G0 w0 wx B p 3 g ∧ GI 3 j g ∧ QS j g)) (fun x _ => 6 - (intOf x).toNat)
          case atStart => exact ⟨0, by omega, rfl, Lib.hid ⟨_, H2.out.1, H2.out.2.1, H2.out.2.2⟩⟩
          case round =>
            clear H2
            obtain ⟨j, hj, rfl, HS⟩ := hrel
            by_cases hj6 : j < 6
            · obtain ⟨g1, hg0, hgi, hqs⟩ := HS.out
              obtain ⟨c, hcj⟩ : ∃ c, c = j % 3 := ⟨_, rfl⟩
              have hcm : ((j : Int)).tmod 3 = (c : Int) := by rw [Int.tmod_eq_emod_of_nonneg (by omega)]; omega
              have hcm2 : (j : Int) % 3 = (c : Int) := by omega
              obtain ⟨g2, hr, hqs2⟩ := hqs.step hj6 hcj
              have H3 := Lib.hid (And.intro hg0 (And.intro hgi (And.intro hr hqs2)))
              clear hg0 hgi hqs hr hqs2 HS hcj
              go_wp2_with fail
              refine (cBringN 0 3 3 rfl (by decide) _).mono ?_
              rintro e w3 ⟨rfl, rfl⟩
              rw [show ((bring 0 3 : Nat) : Int) = 0 from by decide]
              go_wp2_with fail
              refine (wQuiet H3.out.1 H3.out.2.1 (by omega) H3.out.2.2.1).mono ?_
              rintro e w4 ⟨rfl, hg4⟩
              have H4 := Lib.hid hg4
              clear hg4 hcm hcm2
              go_wp2
              go_roundw
              case rel => exact ⟨j + 1, by omega, by go_num, Lib.hid ⟨_, H4.out, H3.out.2.2.1.gi H3.out.2.1, H3.out.2.2.2⟩⟩
              case measure => simp [intOf]; omega
            · obtain rfl : j = 6 := by omega
              rw [show ((6 : Nat) : Int) = 6 from rfl]
              obtain ⟨g1, hg0, hgi, hqs⟩ := HS.out
              have hno : anyB g1.aw 3 = false := by
                rcases hqs.way with h | ⟨h, _⟩ | ⟨_, h, _⟩
                · exact anyB_no.2 h
                · omega
                · omega
              have H3 := Lib.hid (And.intro hg0 (And.intro hgi hno))
              have HP : Hid (PS 0 g1 ∧ total g1 = 200) := Lib.hid ⟨⟨hgi.idle hno, fun p hp => absurd hp (Nat.not_lt_zero p)⟩, by unfold total; rw [hqs.r1, hqs.r2, hqs.len]; rfl⟩
              obtain ⟨va, hva⟩ := hg0.pa
              have HV := Lib.hid hva
              clear hg0 hgi hqs hno HS hva
              go_wp2_with fail
              refine (cDone HV.out (by decide) H3.out.2.1.off false H3.out.2.2).mono ?_
              rintro e w4 ⟨rfl, hb4⟩
              have H4 := Lib.hid (H3.out.1.below hb4)
              clear hb4
              generalize (g1.nd : Int) = D
              go_wp2
              go_loopw [16, 9] (fun x y wx => ∃ c : Nat, c ≤ 3 ∧ x = .int .i64 c ∧ ∃ T : Nat, T ≤ 200 ∧ y = .int .i64 T ∧ Hid (∃ g, G0 w0 wx B p 3 g ∧ GI 3 6 g ∧ PS c g ∧ total g = T)) (fun x _ _ => 3 - (intOf x).toNat)
              case atStart => exact ⟨0, by omega, rfl, 200, by omega, rfl, Lib.hid ⟨_, H4.out, H3.out.2.1, HP.out.1, HP.out.2⟩⟩
              case round =>
                clear H3 H4 HP
                obtain ⟨c, hc, rfl, T, hT, rfl, HS⟩ := hrel
                by_cases hc3 : c < 3
                · obtain ⟨g5, hg0, hgi, hps, htt⟩ := HS.out
                  obtain ⟨ll, g6, hr, hps6, htt6, hw6⟩ := hps.step hc3
                  have H5 := Lib.hid (And.intro hg0 (And.intro hgi (And.intro hr (And.intro hps6 (And.intro htt6 (And.intro hw6 htt))))))
                  clear hg0 hgi hps htt hr hps6 htt6 hw6 HS
                  go_wp2_with fail
                  refine (wPoll H5.out.1 H5.out.2.1 H5.out.2.2.1).mono ?_
                  rintro e w6 ⟨a6, m6, cp6, hm6, rfl, hg6⟩
                  have H6 := Lib.hid hg6
                  have HM : Hid ((total g6 : Int) = (T : Int) - m6) := Lib.hid (by rw [H5.out.2.2.2.2.1, H5.out.2.2.2.2.2.2, hm6])
                  obtain ⟨va6, hva6⟩ := hg6.pa
                  have HV6 := Lib.hid hva6
                  have hmT : m6 ≤ T := by have := HM.out; omega
                  clear hg6 hm6 hva6
                  go_wp2_with fail
                  refine (cWaits HV6.out (by decide) 0 H5.out.2.2.2.2.2.1).mono ?_
                  rintro e w7 ⟨rfl, rfl⟩
                  go_wp2
                  go_roundw
                  case rel => exact ⟨c + 1, by omega, by go_num, T - m6, by omega, by rw [Int.natCast_sub hmT], Lib.hid ⟨_, H6.out, H5.out.2.2.1.gi H5.out.2.1, H5.out.2.2.2.1, by have := HM.out; omega⟩⟩
                  case measure => simp [intOf]; omega
                · obtain rfl : c = 3 := by omega
                  obtain ⟨g5, hg0, hgi, hps, htt⟩ := HS.out
                  have hT0 : T = 0 := by
                    rw [← htt]
                    unfold total
                    rw [hps.no 0 (by omega), hps.no 1 (by omega), hps.no 2 (by omega)]
                    rfl
                  subst hT0
                  rw [show ((0 : Nat) : Int) = 0 from rfl]
                  have HL9 := Lib.hid hg0.low
                  clear hg0 hgi hps htt HS
                  go_wp2_with fail
                  refine (works _).mono ?_
                  rintro e w9 ⟨rfl, hb9⟩
                  have H9 := Lib.hid (below_then HL9.out hb9)
                  clear hb9
                  go_wp2
                  go_ret
                  exact ⟨rfl, H9.out⟩
end Go.Proofs.Ytnnpclknlccmiaa
