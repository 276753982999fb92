/-
  The walk of TapeApart: two scripts that may be have the same bytes only if they are the same; a byte more is a pick more.
-/
import Derived.Test.YtifkkblmcdggmaaBack
set_option linter.unusedVariables false
set_option linter.unusedSimpArgs false
namespace Go.Proofs.Ytifkkblmcdggmaa
open Go Go.RowKit

theorem append_ints {ops : Array Oper} {rest : List Oper} {o : Oper} {a : Act} {Q : Exit → Act → World → Prop} {w : World} {B : Nat} (hgd : o.guard = none) (s x : Operand)
    (ho : o.op = .call { callee := .builtin .append, args := #[s, x], argTypes := #[23, 23] })
    (v : Value) (l : List Int) (hown : OwnInts B w v l) (hs : a.eval s = v) (news : List Int) (hx : a.eval x = .slice (some ⟨w.heap.size, 0, none⟩) news.length news.length)
    (hl : l.length ≤ 10000) (hn : news.length ≤ 10) (hB : B ≤ w.heap.size)
    (h : ∀ v' w', OwnInts B w' v' (l ++ news) → Grew w w' v v' → wpList Try.prog ops Q rest (a.put o.dst v') w') :
    wpList Try.prog ops Q (o :: rest) a (w.alloc (.cells (ints news).toArray 3)) := by
  obtain ⟨i0, hi, hz0, hz1, hz2⟩ := info_parts infoI
  refine append_new hgd s x 23 ho Try.underlying23 hi hz0 hz1 hz2 rfl (by decide) v l.length (ints l) hs hown (ints news).toArray news.length hx (by simp) ?_ (by unfold maxLen; omega) (by omega) hB ?_
  · intro u hu
    simp at hu
    obtain ⟨y, _, rfl⟩ := hu
    rfl
  · intro v' w' hown' hg
    refine h v' w' ?_ hg
    unfold OwnInts
    simpa using hown'
theorem wEqBytes {a b : List Int} {q : Bool} (hd : decide (a = b) = q) {u v : Value} (w : World) (hu : ShowBytes w u a) (hv : ShowBytes w v b) (ha : Bytey a) (hb : Bytey b) :
    Calls Try.prog 14 #[u, v] w fun e w' => e = .returned (.bool q) ∧ w' = w := by
  have := cEqBytes u v a b w hu hv ha hb
  rwa [hd] at this
/-- Bytes, whether a script may be or not -/
theorem aBytesOk {v : Value} {S : Scr} (hok : okS S = true) (w : World) (hv : ShowScr w v S) :
    Calls Try.prog 10 #[v] w fun e w' => ∃ ab nb cb, e = .returned (.tuple #[.slice ab nb cb, .int .i64 0]) ∧ OwnBytes w.heap.size w' (.slice ab nb cb) (enc S) ∧ Below w.heap.size w w' := by
  refine (cBytes v S w hv hok).mono ?_
  rintro e w' ⟨vb, rfl, h1, h2⟩
  obtain ⟨ab, cb, rfl⟩ := own_form h1
  exact ⟨ab, _, cb, rfl, h1, h2⟩
theorem key8 {W0 w : World} {K K' : Nat} {a b c d a' b' c' d' : Value} (h : W0.cell? ⟨K, 0, none⟩ = some a ∧ W0.cell? ⟨K, 1, none⟩ = some b ∧ W0.cell? ⟨K, 2, none⟩ = some c ∧ W0.cell? ⟨K, 3, none⟩ = some d)
    (h' : W0.cell? ⟨K', 0, none⟩ = some a' ∧ W0.cell? ⟨K', 1, none⟩ = some b' ∧ W0.cell? ⟨K', 2, none⟩ = some c' ∧ W0.cell? ⟨K', 3, none⟩ = some d') (hb : Below W0.heap.size W0 w) :
    (w.cell? ⟨K, 0, none⟩ = some a ∧ w.cell? ⟨K, 1, none⟩ = some b ∧ w.cell? ⟨K, 2, none⟩ = some c ∧ w.cell? ⟨K, 3, none⟩ = some d) ∧ (w.cell? ⟨K', 0, none⟩ = some a' ∧ w.cell? ⟨K', 1, none⟩ = some b' ∧ w.cell? ⟨K', 2, none⟩ = some c' ∧ w.cell? ⟨K', 3, none⟩ = some d') ∧ Below W0.heap.size W0 w :=
  ⟨⟨cell_keep hb h.1, cell_keep hb h.2.1, cell_keep hb h.2.2.1, cell_keep hb h.2.2.2⟩, ⟨cell_keep hb h'.1, cell_keep hb h'.2.1, cell_keep hb h'.2.2.1, cell_keep hb h'.2.2.2⟩, hb⟩

/-- one of both may not be: works alone -/
theorem scr_form {w : World} {v : Value} {S : Scr} (h : ShowScr w v S) : ∃ a1 n1 c1 a2 c2, v = .agg #[.int .i64 S.cpus, .int .i64 S.pages, .slice a1 n1 c1, .slice a2 S.picks.length c2] ∧ ShowInts w (.slice a2 S.picks.length c2) S.picks := by
  obtain ⟨vc, vp, rfl, h1, h2⟩ := h
  obtain ⟨a1, c1, rfl⟩ := lists_form h1
  obtain ⟨a2, c2, rfl⟩ := ints_form h2
  exact ⟨a1, _, c1, a2, c2, rfl, h2⟩

set_option maxHeartbeats 2000000 in
set_option maxRecDepth 100000 in
theorem walkApart (u v : Value) (S T : Scr) (x : Int) (w : World) (hu : ShowScr w u S) (hv : ShowScr w v T) (hx0 : 0 ≤ x) (hx1 : x ≤ 255) :
    Calls Try.prog 7 #[u, v, .int .u8 x] w fun e w' => e = .returned (.bool true) ∧ Below w.heap.size w w' := by
  have hu0 := hu
  have hv0 := hv
  obtain ⟨a1, n1, c1, a2, c2, rfl, hpk⟩ := scr_form hu
  obtain ⟨b1, m1, e1, b2, e2, rfl, _⟩ := scr_form hv
  have hbx : ∀ o o', Below w.heap.size w ((w.alloc o).alloc o') := fun o o' => below_one (below_one (Below.refl _ _) o) o'
  by_cases hS : okS S = true
  rotate_left
  · have hno : okS S = false := by simpa using hS
    go_enter Try.func7, Try.ntmps7
    go_wp2_with fail
    refine (cBytesNo _ S _ (hu0.below (hbx _ _)) hno).mono ?_
    rintro e w1 ⟨rfl, hb1⟩
    have hbw := below_then (hbx _ _) hb1
    have hs2 := (hb1.block (w.heap.size + 1) (by rw [size_alloc, size_alloc]; omega)).trans (heap_new2 _ _ _)
    obtain ⟨q0, q1, q2, q3⟩ := self4 hs2
    by_cases hT : okS T = true
    · go_wp2_with fail
      refine (aBytesOk hT _ (hv0.below hbw)).mono ?_
      rintro e w2 ⟨ab, nb, cb, rfl, _, hb2⟩
      have hbw2 := below_then hbw hb2
      go_wp2_with fail
      refine (works _).mono ?_
      rintro e w3 ⟨rfl, hb3⟩
      have hbw3 := below_then hbw2 hb3
      go_wp2
      go_ret
      exact ⟨rfl, hbw3⟩
    · go_wp2_with fail
      refine (cBytesNo _ T _ (hv0.below hbw) (by simpa using hT)).mono ?_
      rintro e w2 ⟨rfl, hb2⟩
      have hbw2 := below_then hbw hb2
      go_wp2_with fail
      refine (works _).mono ?_
      rintro e w3 ⟨rfl, hb3⟩
      have hbw3 := below_then hbw2 hb3
      go_wp2
      go_ret
      exact ⟨rfl, hbw3⟩
  by_cases hT : okS T = true
  rotate_left
  · go_enter Try.func7, Try.ntmps7
    go_wp2_with fail
    refine (aBytesOk hS _ (hu0.below (hbx _ _))).mono ?_
    rintro e w1 ⟨ab, nb, cb, rfl, _, hb1⟩
    have hbw := below_then (hbx _ _) hb1
    have hs2 := (hb1.block (w.heap.size + 1) (by rw [size_alloc, size_alloc]; omega)).trans (heap_new2 _ _ _)
    obtain ⟨q0, q1, q2, q3⟩ := self4 hs2
    go_wp2_with fail
    refine (cBytesNo _ T _ (hv0.below hbw) (by simpa using hT)).mono ?_
    rintro e w2 ⟨rfl, hb2⟩
    have hbw2 := below_then hbw hb2
    go_wp2_with fail
    refine (works _).mono ?_
    rintro e w3 ⟨rfl, hb3⟩
    have hbw3 := below_then hbw2 hb3
    go_wp2
    go_ret
    exact ⟨rfl, hbw3⟩
  obtain ⟨r, hr⟩ : ∃ r, decide (S = T) = r := ⟨_, rfl⟩
  have hr2 : decide (enc S = enc T) = r := by
    rw [← hr]
    by_cases h : S = T
    · rw [h]; simp
    · rw [decide_eq_false h, decide_eq_false (fun e => h (enc_inj hS hT e))]
  have HR := Lib.hid hr
  have HR2 := Lib.hid hr2
  have HYS := Lib.hid (enc_bytey hS)
  have HYT := Lib.hid (enc_bytey hT)
  have HUP := Lib.hid (enc_upper hS)
  have hpk4 : S.picks.length ≤ 4096 := (okS_iff.1 hS).2.2.2.1
  have HD : Hid (dec (enc S ++ [x]) = { S with picks := (S.picks ++ [x]).take 4096 }) := Lib.hid (dec_enc hS [x])
  have HYX : Hid (Bytey (enc S ++ [x])) := Lib.hid (fun y hy => by
    rcases List.mem_append.1 hy with h | h
    · exact enc_bytey hS y h
    · simp at h; omega)
  clear hr hr2
  go_enter Try.func7, Try.ntmps7
  go_wp2_with fail
  refine (aBytesOk hS _ (hu0.below (hbx _ _))).mono ?_
  rintro e w1 ⟨ab, nb, cb, rfl, hown1, hb1⟩
  have hbw := below_then (hbx _ _) hb1
  have hs1 := (hb1.block w.heap.size (by rw [size_alloc, size_alloc]; omega)).trans (heap_low2 _ _ _)
  have hs2 := (hb1.block (w.heap.size + 1) (by rw [size_alloc, size_alloc]; omega)).trans (heap_new2 _ _ _)
  have hz1 := hb1.size
  rw [size_alloc, size_alloc] at hz1
  obtain ⟨q0, q1, q2, q3⟩ := self4 hs2
  go_wp2_with fail
  refine (aBytesOk hT _ (hv0.below hbw)).mono ?_
  rintro e w2 ⟨at', nt, ct, rfl, hown2, hb2⟩
  have hbw2 := below_then hbw hb2
  have hz2 := hb2.size
  have hs1 := (hb2.block w.heap.size (by omega)).trans hs1
  have hs2 := (hb2.block (w.heap.size + 1) (by omega)).trans hs2
  have hk1 := self4 hs1
  have hk2 := self4 hs2
  have HA := Lib.hid (hown1.shows.below hb2)
  have HB := Lib.hid hown2.shows
  have HU := Lib.hid (hu0.below hbw2)
  have HV := Lib.hid (hv0.below hbw2)
  have HW := Lib.hid hbw2
  have HP := Lib.hid (hpk.below hbw2)
  clear hb1 hb2 hbw hbw2 hown1 hown2 q0 q1 q2 q3 hs1 hs2 hu0 hv0 hpk hu hv
  go_wp2
  go_region_held3 (fun w' => (w'.cell? ⟨w.heap.size, 0, none⟩ = some (.int .i64 S.cpus) ∧ w'.cell? ⟨w.heap.size, 1, none⟩ = some (.int .i64 S.pages) ∧ w'.cell? ⟨w.heap.size, 2, none⟩ = some (.slice a1 n1 c1) ∧ w'.cell? ⟨w.heap.size, 3, none⟩ = some (.slice a2 S.picks.length c2)) ∧ (w'.cell? ⟨w.heap.size + 1, 0, none⟩ = some (.int .i64 T.cpus) ∧ w'.cell? ⟨w.heap.size + 1, 1, none⟩ = some (.int .i64 T.pages) ∧ w'.cell? ⟨w.heap.size + 1, 2, none⟩ = some (.slice b1 m1 e1) ∧ w'.cell? ⟨w.heap.size + 1, 3, none⟩ = some (.slice b2 T.picks.length e2)) ∧ Below w2.heap.size w2 w')
    (first | exact key8 hk1 hk2 (by assumption) | exact key8 hk1 hk2 (Below.drew (Below.refl _ _)))
    (first
      | (go_at_call 14; refine (wEqBytes HR2.out _ (HA.out.below (show _ ∧ _ ∧ Below w2.heap.size w2 _ from by assumption).2.2) (HB.out.below (show _ ∧ _ ∧ Below w2.heap.size w2 _ from by assumption).2.2) HYS.out HYT.out).mono ?_; rintro e w5 ⟨rfl, rfl⟩)
      | (go_at_call 20; refine (wSameT HR.out _ (HU.out.below (show _ ∧ _ ∧ Below w2.heap.size w2 _ from by assumption).2.2) (HV.out.below (show _ ∧ _ ∧ Below w2.heap.size w2 _ from by assumption).2.2)).mono ?_; rintro e w8 ⟨rfl, h8⟩; have hb8 : Below w2.heap.size w2 w8 := below_then (show _ ∧ _ ∧ Below w2.heap.size w2 _ from by assumption).2.2 h8))
  all_goals
    have hrr : (r != r) = false := by cases r <;> rfl
    go_wp2_with fail
    go_at_call 17
    refine (cCopyBytes _ _ _ (HA.out.below hb8) (Nat.le_trans (Nat.mul_le_mul_right 1 HUP.out) (by decide))).mono ?_
    rintro e w9 ⟨v9, rfl, hown9, hb9⟩
    go_wp2_with (at_builtin; refine append_bytes (by rfl) _ _ (by rfl) v9 _ hown9 (by rfl) [x] (by rfl) (Nat.le_trans HUP.out (by decide)) (by simp) hb9.size ?_)
    intro v10 w10 hown10 hg10
    have hb10 : Below w8.heap.size w8 w10 := hb9.trans (hg10.below hb9.size (fun k hk => (hown9.lt k hk).1))
    go_wp2_with fail
    go_at_call 18
    refine (aScript HD.out _ hown10.shows HYX.out).mono ?_
    rintro e w11 ⟨l1, l2, l3, p1, p2, p3, rfl, _, hoi, hb11⟩
    dsimp only at hoi
    have hb211 := below_then (below_then hb8 hb10) hb11
    have hk11 := key4 hk1 hb211
    obtain ⟨f0, f1, f2, f3, _⟩ := hk11
    have hz211 := hb211.size
    have hl0 : w.heap.size < w11.heap.size := by have := hb211.size; omega
    have hoi' : ShowInts w11 (.slice p1 p2 p3) ((S.picks ++ [x]).take 4096) := hoi.shows
    have HPP := Lib.hid (HP.out.below hb211)
    have HBW := Lib.hid (below_then HW.out hb211)
    have HOI := Lib.hid hoi'
    clear hb9 hg10 hb10 hb11 hown9 hown10 hoi hoi' hb8
    by_cases hlt : S.picks.length < 4096
    · have HE : Hid ((S.picks ++ [x]).take 4096 = S.picks ++ [x]) := Lib.hid (List.take_of_length_le (by simp; omega))
      go_wp2_with fail
      go_at_call 21
      refine (cCopyInts _ S.picks _ (HPP.out.below (below_one (Below.refl _ _) _)) (by omega)).mono ?_
      rintro e w12 ⟨v12, rfl, hown12, hb12⟩
      go_wp2_with (at_builtin; refine append_ints (by rfl) _ _ (by rfl) v12 _ hown12 (by rfl) [x] (by rfl) (by omega) (by simp) hb12.size ?_)
      intro v13 w13 hown13 hg13
      have hb13 := hb12.trans (hg13.below hb12.size (fun k hk => (World.ownsRow.lt hown12 k hk).1))
      have hL := (hb13.block w11.heap.size (by rw [size_alloc]; omega)).trans (heap_new _ _)
      have hb1113 := below_then (below_one (Below.refl _ w11) _) hb13
      obtain ⟨g0, g1, g2, g3⟩ := self4 hL
      have f0 := cell_keep hb1113 f0
      have HO2 := Lib.hid (HOI.out.below hb1113)
      rw [HE.out] at HO2
      have hk13 := hb13.size
      rw [size_alloc] at hk13
      clear hL hb12 hb13 hg13
      go_wp2_with fail
      go_at_call 22
      refine (eqIntsT _ _ (S.picks ++ [x]) _ HO2.out (OwnInts.shows hown13)).mono ?_
      rintro e w14 ⟨rfl, hb14⟩
      have f0 := cell_keep hb14 f0
      have g0 := cell_keep hb14 g0
      have hbF := below_then (below_then HBW.out hb1113) hb14
      have hce : (S.cpus == S.cpus) = true := by simp
      clear hb1113 hb14
      go_wp2_with fail
      go_at_call 16
      refine (works _).mono ?_
      rintro e w15 ⟨rfl, hb15⟩
      have hbG := below_then hbF hb15
      go_wp2
      go_ret
      exact ⟨rfl, hbG⟩
    · have HE : Hid ((S.picks ++ [x]).take 4096 = S.picks) := Lib.hid (by
        have e : S.picks.length = 4096 := by omega
        rw [← e]
        simp)
      go_wp2_with fail
      go_at_call 22
      refine (eqIntsT _ _ S.picks _ ?_ (HPP.out.below (below_one (Below.refl _ _) _))).mono ?_
      · have := HOI.out.below (below_one (Below.refl _ _) (.cells #[.int .i64 S.cpus, .int .i64 S.pages, .slice l1 l2 l3, .slice p1 p2 p3] 25))
        rw [HE.out] at this
        exact this
      rintro e w14 ⟨rfl, hb14⟩
      have hL := (hb14.block w11.heap.size (by rw [size_alloc]; omega)).trans (heap_new _ _)
      have hb1114 := below_then (below_one (Below.refl _ w11) _) hb14
      obtain ⟨g0, g1, g2, g3⟩ := self4 hL
      have f0 := cell_keep hb1114 f0
      have hbF := below_then HBW.out hb1114
      have hce : (S.cpus == S.cpus) = true := by simp
      clear hL hb14 hb1114
      go_wp2_with fail
      go_at_call 16
      refine (works _).mono ?_
      rintro e w15 ⟨rfl, hb15⟩
      have hbG := below_then hbF hb15
      go_wp2
      go_ret
      exact ⟨rfl, hbG⟩
end Go.Proofs.Ytifkkblmcdggmaa
