/-
  polls, stands, and the chapter's machine (works).
-/
import Derived.Test.YtnnpclknlccmiaaStep
set_option linter.unusedVariables false
set_option linter.unusedSimpArgs false
namespace Go.Proofs.Ytnnpclknlccmiaa
open Go Go.RowKit

theorem lit_ownI (w : World) (x : Int) (K : Nat) (hK : w.heap.size = K) : OwnI 0 (w.alloc (.cells #[.int .i64 x] 3)) (.slice (some ⟨K, 0, none⟩) 1 1) [x] := by
  subst hK
  exact ⟨rfl, .inr ⟨_, 1, _, rfl, Nat.zero_le _, heap_new _ _, Nat.le_refl _, by unfold maxLen; omega, rfl, rfl⟩⟩
/-- a machine of the program's, new since W -/
structure G0 (W w : World) (B p n : Nat) (g : Gr) : Prop where
  pa : ∃ vs, GV w B p n vs g
  low : Below W.heap.size W w
  ge : ∀ k, OwnG B p k → W.heap.size ≤ k
section
variable {W w w' : World} {B p n b : Nat} {g g' : Gr} {cpu id er : Int} {l : List Int}
theorem G0.go (h : G0 W w B p n g) {vs : Nat → Value} (ha : GV w' B p n vs g') (hk : Kept (OwnG B p) w w') : G0 W w' B p n g' := ⟨⟨vs, ha⟩, below_kept h.low hk h.ge, h.ge⟩
theorem G0.below (h : G0 W w B p n g) (hb : Below w.heap.size w w') : G0 W w' B p n g := by
  obtain ⟨va, ha⟩ := h.pa
  exact h.go (ha.below hb) (Kept.ofBelow hb)
theorem wLock (h : G0 W w B p n g) (hI : GI n b g) (hr : LockIs n g cpu er g') :
    Calls Try.prog 15 #[.pointer (some ⟨B, 0, none⟩), .int .i64 cpu] w fun e w' => e = .returned (.int .i64 er) ∧ G0 W w' B p n g' := by
  obtain ⟨vs, ha⟩ := h.pa
  exact (cLock ha hI.n1 hr).mono fun e w' ⟨vs', h1, h2, h3⟩ => ⟨h1, h.go h2 h3⟩
theorem wUnlock (h : G0 W w B p n g) (hI : GI n b g) (hr : UnlockIs n g cpu er g') :
    Calls Try.prog 16 #[.pointer (some ⟨B, 0, none⟩), .int .i64 cpu] w fun e w' => e = .returned (.int .i64 er) ∧ G0 W w' B p n g' := by
  obtain ⟨vs, ha⟩ := h.pa
  exact (cUnlock ha hI.n1 hI.dp hr).mono fun e w' ⟨vs', h1, h2, h3⟩ => ⟨h1, h.go h2 h3⟩
theorem wQuiet (h : G0 W w B p n g) (hI : GI n b g) (hb : b ≤ 1000) (hr : QuietIs n g cpu er g') :
    Calls Try.prog 17 #[.pointer (some ⟨B, 0, none⟩), .int .i64 cpu] w fun e w' => e = .returned (.int .i64 er) ∧ G0 W w' B p n g' := by
  obtain ⟨vs, ha⟩ := h.pa
  exact (cQuiet ha hI hb hr).mono fun e w' ⟨vs', h1, h2, h3⟩ => ⟨h1, h.go h2 h3⟩
theorem wCall (h : G0 W w B p n g) (hI : GI n b g) (hb : b ≤ 1000) (hr : CallIs n g cpu id er g') :
    Calls Try.prog 18 #[.pointer (some ⟨B, 0, none⟩), .int .i64 cpu, .int .i64 id] w fun e w' => e = .returned (.int .i64 er) ∧ G0 W w' B p n g' := by
  obtain ⟨vs, ha⟩ := h.pa
  exact (cCall ha hI hb hr).mono fun e w' ⟨vs', h1, h2, h3⟩ => ⟨h1, h.go h2 h3⟩
set_option maxHeartbeats 2000000 in
set_option maxRecDepth 100000 in
theorem wPolls (h : G0 W w B p n g) (hI : GI n b g) (hr : PollIs n g cpu l 0 g') (u : Value) (hu : OwnI 0 w u l) :
    Calls Try.prog 33 #[.pointer (some ⟨B, 0, none⟩), .int .i64 cpu, u] w fun e w' => e = .returned (.bool true) ∧ G0 W w' B p n g' := by
  obtain ⟨vs, ha⟩ := h.pa
  have HA := Lib.hid ha
  have HH := Lib.hid h
  have HI := Lib.hid hI
  have HR := Lib.hid hr
  have HU := Lib.hid hu
  clear h ha hI hr hu
  go_enter Try.func33, Try.ntmps33
  go_wp2_with fail
  refine (cPoll HA.out HI.out HR.out).mono ?_
  rintro e w2 ⟨vs2, a2, k2, cp2, hk2, rfl, hg2, hkp2, ho2⟩
  have H2 := Lib.hid (And.intro (HH.out.go hg2 hkp2) (And.intro ho2 (own_kept2 HU.out hkp2 HA.out.typ (by decide))))
  clear hg2 hkp2 ho2 hk2
  go_wp2_with fail
  refine (cEqInts _ _ l l _ (own_i H2.out.2.1) (own_i H2.out.2.2)).mono ?_
  rintro e w3 ⟨rfl, hb3⟩
  rw [decide_eq_true rfl]
  have H3 := Lib.hid (H2.out.1.below hb3)
  clear hb3
  go_wp2
  go_ret
  exact ⟨rfl, H3.out⟩
set_option maxHeartbeats 2000000 in
set_option maxRecDepth 100000 in
theorem wStands (h : G0 W w B p n g) (hI : GI n b g) (x : Int) (q : Bool) (hx : (g.nd : Int) = x) (hq : anyB g.aw n = q) :
    Calls Try.prog 34 #[.pointer (some ⟨B, 0, none⟩), .int .i64 x, .bool q] w fun e w' => e = .returned (.bool true) ∧ G0 W w' B p n g := by
  obtain ⟨vs, ha⟩ := h.pa
  have HA := Lib.hid ha
  have HH := Lib.hid h
  have HI := Lib.hid hI
  have HQ := Lib.hid hq
  have HX := Lib.hid hx
  clear h ha hI hq hx
  go_enter Try.func34, Try.ntmps34
  go_wp2_with fail
  refine (cDone HA.out HI.out.n1 HI.out.off q HQ.out).mono ?_
  rintro e w2 ⟨rfl, hb2⟩
  rw [HX.out]
  have H2 := Lib.hid (HH.out.below hb2)
  clear hb2
  go_wp2
  go_ret
  exact ⟨ret_bool (by simp), H2.out⟩
end
/-! the chapter's machine -/
def m1 : Gr := noG.deep 0 (noG.dp 0 + 1)
def m2 : Gr := m1.row2 2 1 (m1.rs 1 ++ [⟨7, m1.nd + 1⟩])
def m3 : Gr := m2.told 1
def m4 : Gr := m3.row 1 ((m3.rs 1).drop (cutN m3.nd (m3.rs 1)))
def m5 : Gr := m4.deep 0 0
def m6 : Gr := m5.row 1 ((m5.rs 1).drop (cutN m5.nd (m5.rs 1)))
def m7 : Gr := m6.over 0
def m8 : Gr := m7.row 1 ((m7.rs 1).drop (cutN m7.nd (m7.rs 1)))
def m9 : Gr := m8.row2 2 0 (m8.rs 0 ++ [⟨8, m8.nd + 1⟩])
def m10 : Gr := m9.row 0 (m9.rs 0 ++ [⟨9, m9.nd + 2⟩])
def m11 : Gr := m10.told 0
def m12 : Gr := m11.over2 2 1
def m13 : Gr := m12.row 0 ((m12.rs 0).drop (cutN m12.nd (m12.rs 0)))
theorem k1 : LockIs 2 noG (0 : Nat) 0 m1 := .ok 0 (by decide) (by decide)
theorem k2 : CallIs 2 m1 (1 : Nat) 7 0 m2 := .first 1 7 (by decide) (by decide) (by decide) (by decide)
theorem k3 : QuietIs 2 m2 (1 : Nat) 0 m3 := .more 1 (by decide) (by decide) (by decide) (by decide)
theorem k3b : QuietIs 2 m3 (0 : Nat) 292 m3 := .deep 0 (by decide) (by decide)
theorem k4 : PollIs 2 m3 (1 : Nat) [] 0 m4 := .ok 1 (by decide)
theorem k5 : UnlockIs 2 m4 (0 : Nat) 0 m5 := .ok 0 0 (by decide) (by decide)
theorem k6 : PollIs 2 m5 (1 : Nat) [] 0 m6 := .ok 1 (by decide)
theorem k7 : QuietIs 2 m6 (0 : Nat) 0 m7 := .last 0 (by decide) (by decide) (by decide) (by decide) (by decide)
theorem k8 : PollIs 2 m7 (1 : Nat) [7] 0 m8 := .ok 1 (by decide)
theorem k9 : CallIs 2 m8 (0 : Nat) 8 0 m9 := .first 0 8 (by decide) (by decide) (by decide) (by decide)
theorem k10 : CallIs 2 m9 (0 : Nat) 9 0 m10 := .later 0 9 (by decide) (by decide) (by decide) (by decide)
theorem k11 : QuietIs 2 m10 (0 : Nat) 0 m11 := .more 0 (by decide) (by decide) (by decide) (by decide)
theorem k12 : QuietIs 2 m11 (1 : Nat) 0 m12 := .next 1 (by decide) (by decide) (by decide) (by decide) (by decide)
theorem k13 : PollIs 2 m12 (0 : Nat) [8] 0 m13 := .ok 0 (by decide)
theorem i0 : GI 2 0 noG := GI.new (by decide)
theorem i1 : GI 2 0 m1 := k1.gi i0
theorem i2 : GI 2 0 m2 := k2.gi i1 (by decide)
theorem i3 : GI 2 1 m3 := k3.gi i2
theorem i4 : GI 2 1 m4 := k4.gi i3
theorem i5 : GI 2 1 m5 := k5.gi i4
theorem i6 : GI 2 1 m6 := k6.gi i5
theorem i7 : GI 2 2 m7 := k7.gi i6
theorem i8 : GI 2 2 m8 := k8.gi i7
theorem i9 : GI 2 2 m9 := k9.gi i8 (by decide)
theorem i10 : GI 2 2 m10 := k10.gi i9 (by decide)
theorem i11 : GI 2 3 m11 := k11.gi i10
theorem i12 : GI 2 4 m12 := k12.gi i11
set_option maxHeartbeats 16000000 in
set_option maxRecDepth 100000 in
theorem works (W : World) : Calls Try.prog 10 #[] W fun e W' => e = .returned (.bool true) ∧ Below W.heap.size W W' := by
  go_enter Try.func10, Try.ntmps10
  go_wp2_with fail
  refine (cNew 2 W (by decide)).mono ?_
  rintro e w0 ⟨B, p, rfl, hg, hb, h1, h2⟩
  have H0 : Hid (G0 W w0 B p 2 noG) := Lib.hid ⟨⟨_, hg⟩, hb, by rintro k (rfl | rfl) <;> assumption⟩
  clear hg hb h1 h2
  go_wp2_with fail
  refine (wLock H0.out i0 k1).mono ?_
  rintro e w1 ⟨rfl, hg⟩
  have H1 := Lib.hid hg; clear hg H0
  go_wp2_with fail
  refine (wCall H1.out i1 (by decide) k2).mono ?_
  rintro e w2 ⟨rfl, hg⟩
  have H2 := Lib.hid hg; clear hg H1
  go_wp2_with fail
  refine (wQuiet H2.out i2 (by decide) k3).mono ?_
  rintro e w3 ⟨rfl, hg⟩
  have H3 := Lib.hid hg; clear hg H2
  go_wp2_with fail
  refine (wQuiet H3.out i3 (by decide) k3b).mono ?_
  rintro e w4 ⟨rfl, hg⟩
  have H4 := Lib.hid hg; clear hg H3
  go_wp2_with fail
  refine (wPolls H4.out i3 k4 _ (OwnI.nil _ _)).mono ?_
  rintro e w5 ⟨rfl, hg⟩
  have H5 := Lib.hid hg; clear hg H4
  go_wp2_with fail
  refine (wUnlock H5.out i4 k5).mono ?_
  rintro e w6 ⟨rfl, hg⟩
  have H6 := Lib.hid hg; clear hg H5
  go_wp2_with fail
  refine (wPolls H6.out i5 k6 _ (OwnI.nil _ _)).mono ?_
  rintro e w7 ⟨rfl, hg⟩
  have H7 := Lib.hid hg; clear hg H6
  go_wp2_with fail
  refine (wQuiet H7.out i6 (by decide) k7).mono ?_
  rintro e w8 ⟨rfl, hg⟩
  have H8 := Lib.hid hg; clear hg H7
  go_wp2_with fail
  refine (wStands H8.out i7 1 false (by decide) (by decide)).mono ?_
  rintro e w9 ⟨rfl, hg⟩
  have H9 := Lib.hid hg; clear hg H8
  go_wp2_with fail
  refine (wPolls (H9.out.below (below_one (Below.refl _ _) _)) i7 k8 _ (lit_ownI w9 7 _ rfl)).mono ?_
  rintro e w10 ⟨rfl, hg⟩
  have H10 := Lib.hid hg; clear hg H9
  go_wp2_with fail
  refine (wCall H10.out i8 (by decide) k9).mono ?_
  rintro e w11 ⟨rfl, hg⟩
  have H11 := Lib.hid hg; clear hg H10
  go_wp2_with fail
  refine (wCall H11.out i9 (by decide) k10).mono ?_
  rintro e w12 ⟨rfl, hg⟩
  have H12 := Lib.hid hg; clear hg H11
  go_wp2_with fail
  refine (wQuiet H12.out i10 (by decide) k11).mono ?_
  rintro e w13 ⟨rfl, hg⟩
  have H13 := Lib.hid hg; clear hg H12
  go_wp2_with fail
  refine (wQuiet H13.out i11 (by decide) k12).mono ?_
  rintro e w14 ⟨rfl, hg⟩
  have H14 := Lib.hid hg; clear hg H13
  go_wp2_with fail
  refine (wStands H14.out i12 2 true (by decide) (by decide)).mono ?_
  rintro e w15 ⟨rfl, hg⟩
  have H15 := Lib.hid hg; clear hg H14
  go_wp2_with fail
  refine (wPolls (H15.out.below (below_one (Below.refl _ _) _)) i12 k13 _ (lit_ownI w15 8 _ rfl)).mono ?_
  rintro e w16 ⟨rfl, hg⟩
  have H16 := Lib.hid hg; clear hg H15
  go_wp2
  go_ret
  exact ⟨rfl, H16.out.low⟩
end Go.Proofs.Ytnnpclknlccmiaa
