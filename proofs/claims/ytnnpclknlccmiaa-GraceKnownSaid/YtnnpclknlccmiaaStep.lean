/-
  The program's machine and the document's answer in one world; the laws' helpers step and same.
-/
import Derived.Test.YtnnpclknlccmiaaDo
set_option linter.unusedVariables false
set_option linter.unusedSimpArgs false
namespace Go.Proofs.Ytnnpclknlccmiaa
open Go Go.RowKit

theorem cBringN (x m : Int) (n : Nat) (hm : m = n) (h : 1 ≤ n ∧ n ≤ 2000) (w : World) : Calls Try.prog 22 #[.int .i64 x, .int .i64 m] w fun e w' => e = .returned (.int .i64 (bring x n)) ∧ w' = w := by
  subst hm
  exact cBring x n w (by omega) (by omega)
structure G2 (W w : World) (B p B2 d r m n : Nat) (ga gr : Gr) : Prop where
  pa : ∃ vs, GV w B p n vs ga
  pr : ∃ vs, RV w B2 d r m n vs gr (anyB gr.aw n)
  low : Below W.heap.size W w
  ge : ∀ k, OwnG B p k → W.heap.size ≤ k
  ge2 : ∀ k, OwnR B2 d r m k → W.heap.size ≤ k
def tysG : List TypeId := [56, 75]
section
variable {W w w' : World} {B p B2 d r m n b : Nat} {ga ga' gr gr' : Gr} {cpu id er : Int} {l : List Int}
theorem G2.left (h : G2 W w B p B2 d r m n ga gr) {vs : Nat → Value} (ha : GV w' B p n vs ga') (hk : Kept (OwnG B p) w w') : G2 W w' B p B2 d r m n ga' gr := by
  obtain ⟨va, ga0⟩ := h.pa
  obtain ⟨vr, hr⟩ := h.pr
  exact ⟨⟨vs, ha⟩, ⟨vr, hr.kept hk ga0.typ (by decide)⟩, below_kept h.low hk h.ge, h.ge, h.ge2⟩
theorem G2.right (h : G2 W w B p B2 d r m n ga gr) {vs : Nat → Value} (hr : RV w' B2 d r m n vs gr' (anyB gr'.aw n)) (hk : Kept (OwnR B2 d r m) w w') : G2 W w' B p B2 d r m n ga gr' := by
  obtain ⟨va, ha⟩ := h.pa
  obtain ⟨vr, hr0⟩ := h.pr
  exact ⟨⟨va, ha.kept hk hr0.typ (by decide)⟩, ⟨vs, hr⟩, below_kept h.low hk h.ge2, h.ge, h.ge2⟩
theorem G2.below (h : G2 W w B p B2 d r m n ga gr) (hb : Below w.heap.size w w') : G2 W w' B p B2 d r m n ga gr := by
  obtain ⟨va, ha⟩ := h.pa
  exact h.left (ha.below hb) (Kept.ofBelow hb)
/-- both, and a call's box -/
structure Bn (W w : World) (K : Nat) (c : Pg) (B p B2 d r m n : Nat) (ga gr : Gr) : Prop where
  st : G2 W w B p B2 d r m n ga gr
  box : w.heap[K]? = some (.cells #[.int .i64 c.kind, .int .i64 c.order, .int .i64 c.cache] 32 (0, 0))
variable {K : Nat} {c : Pg}
theorem box_kept {S : Nat → Prop} {Ts : List TypeId} {x : Array Value} {T : TypeId} (hb : w.heap[K]? = some (.cells x T (0, 0))) (hk : Kept S w w') (hS : ∀ k, S k → Typ w Ts k) (hT : T ∉ Ts) : w'.heap[K]? = some (.cells x T (0, 0)) :=
  (hk.block K (lt_of_block hb) (fun e => (hS K e).ne hb hT rfl)).trans hb
theorem Bn.cells (h : Bn W w K c B p B2 d r m n ga gr) : w.cell? ⟨K, 0, none⟩ = some (.int .i64 c.kind) ∧ w.cell? ⟨K, 1, none⟩ = some (.int .i64 c.order) ∧ w.cell? ⟨K, 2, none⟩ = some (.int .i64 c.cache) := ⟨self_cell h.box 0 _ rfl, self_cell h.box 1 _ rfl, self_cell h.box 2 _ rfl⟩
theorem Bn.left (h : Bn W w K c B p B2 d r m n ga gr) {vs : Nat → Value} (ha : GV w' B p n vs ga') (hk : Kept (OwnG B p) w w') : Bn W w' K c B p B2 d r m n ga' gr := by
  obtain ⟨va, ga0⟩ := h.st.pa
  exact ⟨h.st.left ha hk, box_kept h.box hk ga0.typ (by decide)⟩
theorem Bn.right (h : Bn W w K c B p B2 d r m n ga gr) {vs : Nat → Value} (hr : RV w' B2 d r m n vs gr' (anyB gr'.aw n)) (hk : Kept (OwnR B2 d r m) w w') : Bn W w' K c B p B2 d r m n ga gr' := by
  obtain ⟨vr, hr0⟩ := h.st.pr
  exact ⟨h.st.right hr hk, box_kept h.box hk hr0.typ (by decide)⟩
theorem Bn.below (h : Bn W w K c B p B2 d r m n ga gr) (hb : Below w.heap.size w w') : Bn W w' K c B p B2 d r m n ga gr := ⟨h.st.below hb, keep_block h.box hb⟩
theorem Bn.drew (h : Bn W w K c B p B2 d r m n ga gr) : Bn W w.drew K c B p B2 d r m n ga gr := h.below (Below.refl _ w).drew
theorem bLock (h : Bn W w K c B p B2 d r m n ga gr) (hI : GI n b ga) (hr : LockIs n ga cpu er ga') :
    Calls Try.prog 15 #[.pointer (some ⟨B, 0, none⟩), .int .i64 cpu] w fun e w' => e = .returned (.int .i64 er) ∧ Bn W w' K c B p B2 d r m n ga' gr := by
  obtain ⟨vs, ha⟩ := h.st.pa
  exact (cLock ha hI.n1 hr).mono fun e w' ⟨vs', h1, h2, h3⟩ => ⟨h1, h.left h2 h3⟩
theorem brLock (h : Bn W w K c B p B2 d r m n ga gr) (hI : GI n b gr) (hr : LockIs n gr cpu er gr') :
    Calls Try.prog 23 #[.pointer (some ⟨B2, 0, none⟩), .int .i64 cpu] w fun e w' => e = .returned (.int .i64 er) ∧ Bn W w' K c B p B2 d r m n ga gr' := by
  obtain ⟨vs, ha⟩ := h.st.pr
  exact (rLock ha hI.n1.2 hr).mono fun e w' ⟨vs', h1, h2, h3⟩ => ⟨h1, h.right h2 h3⟩
theorem bUnlock (h : Bn W w K c B p B2 d r m n ga gr) (hI : GI n b ga) (hr : UnlockIs n ga cpu er ga') :
    Calls Try.prog 16 #[.pointer (some ⟨B, 0, none⟩), .int .i64 cpu] w fun e w' => e = .returned (.int .i64 er) ∧ Bn W w' K c B p B2 d r m n ga' gr := by
  obtain ⟨vs, ha⟩ := h.st.pa
  exact (cUnlock ha hI.n1 hI.dp hr).mono fun e w' ⟨vs', h1, h2, h3⟩ => ⟨h1, h.left h2 h3⟩
theorem brUnlock (h : Bn W w K c B p B2 d r m n ga gr) (hI : GI n b gr) (hr : UnlockIs n gr cpu er gr') :
    Calls Try.prog 24 #[.pointer (some ⟨B2, 0, none⟩), .int .i64 cpu] w fun e w' => e = .returned (.int .i64 er) ∧ Bn W w' K c B p B2 d r m n ga gr' := by
  obtain ⟨vs, ha⟩ := h.st.pr
  exact (rUnlock ha hI.n1.2 hI.dp hr).mono fun e w' ⟨vs', h1, h2, h3⟩ => ⟨h1, h.right h2 h3⟩
theorem bQuiet (h : Bn W w K c B p B2 d r m n ga gr) (hI : GI n b ga) (hb : b ≤ 1000) (hr : QuietIs n ga cpu er ga') :
    Calls Try.prog 17 #[.pointer (some ⟨B, 0, none⟩), .int .i64 cpu] w fun e w' => e = .returned (.int .i64 er) ∧ Bn W w' K c B p B2 d r m n ga' gr := by
  obtain ⟨vs, ha⟩ := h.st.pa
  exact (cQuiet ha hI hb hr).mono fun e w' ⟨vs', h1, h2, h3⟩ => ⟨h1, h.left h2 h3⟩
theorem brQuiet (h : Bn W w K c B p B2 d r m n ga gr) (hI : GI n b gr) (hb : b ≤ 1000) (hr : QuietIs n gr cpu er gr') :
    Calls Try.prog 25 #[.pointer (some ⟨B2, 0, none⟩), .int .i64 cpu] w fun e w' => e = .returned (.int .i64 er) ∧ Bn W w' K c B p B2 d r m n ga gr' := by
  obtain ⟨vs, ha⟩ := h.st.pr
  exact (rQuiet ha hI hb hr).mono fun e w' ⟨vs', h1, h2, h3⟩ => ⟨h1, h.right h2 h3⟩
theorem bCall (h : Bn W w K c B p B2 d r m n ga gr) (hI : GI n b ga) (hb : b ≤ 1000) (hr : CallIs n ga cpu id er ga') :
    Calls Try.prog 18 #[.pointer (some ⟨B, 0, none⟩), .int .i64 cpu, .int .i64 id] w fun e w' => e = .returned (.int .i64 er) ∧ Bn W w' K c B p B2 d r m n ga' gr := by
  obtain ⟨vs, ha⟩ := h.st.pa
  exact (cCall ha hI hb hr).mono fun e w' ⟨vs', h1, h2, h3⟩ => ⟨h1, h.left h2 h3⟩
theorem brCall (h : Bn W w K c B p B2 d r m n ga gr) (hI : GI n b gr) (hb : b ≤ 1000) (hr : CallIs n gr cpu id er gr') :
    Calls Try.prog 26 #[.pointer (some ⟨B2, 0, none⟩), .int .i64 cpu, .int .i64 id] w fun e w' => e = .returned (.int .i64 er) ∧ Bn W w' K c B p B2 d r m n ga gr' := by
  obtain ⟨vs, ha⟩ := h.st.pr
  exact (rCall ha hI hb hr).mono fun e w' ⟨vs', h1, h2, h3⟩ => ⟨h1, h.right h2 h3⟩
theorem bPoll (h : Bn W w K c B p B2 d r m n ga gr) (hI : GI n b ga) (hr : PollIs n ga cpu l er ga') :
    Calls Try.prog 13 #[.pointer (some ⟨B, 0, none⟩), .int .i64 cpu] w fun e w' => ∃ ao k cap, k = l.length ∧ e = .returned (.tuple #[.slice ao k cap, .int .i64 er]) ∧ Bn W w' K c B p B2 d r m n ga' gr ∧ OwnI w.heap.size w' (.slice ao k cap) l := by
  obtain ⟨vs, ha⟩ := h.st.pa
  exact (cPoll ha hI hr).mono fun e w' ⟨vs', ao, k, cap, h0, h1, h2, h3, h4⟩ => ⟨ao, k, cap, h0, h1, h.left h2 h3, h4⟩
theorem brPoll (h : Bn W w K c B p B2 d r m n ga gr) (hI : GI n b gr) (hr : PollIs n gr cpu l er gr') :
    Calls Try.prog 27 #[.pointer (some ⟨B2, 0, none⟩), .int .i64 cpu] w fun e w' => ∃ ao k cap, k = l.length ∧ e = .returned (.tuple #[.slice ao k cap, .int .i64 er]) ∧ Bn W w' K c B p B2 d r m n ga gr' ∧ Kept (OwnR B2 d r m) w w' ∧ OwnI w.heap.size w' (.slice ao k cap) l := by
  obtain ⟨vs, ha⟩ := h.st.pr
  exact (rPoll ha hI hr).mono fun e w' ⟨vs', ao, k, cap, h0, h1, h2, h3, h4⟩ => ⟨ao, k, cap, h0, h1, h.right h2 h3, h3, h4⟩
/-- numbers that the program answered stay, as the document's machine was there before -/
theorem ids_stay {v : Value} (h : OwnI b w v l) (hk : Kept (OwnR B2 d r m) w w') (hd : ∀ k, OwnR B2 d r m k → k < b) : OwnI b w' v l := by
  refine ⟨h.1, ?_⟩
  rcases h.2 with e | ⟨j, cap, cur, rfl, hb, hg, h1⟩
  · exact .inl e
  · exact .inr ⟨j, cap, cur, rfl, hb, (hk.block j (lt_of_block hg) (fun e => by have := hd j e; omega)).trans hg, h1⟩
theorem G2.lt2 (h : G2 W w B p B2 d r m n ga gr) : ∀ k, OwnR B2 d r m k → k < w.heap.size := by
  obtain ⟨vr, hr⟩ := h.pr
  exact fun k e => (hr.typ k e).lt
/-- what step leaves -/
def StepOk (W : World) (B p B2 d r m n b : Nat) (e : Ending) (w' : World) : Prop := e = .returned (.bool true) ∧ ∃ g', G2 W w' B p B2 d r m n g' g' ∧ GI n (b + 1) g'
variable {g : Gr}
set_option maxHeartbeats 16000000 in
set_option maxRecDepth 100000 in
theorem cStep (h : G2 W w B p B2 d r m n g g) (hI : GI n b g) (hb : b ≤ 1000) (c : Pg) :
    Calls Try.prog 8 #[.pointer (some ⟨B, 0, none⟩), .pointer (some ⟨B2, 0, none⟩), c.agg] w (StepOk W B p B2 d r m n b) := by
  obtain ⟨kd, cpu, id⟩ := c
  have h0 : Bn W (w.alloc (.cells #[.int .i64 kd, .int .i64 cpu, .int .i64 id] 32)) w.heap.size ⟨kd, cpu, id⟩ B p B2 d r m n g g := ⟨h.below (below_one (Below.refl _ _) _), heap_new _ _⟩
  have H0 := Lib.hid h0
  have HI := Lib.hid hI
  obtain ⟨c0, c1, c2⟩ := h0.cells
  dsimp only at c0 c1 c2
  obtain ⟨q, hq⟩ : ∃ q, bring kd 5 = q := ⟨_, rfl⟩
  have hq4 : q < 5 := by have := bring_lt kd 5 (by decide); omega
  have HQ := Lib.hid hq
  clear h h0 hq hI
  show Calls Try.prog 8 #[.pointer (some ⟨B, 0, none⟩), .pointer (some ⟨B2, 0, none⟩), .agg #[.int .i64 kd, .int .i64 cpu, .int .i64 id]] w (StepOk W B p B2 d r m n b)
  go_enter Try.func8, Try.ntmps8
  go_wp2_with fail
  refine (cBringN kd 5 5 rfl (by decide) _).mono ?_
  rintro e w1 ⟨rfl, rfl⟩
  rw [HQ.out]
  have hqc : q = 0 ∨ q = 1 ∨ q = 2 ∨ q = 3 ∨ q = 4 := by omega
  clear HQ hq4
  rcases hqc with rfl | rfl | rfl | rfl | rfl
  · obtain ⟨er, g', hr⟩ := lock_is n g HI.out.dp cpu
    have HR := Lib.hid hr
    have hd := H0.out.drew
    clear hr
    go_wp2
    go_region_held3 (fun w' => w'.cell? ⟨w.heap.size, 1, none⟩ = some (.int .i64 cpu))
      (first | exact (Bn.cells (show Bn _ _ _ _ _ _ _ _ _ _ _ _ _ from by assumption)).2.1)
      (first
        | (go_at_call 15; refine (bLock (by assumption) HI.out HR.out).mono ?_; rintro e wN ⟨rfl, bN⟩)
        | (go_at_call 23; refine (brLock (by assumption) HI.out HR.out).mono ?_; rintro e wM ⟨rfl, bM⟩))
    all_goals
      have H9 := Lib.hid bM.st
      clear bM bN hd
      go_wp2
      go_ret
      exact ⟨ret_bool (by simp), _, H9.out, (HR.out.gi HI.out).mono (Nat.le_succ _)⟩
  · obtain ⟨er, g', hr⟩ := unlock_is n g cpu
    have HR := Lib.hid hr
    have hd := H0.out.drew
    clear hr
    go_wp2
    go_region_held3 (fun w' => w'.cell? ⟨w.heap.size, 1, none⟩ = some (.int .i64 cpu))
      (first | exact (Bn.cells (show Bn _ _ _ _ _ _ _ _ _ _ _ _ _ from by assumption)).2.1)
      (first
        | (go_at_call 16; refine (bUnlock (by assumption) HI.out HR.out).mono ?_; rintro e wN ⟨rfl, bN⟩)
        | (go_at_call 24; refine (brUnlock (by assumption) HI.out HR.out).mono ?_; rintro e wM ⟨rfl, bM⟩))
    all_goals
      have H9 := Lib.hid bM.st
      clear bM bN hd
      go_wp2
      go_ret
      exact ⟨ret_bool (by simp), _, H9.out, (HR.out.gi HI.out).mono (Nat.le_succ _)⟩
  · obtain ⟨er, g', hr⟩ := quiet_is n g cpu
    have HR := Lib.hid hr
    have hd := H0.out.drew
    clear hr
    go_wp2
    go_region_held3 (fun w' => w'.cell? ⟨w.heap.size, 1, none⟩ = some (.int .i64 cpu))
      (first | exact (Bn.cells (show Bn _ _ _ _ _ _ _ _ _ _ _ _ _ from by assumption)).2.1)
      (first
        | (go_at_call 17; refine (bQuiet (by assumption) HI.out hb HR.out).mono ?_; rintro e wN ⟨rfl, bN⟩)
        | (go_at_call 25; refine (brQuiet (by assumption) HI.out hb HR.out).mono ?_; rintro e wM ⟨rfl, bM⟩))
    all_goals
      have H9 := Lib.hid bM.st
      clear bM bN hd
      go_wp2
      go_ret
      exact ⟨ret_bool (by simp), _, H9.out, HR.out.gi HI.out⟩
  · obtain ⟨er, g', hr⟩ := call_is n g cpu id
    have HR := Lib.hid hr
    have hd := H0.out.drew
    clear hr
    go_wp2
    go_region_held3 (fun w' => w'.cell? ⟨w.heap.size, 1, none⟩ = some (.int .i64 cpu) ∧ w'.cell? ⟨w.heap.size, 2, none⟩ = some (.int .i64 id))
      (first | exact (Bn.cells (show Bn _ _ _ _ _ _ _ _ _ _ _ _ _ from by assumption)).2)
      (first
        | (go_at_call 18; refine (bCall (by assumption) HI.out hb HR.out).mono ?_; rintro e wN ⟨rfl, bN⟩)
        | (go_at_call 26; refine (brCall (by assumption) HI.out hb HR.out).mono ?_; rintro e wM ⟨rfl, bM⟩))
    all_goals
      have H9 := Lib.hid bM.st
      clear bM bN hd
      go_wp2
      go_ret
      exact ⟨ret_bool (by simp), _, H9.out, (HR.out.gi HI.out hb).mono (Nat.le_succ _)⟩
  · obtain ⟨l, er, g', hr⟩ := poll_is n g cpu
    have HR := Lib.hid hr
    clear hr
    go_wp2_with fail
    refine (bPoll H0.out HI.out HR.out).mono ?_
    rintro e w2 ⟨a2, k2, cp2, hk2, rfl, hb2, ho2⟩
    have H2 := Lib.hid (And.intro hb2 ho2)
    have HK2 := Lib.hid hk2
    obtain ⟨c0, c1, c2⟩ := hb2.cells
    dsimp only at c0 c1 c2
    have HLT := Lib.hid H0.out.st.lt2
    clear hb2 ho2 hk2
    go_wp2_with fail
    refine (brPoll H2.out.1 HI.out HR.out).mono ?_
    rintro e w3 ⟨a3, k3, cp3, hk3, rfl, hb3, hkp3, ho3⟩
    have H3 := Lib.hid (And.intro hb3 (And.intro (ids_stay H2.out.2 hkp3 HLT.out) ho3))
    have HK3 := Lib.hid hk3
    clear hb3 ho3 hk3 hkp3 c0 c1 c2
    go_wp2_with fail
    refine (cEqInts _ _ l l _ (own_i H3.out.2.1) (own_i H3.out.2.2)).mono ?_
    rintro e w4 ⟨rfl, hb4⟩
    rw [decide_eq_true rfl]
    have H4 := Lib.hid (H3.out.1.below hb4).st
    clear hb4
    go_wp2
    go_ret
    exact ⟨ret_bool (by simp), _, H4.out, (HR.out.gi HI.out).mono (Nat.le_succ _)⟩
set_option maxHeartbeats 4000000 in
set_option maxRecDepth 100000 in
theorem cSameG (h : G2 W w B p B2 d r m n g g) (hI : GI n b g) :
    Calls Try.prog 9 #[.pointer (some ⟨B, 0, none⟩), .pointer (some ⟨B2, 0, none⟩)] w fun e w' => e = .returned (.bool true) ∧ Below w.heap.size w w' := by
  obtain ⟨vs, ha⟩ := h.pa
  obtain ⟨vr, hr⟩ := h.pr
  have HA := Lib.hid ha
  have HR := Lib.hid hr
  have HI := Lib.hid hI
  obtain ⟨q, hq⟩ : ∃ q, anyB g.aw n = q := ⟨_, rfl⟩
  have HQ := Lib.hid hq
  clear h ha hr hI hq
  go_enter Try.func9, Try.ntmps9
  go_wp2_with fail
  refine (cDone HA.out HI.out.n1 HI.out.off q HQ.out).mono ?_
  rintro e w1 ⟨rfl, hb1⟩
  have HB1 := Lib.hid hb1
  clear hb1
  go_wp2_with fail
  refine (rDone (HR.out.below HB1.out)).mono ?_
  rintro e w2 ⟨rfl, hb2⟩
  rw [HQ.out]
  have HB2 := Lib.hid (HB1.out.trans (hb2.mono HB1.out.size))
  clear hb2
  generalize (g.nd : Int) = D
  have hqq : (q != q) = false := by simp
  have hdd : (D != D) = false := by simp
  go_wp2
  go_loopw [9] (fun i wr => ∃ y : Int, i = .int .i64 y ∧ -1 ≤ y ∧ y ≤ 9 ∧ wr = w2) (fun i _ => (9 - intOf i).toNat)
  case atStart => exact ⟨-1, rfl, by omega, by omega, rfl⟩
  case round =>
    obtain ⟨y, rfl, hy1, hy2, rfl⟩ := hrel
    by_cases hy : y < 9
    · obtain ⟨x1, hx1⟩ : ∃ x, depF n g y = x := ⟨_, rfl⟩
      obtain ⟨x2, hx2⟩ : ∃ x, waiF n g y = x := ⟨_, rfl⟩
      obtain ⟨x3, hx3⟩ : ∃ x, wanF n g y = x := ⟨_, rfl⟩
      have HX := Lib.hid (And.intro hx1 (And.intro hx2 hx3))
      have HA2 := Lib.hid (HA.out.below HB2.out)
      have HR2 := Lib.hid (HR.out.below HB2.out)
      have e1 : (x1 != x1) = false := by simp
      have e2 : (x2 != x2) = false := by simp
      have e3 : (x3 != x3) = false := by simp
      clear hx1 hx2 hx3
      go_wp2_with fail
      refine (cDepth HA2.out HI.out.n1 x1 HX.out.1).mono ?_
      rintro e w3 ⟨rfl, rfl⟩
      go_wp2_with fail
      refine (rDepth HR2.out x1 HX.out.1).mono ?_
      rintro e w3 ⟨rfl, rfl⟩
      go_wp2_with fail
      refine (cWaits HA2.out HI.out.n1 x2 HX.out.2.1).mono ?_
      rintro e w3 ⟨rfl, rfl⟩
      go_wp2_with fail
      refine (rWaits HR2.out x2 HX.out.2.1).mono ?_
      rintro e w3 ⟨rfl, rfl⟩
      go_wp2_with fail
      refine (cWanted HA2.out HI.out.n1 x3 HX.out.2.2).mono ?_
      rintro e w3 ⟨rfl, rfl⟩
      go_wp2_with fail
      refine (rWanted HR2.out x3 HX.out.2.2).mono ?_
      rintro e w3 ⟨rfl, rfl⟩
      go_wp2
      go_roundw
      case rel => exact ⟨y + 1, rfl, by omega, by omega, trivial⟩
      case measure => simp [intOf]; omega
    · obtain rfl : y = 9 := by omega
      go_wp2
      go_ret
      exact ⟨rfl, HB2.out⟩
end
end Go.Proofs.Ytnnpclknlccmiaa
