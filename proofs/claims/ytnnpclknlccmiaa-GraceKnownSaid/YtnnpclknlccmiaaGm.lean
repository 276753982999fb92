/-
  A machine of grace periods: what each call answers, and what holds of it behind each; the arithmetic of it.
-/
import Derived.Test.YtnnpclknlccmiaaReady
set_option linter.unusedVariables false
set_option linter.unusedSimpArgs false
namespace Go.Proofs.Ytnnpclknlccmiaa
open Go Go.RowKit

def upd {α : Type} (f : Nat → α) (c : Nat) (x : α) : Nat → α := fun i => if i = c then x else f i
theorem upd_same {α : Type} (f : Nat → α) (c : Nat) (x : α) : upd f c x c = x := if_pos rfl
theorem upd_other {α : Type} (f : Nat → α) {c i : Nat} (x : α) (h : i ≠ c) : upd f c x i = f i := if_neg h
def anyB (a : Nat → Bool) (n : Nat) : Bool := (List.range n).any a
theorem anyB_iff {a : Nat → Bool} {n : Nat} : anyB a n = true ↔ ∃ i, i < n ∧ a i = true := by simp [anyB]
theorem anyB_no {a : Nat → Bool} {n : Nat} : anyB a n = false ↔ ∀ i, i < n → a i = false := by simp [anyB]
/-- depths, records, how many grace periods have ended, whose reports are waited for -/
structure Gr where
  dp : Nat → Nat
  rs : Nat → List Wt
  nd : Nat
  aw : Nat → Bool
def Gr.go (g : Gr) (n : Nat) : Bool := anyB g.aw n
/-- does some record wait for more than d? -/
def Gr.lat (g : Gr) (n : Nat) (d : Int) : Bool := anyB (fun i => decide (cutN d (g.rs i) < (g.rs i).length)) n
def allT (n : Nat) : Nat → Bool := fun i => decide (i < n)
theorem allT_yes {n i : Nat} (h : i < n) : allT n i = true := decide_eq_true h
theorem allT_no {n i : Nat} (h : n ≤ i) : allT n i = false := decide_eq_false (by omega)
theorem any_allT {n : Nat} (h : 1 ≤ n) : anyB (allT n) n = true := anyB_iff.2 ⟨0, by omega, allT_yes (by omega)⟩
/-- no record waits for more than d -/
def Top (g : Gr) (n : Nat) (d : Int) : Prop := ∀ i, i < n → ∀ y ∈ g.rs i, y.due ≤ d
theorem wt_mem {l : List Wt} {j : Nat} (h : j < l.length) : wt l j ∈ l := by rw [← wt_at l j h]; exact List.getElem_mem h
theorem mem_wt {l : List Wt} {y : Wt} (h : y ∈ l) : ∃ j, j < l.length ∧ y = wt l j := by
  obtain ⟨j, hj, e⟩ := List.mem_iff_getElem.1 h
  exact ⟨j, hj, by rw [← wt_at l j hj, e]⟩
theorem cut_all {d : Int} {l : List Wt} : ¬ cutN d l < l.length ↔ ∀ y ∈ l, y.due ≤ d := by
  constructor
  · intro h y hy
    obtain ⟨j, hj, rfl⟩ := mem_wt hy
    exact cutN_lt d l j (by omega)
  · intro h hlt
    have h1 := cutN_at d l hlt
    have h2 := h _ (wt_mem hlt)
    omega
theorem lat_no {g : Gr} {n : Nat} {d : Int} : g.lat n d = false ↔ Top g n d := by
  unfold Gr.lat Top
  rw [anyB_no]
  constructor
  · intro h i hi
    exact cut_all.1 (by simpa using h i hi)
  · intro h i hi
    simpa using cut_all.2 (h i hi)
/-- the last one tells it -/
theorem cut_last {d : Int} {l : List Wt} (h : chkF l = 0) : cutN d l < l.length ↔ 0 < l.length ∧ d < (wt l (l.length - 1)).due := by
  constructor
  · intro hlt
    refine ⟨by omega, ?_⟩
    have h1 := cutN_at d l hlt
    have h2 := due_le (chk_go.1 h).2 (i := cutN d l) (j := l.length - 1) (by omega) (by omega)
    omega
  · rintro ⟨h1, h2⟩
    rcases Nat.lt_or_ge (cutN d l) l.length with h3 | h3
    · exact h3
    · have := cutN_lt d l (l.length - 1) (by omega)
      omega
theorem goB_snoc (m : Int) (l : List Wt) (x : Wt) (h : goB m l = true) (hm : m ≤ x.due) (hl : ∀ y ∈ l, y.due ≤ x.due) (h1 : 0 ≤ x.who ∧ x.who ≤ 9007199254740991) (h2 : x.due ≤ 9007199254740991) : goB m (l ++ [x]) = true := by
  induction l generalizing m with
  | nil => exact goB_iff.2 ⟨⟨h1.1, h1.2, hm, h2⟩, rfl⟩
  | cons y r ih =>
    rw [goB_iff] at h
    exact goB_iff.2 ⟨h.1, ih y.due h.2 (hl y (by simp)) (fun z hz => hl z (by simp [hz]))⟩
theorem chk_snoc {l : List Wt} {x : Wt} (h : chkF l = 0) (hn : l.length ≠ 256) (hl : ∀ y ∈ l, y.due ≤ x.due) (h1 : 0 ≤ x.who ∧ x.who ≤ 9007199254740991) (h2 : 1 ≤ x.due ∧ x.due ≤ 9007199254740991) : chkF (l ++ [x]) = 0 := by
  obtain ⟨a, b⟩ := chk_go.1 h
  exact chk_go.2 ⟨by simp; omega, goB_snoc 1 l x b h2.1 hl h1 h2.2⟩
/-- what holds behind each call: b is more than have ended -/
structure GI (n b : Nat) (g : Gr) : Prop where
  n1 : 1 ≤ n ∧ n ≤ 8
  dp : ∀ i, i < n → g.dp i ≤ 8
  chk : ∀ i, i < n → chkF (g.rs i) = 0
  due : Top g n (g.nd + 2)
  idle : anyB g.aw n = false → Top g n g.nd
  big : g.nd ≤ b
  off : ∀ i, n ≤ i → g.aw i = false
theorem GI.mono {n b c : Nat} {g : Gr} (h : GI n b g) (hb : b ≤ c) : GI n c g := ⟨h.n1, h.dp, h.chk, h.due, h.idle, Nat.le_trans h.big hb, h.off⟩
theorem GI.len {n b : Nat} {g : Gr} (h : GI n b g) {i : Nat} (hi : i < n) : (g.rs i).length ≤ 256 := chk_len (h.chk i hi)
def noG : Gr := ⟨fun _ => 0, fun _ => [], 0, fun _ => false⟩
theorem GI.new {n : Nat} (h : 1 ≤ n ∧ n ≤ 8) : GI n 0 noG := ⟨h, fun _ _ => Nat.zero_le _, fun _ _ => rfl, fun _ _ y hy => by simp [noG] at hy, fun _ _ _ y hy => by simp [noG] at hy, Nat.le_refl _, fun _ _ => rfl⟩
/-- is it a processor? -/
def isP (n : Nat) (cpu : Int) : Prop := 0 ≤ cpu ∧ cpu < n
instance (n : Nat) (cpu : Int) : Decidable (isP n cpu) := by unfold isP; infer_instance
theorem isP_mk {n c : Nat} (h : c < n) : isP n (c : Int) := ⟨by omega, by omega⟩
theorem isP_nat {n : Nat} {cpu : Int} (h : isP n cpu) : ∃ c : Nat, cpu = c ∧ c < n := ⟨cpu.toNat, by have := h.1; omega, by have := h.1; have := h.2; omega⟩
def Gr.deep (g : Gr) (c d : Nat) : Gr := { g with dp := upd g.dp c d }
def Gr.told (g : Gr) (c : Nat) : Gr := { g with aw := upd g.aw c false }
def Gr.over (g : Gr) (c : Nat) : Gr := { g with aw := upd g.aw c false, nd := g.nd + 1 }
def Gr.over2 (g : Gr) (n c : Nat) : Gr := { g with aw := allT n, nd := g.nd + 1 }
def Gr.row (g : Gr) (c : Nat) (l : List Wt) : Gr := { g with rs := upd g.rs c l }
def Gr.row2 (g : Gr) (n c : Nat) (l : List Wt) : Gr := { g with rs := upd g.rs c l, aw := allT n }
/-- what Lock, Unlock, Quiet, Call, Poll answer, and the machine behind it -/
inductive LockIs (n : Nat) (g : Gr) : Int → Int → Gr → Prop
  | no (cpu : Int) : ¬ isP n cpu → LockIs n g cpu 9 g
  | full (c : Nat) : c < n → g.dp c = 8 → LockIs n g c 5 g
  | ok (c : Nat) : c < n → g.dp c < 8 → LockIs n g c 0 (g.deep c (g.dp c + 1))
inductive UnlockIs (n : Nat) (g : Gr) : Int → Int → Gr → Prop
  | no (cpu : Int) : ¬ isP n cpu → UnlockIs n g cpu 9 g
  | none (c : Nat) : c < n → g.dp c = 0 → UnlockIs n g c 292 g
  | ok (c d : Nat) : c < n → g.dp c = d + 1 → UnlockIs n g c 0 (g.deep c d)
inductive QuietIs (n : Nat) (g : Gr) : Int → Int → Gr → Prop
  | no (cpu : Int) : ¬ isP n cpu → QuietIs n g cpu 9 g
  | deep (c : Nat) : c < n → 0 < g.dp c → QuietIs n g c 292 g
  | idle (c : Nat) : c < n → g.dp c = 0 → g.aw c = false → QuietIs n g c 0 g
  | more (c : Nat) : c < n → g.dp c = 0 → g.aw c = true → anyB (upd g.aw c false) n = true → QuietIs n g c 0 (g.told c)
  | last (c : Nat) : c < n → g.dp c = 0 → g.aw c = true → anyB (upd g.aw c false) n = false → g.lat n (g.nd + 1) = false → QuietIs n g c 0 (g.over c)
  | next (c : Nat) : c < n → g.dp c = 0 → g.aw c = true → anyB (upd g.aw c false) n = false → g.lat n (g.nd + 1) = true → QuietIs n g c 0 (g.over2 n c)
inductive CallIs (n : Nat) (g : Gr) : Int → Int → Int → Gr → Prop
  | no (cpu id : Int) : ¬ isP n cpu → CallIs n g cpu id 9 g
  | arg (c : Nat) (id : Int) : c < n → ¬ (0 ≤ id ∧ id ≤ 9007199254740991) → CallIs n g c id 2 g
  | full (c : Nat) (id : Int) : c < n → (0 ≤ id ∧ id ≤ 9007199254740991) → (g.rs c).length = 256 → CallIs n g c id 5 g
  | first (c : Nat) (id : Int) : c < n → (0 ≤ id ∧ id ≤ 9007199254740991) → (g.rs c).length ≠ 256 → anyB g.aw n = false → CallIs n g c id 0 (g.row2 n c (g.rs c ++ [⟨id, g.nd + 1⟩]))
  | later (c : Nat) (id : Int) : c < n → (0 ≤ id ∧ id ≤ 9007199254740991) → (g.rs c).length ≠ 256 → anyB g.aw n = true → CallIs n g c id 0 (g.row c (g.rs c ++ [⟨id, g.nd + 2⟩]))
inductive PollIs (n : Nat) (g : Gr) : Int → List Int → Int → Gr → Prop
  | no (cpu : Int) : ¬ isP n cpu → PollIs n g cpu [] 9 g
  | ok (c : Nat) : c < n → PollIs n g c (ids ((g.rs c).take (cutN g.nd (g.rs c)))) 0 (g.row c ((g.rs c).drop (cutN g.nd (g.rs c))))
theorem lock_is (n : Nat) (g : Gr) (h : ∀ i, i < n → g.dp i ≤ 8) (cpu : Int) : ∃ e g', LockIs n g cpu e g' := by
  by_cases hp : isP n cpu
  · obtain ⟨c, rfl, hc⟩ := isP_nat hp
    by_cases h8 : g.dp c = 8
    · exact ⟨_, _, .full c hc h8⟩
    · exact ⟨_, _, .ok c hc (by have := h c hc; omega)⟩
  · exact ⟨_, _, .no cpu hp⟩
theorem unlock_is (n : Nat) (g : Gr) (cpu : Int) : ∃ e g', UnlockIs n g cpu e g' := by
  by_cases hp : isP n cpu
  · obtain ⟨c, rfl, hc⟩ := isP_nat hp
    cases h8 : g.dp c with
    | zero => exact ⟨_, _, .none c hc h8⟩
    | succ d => exact ⟨_, _, .ok c d hc h8⟩
  · exact ⟨_, _, .no cpu hp⟩
theorem quiet_is (n : Nat) (g : Gr) (cpu : Int) : ∃ e g', QuietIs n g cpu e g' := by
  by_cases hp : isP n cpu
  · obtain ⟨c, rfl, hc⟩ := isP_nat hp
    by_cases h0 : g.dp c = 0
    · cases ha : g.aw c with
      | false => exact ⟨_, _, .idle c hc h0 ha⟩
      | true =>
        cases hm : anyB (upd g.aw c false) n with
        | true => exact ⟨_, _, .more c hc h0 ha hm⟩
        | false =>
          cases hl : g.lat n (g.nd + 1) with
          | false => exact ⟨_, _, .last c hc h0 ha hm hl⟩
          | true => exact ⟨_, _, .next c hc h0 ha hm hl⟩
    · exact ⟨_, _, .deep c hc (by omega)⟩
  · exact ⟨_, _, .no cpu hp⟩
theorem call_is (n : Nat) (g : Gr) (cpu id : Int) : ∃ e g', CallIs n g cpu id e g' := by
  by_cases hp : isP n cpu
  · obtain ⟨c, rfl, hc⟩ := isP_nat hp
    by_cases hi : 0 ≤ id ∧ id ≤ 9007199254740991
    · by_cases hl : (g.rs c).length = 256
      · exact ⟨_, _, .full c id hc hi hl⟩
      · cases ha : anyB g.aw n with
        | false => exact ⟨_, _, .first c id hc hi hl ha⟩
        | true => exact ⟨_, _, .later c id hc hi hl ha⟩
    · exact ⟨_, _, .arg c id hc hi⟩
  · exact ⟨_, _, .no cpu id hp⟩
theorem poll_is (n : Nat) (g : Gr) (cpu : Int) : ∃ l e g', PollIs n g cpu l e g' := by
  by_cases hp : isP n cpu
  · obtain ⟨c, rfl, hc⟩ := isP_nat hp
    exact ⟨_, _, _, .ok c hc⟩
  · exact ⟨_, _, _, .no cpu hp⟩
section
variable {n b : Nat} {g g' : Gr} {cpu id e : Int} {l : List Int}
theorem GI.deep (h : GI n b g) {c d : Nat} (hd : d ≤ 8) : GI n b (g.deep c d) := by
  refine ⟨h.n1, fun i hi => ?_, h.chk, h.due, h.idle, h.big, h.off⟩
  show upd g.dp c d i ≤ 8
  by_cases e : i = c
  · subst e; rw [upd_same]; exact hd
  · rw [upd_other _ _ e]; exact h.dp i hi
theorem LockIs.gi (hr : LockIs n g cpu e g') (h : GI n b g) : GI n b g' := by
  cases hr with
  | no _ _ => exact h
  | full _ _ _ => exact h
  | ok c hc hd => exact h.deep (by omega)
theorem UnlockIs.gi (hr : UnlockIs n g cpu e g') (h : GI n b g) : GI n b g' := by
  cases hr with
  | no _ _ => exact h
  | none _ _ _ => exact h
  | ok c d hc hd => exact h.deep (by have := h.dp c hc; omega)
theorem QuietIs.gi (hr : QuietIs n g cpu e g') (h : GI n b g) : GI n (b + 1) g' := by
  have h0 := h.mono (Nat.le_succ b)
  cases hr with
  | no _ _ => exact h0
  | deep _ _ _ => exact h0
  | idle _ _ _ _ => exact h0
  | more c hc _ _ hm =>
    refine ⟨h.n1, h.dp, h.chk, h.due, fun e => ?_, h0.big, fun i hi => ?_⟩
    · have : anyB (upd g.aw c false) n = false := e
      rw [hm] at this; cases this
    · show upd g.aw c false i = false
      rw [upd_other _ _ (by omega)]
      exact h.off i hi
  | last c hc _ _ hm hl =>
    refine ⟨h.n1, h.dp, h.chk, fun i hi y hy => ?_, fun _ i hi y hy => ?_, Nat.succ_le_succ h.big, fun i hi => ?_⟩
    · have := h.due i hi y hy
      show y.due ≤ ((g.nd + 1 : Nat) : Int) + 2
      omega
    · have := lat_no.1 hl i hi y hy
      show y.due ≤ ((g.nd + 1 : Nat) : Int)
      omega
    · show upd g.aw c false i = false
      rw [upd_other _ _ (by omega)]
      exact h.off i hi
  | next c hc _ _ hm hl =>
    refine ⟨h.n1, h.dp, h.chk, fun i hi y hy => ?_, fun e => ?_, Nat.succ_le_succ h.big, fun i hi => allT_no hi⟩
    · have := h.due i hi y hy
      show y.due ≤ ((g.nd + 1 : Nat) : Int) + 2
      omega
    · have : anyB (allT n) n = false := e
      rw [any_allT h.n1.1] at this; cases this
theorem top_row {c : Nat} {r : List Wt} {d : Int} (h : Top g n d) (hr : ∀ y ∈ r, y.due ≤ d) : ∀ i, i < n → ∀ y ∈ upd g.rs c r i, y.due ≤ d := by
  intro i hi y hy
  by_cases e : i = c
  · subst e; rw [upd_same] at hy; exact hr y hy
  · rw [upd_other _ _ e] at hy; exact h i hi y hy
theorem chk_row {c : Nat} {r : List Wt} (h : ∀ i, i < n → chkF (g.rs i) = 0) (hr : chkF r = 0) : ∀ i, i < n → chkF (upd g.rs c r i) = 0 := by
  intro i hi
  by_cases e : i = c
  · subst e; rw [upd_same]; exact hr
  · rw [upd_other _ _ e]; exact h i hi
theorem GI.snoc (h : GI n b g) (hb : b ≤ 1000) {c : Nat} (hc : c < n) (hi : 0 ≤ id ∧ id ≤ 9007199254740991) (hl : (g.rs c).length ≠ 256) (ha : anyB g.aw n = false) : chkF (g.rs c ++ [⟨id, g.nd + 1⟩]) = 0 := by
  have hbig := h.big
  refine chk_snoc (h.chk c hc) hl (fun y hy => ?_) hi ⟨?_, ?_⟩
  · have := h.idle ha c hc y hy; dsimp only; omega
  · dsimp only; omega
  · dsimp only; omega
theorem GI.snoc2 (h : GI n b g) (hb : b ≤ 1000) {c : Nat} (hc : c < n) (hi : 0 ≤ id ∧ id ≤ 9007199254740991) (hl : (g.rs c).length ≠ 256) : chkF (g.rs c ++ [⟨id, g.nd + 2⟩]) = 0 := by
  have hbig := h.big
  refine chk_snoc (h.chk c hc) hl (fun y hy => h.due c hc y hy) hi ⟨?_, ?_⟩
  · dsimp only; omega
  · dsimp only; omega
theorem CallIs.gi (hr : CallIs n g cpu id e g') (h : GI n b g) (hb : b ≤ 1000) : GI n b g' := by
  cases hr with
  | no _ _ _ => exact h
  | arg _ _ _ _ => exact h
  | full _ _ _ _ _ => exact h
  | first c _ hc hi hl ha =>
    refine ⟨h.n1, h.dp, chk_row h.chk (h.snoc hb hc hi hl ha), top_row h.due (fun y hy => ?_), fun e => ?_, h.big, fun i hi => allT_no hi⟩
    · rcases List.mem_append.1 hy with hy | hy
      · exact h.due c hc y hy
      · obtain rfl : y = _ := List.mem_singleton.1 hy
        show (g.nd : Int) + 1 ≤ g.nd + 2
        omega
    · have : anyB (allT n) n = false := e
      rw [any_allT h.n1.1] at this; cases this
  | later c _ hc hi hl ha =>
    refine ⟨h.n1, h.dp, chk_row h.chk (h.snoc2 hb hc hi hl), top_row h.due (fun y hy => ?_), fun e => ?_, h.big, h.off⟩
    · rcases List.mem_append.1 hy with hy | hy
      · exact h.due c hc y hy
      · obtain rfl : y = _ := List.mem_singleton.1 hy
        exact Int.le_refl _
    · have : anyB g.aw n = false := e
      rw [ha] at this; cases this
theorem PollIs.gi (hr : PollIs n g cpu l e g') (h : GI n b g) : GI n b g' := by
  cases hr with
  | no _ _ => exact h
  | ok c hc =>
    refine ⟨h.n1, h.dp, chk_row h.chk (chk_drop (h.chk c hc) _), top_row h.due (fun y hy => h.due c hc y (List.mem_of_mem_drop hy)), fun e => top_row (h.idle e) (fun y hy => h.idle e c hc y (List.mem_of_mem_drop hy)), h.big, h.off⟩
theorem PollIs.out (hr : PollIs n g cpu l e g') (h : GI n b g) : l.length ≤ 256 := by
  cases hr with
  | no _ _ => simp
  | ok c hc =>
    have := h.len hc
    rw [ids_length, List.length_take]
    omega
end
/-- what Depth, Waits, Wanted answer -/
def depF (n : Nat) (g : Gr) (cpu : Int) : Int := if isP n cpu then (g.dp cpu.toNat : Int) else 0
def waiF (n : Nat) (g : Gr) (cpu : Int) : Int := if isP n cpu then ((g.rs cpu.toNat).length : Int) else 0
def wanF (n : Nat) (g : Gr) (cpu : Int) : Bool := if isP n cpu then g.aw cpu.toNat else false
theorem dep_yes {n c : Nat} (g : Gr) (h : c < n) : depF n g c = g.dp c := by rw [depF, if_pos (isP_mk h), Int.toNat_natCast]
theorem dep_no {n : Nat} (g : Gr) {cpu : Int} (h : ¬ isP n cpu) : depF n g cpu = 0 := by rw [depF, if_neg h]
theorem wai_yes {n c : Nat} (g : Gr) (h : c < n) : waiF n g c = (g.rs c).length := by rw [waiF, if_pos (isP_mk h), Int.toNat_natCast]
theorem wai_no {n : Nat} (g : Gr) {cpu : Int} (h : ¬ isP n cpu) : waiF n g cpu = 0 := by rw [waiF, if_neg h]
theorem wan_yes {n c : Nat} (g : Gr) (h : c < n) : wanF n g c = g.aw c := by rw [wanF, if_pos (isP_mk h), Int.toNat_natCast]
theorem wan_no {n : Nat} (g : Gr) {cpu : Int} (h : ¬ isP n cpu) : wanF n g cpu = false := by rw [wanF, if_neg h]
end Go.Proofs.Ytnnpclknlccmiaa
