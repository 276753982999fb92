/-
  Lists of calls, four numbers each; what is out of a Zone, as a row of pairs: what holds, call by call.
-/
import Derived.Test.YtlljomnpdgmifaaZW
set_option linter.unusedVariables false
set_option linter.unusedSimpArgs false
namespace Go.Proofs.Ytlljomnpdgmifaa
open Go Go.RowKit

structure Qd where
  kind : Int
  cpu : Int
  a : Int
  b : Int
  deriving Inhabited
def Qd.cells (x : Qd) : List Value := [.int .i64 x.kind, .int .i64 x.cpu, .int .i64 x.a, .int .i64 x.b]
def qz : Qd := ⟨0, 0, 0, 0⟩
def qd (l : List Qd) (i : Nat) : Qd := l.getD i qz
theorem qd_at (l : List Qd) (i : Nat) (h : i < l.length) : l[i] = qd l i := by simp [qd, h]
abbrev qds (l : List Qd) : List Value := l.flatMap Qd.cells
def ShowD (w : World) (v : Value) (l : List Qd) : Prop := Shows w v l.length 4 (qds l)
theorem qds_length (l : List Qd) : (qds l).length = l.length * 4 := by
  induction l with
  | nil => rfl
  | cons c r ih => simp only [qds, List.flatMap_cons, List.length_append, List.length_cons] at *; simp only [ih, Qd.cells, List.length_cons, List.length_nil]; omega
theorem qds_at (l : List Qd) (i j : Nat) (hi : i < l.length) (hj : j < 4) : (qds l)[i * 4 + j]? = some (l[i].cells[j]'(by simpa [Qd.cells] using hj)) := by
  induction l generalizing i with
  | nil => simp at hi
  | cons c r ih =>
    cases i with
    | zero =>
      simp only [qds, List.flatMap_cons, Nat.zero_mul, Nat.zero_add]
      rw [List.getElem?_append_left (by simpa [Qd.cells] using hj)]
      simp [Qd.cells, hj]
    | succ i =>
      simp only [qds, List.flatMap_cons]
      rw [List.getElem?_append_right (by simp [Qd.cells]; omega)]
      have := ih i (by simpa using hi)
      simp only [qds] at this
      have e : (i + 1) * 4 + j - c.cells.length = i * 4 + j := by simp [Qd.cells]; omega
      rw [e, this]
      simp
theorem ShowD.form {w : World} {v : Value} {l : List Qd} (h : ShowD w v l) : ∃ ao cap, v = .slice ao l.length cap ∧ (l.length ≤ cap ∧ cap ≤ 9223372036854775807) ∧
    ∀ i, i < l.length → ∃ b o, ao = some ⟨b, o, none⟩ ∧ w.cell? ⟨b, o + i * 4, none⟩ = some (.int .i64 (qd l i).kind) ∧ w.cell? ⟨b, o + i * 4 + 1, none⟩ = some (.int .i64 (qd l i).cpu) ∧ w.cell? ⟨b, o + i * 4 + 2, none⟩ = some (.int .i64 (qd l i).a) ∧ w.cell? ⟨b, o + i * 4 + 3, none⟩ = some (.int .i64 (qd l i).b) := by
  obtain ⟨hl, ao, cap, hv, hc, hs⟩ := h
  refine ⟨ao, cap, hv, by unfold maxLen at hc; omega, fun i hi => ?_⟩
  obtain ⟨b, o, ha, hx⟩ := hs (by omega)
  rw [← qd_at l i hi]
  refine ⟨b, o, ha, ?_, ?_, ?_, ?_⟩
  · have := hx (i * 4 + 0) (by omega); rw [qds_at l i 0 hi (by omega)] at this; exact this
  · have := hx (i * 4 + 1) (by omega); rw [qds_at l i 1 hi (by omega)] at this; exact this
  · have := hx (i * 4 + 2) (by omega); rw [qds_at l i 2 hi (by omega)] at this; exact this
  · have := hx (i * 4 + 3) (by omega); rw [qds_at l i 3 hi (by omega)] at this; exact this
theorem ShowD.below {w w' : World} {v : Value} {l : List Qd} (h : ShowD w v l) (hb : Below w.heap.size w w') : ShowD w' v l := Shows.below h hb
theorem ShowD.nil (w : World) : ShowD w (.slice none 0 0) [] := Shows.nil w 4
/-! ### pairs, as a row -/
abbrev G := Nat → Nat × Nat
def prs (g : G) : Nat → List Value
  | 0 => []
  | k + 1 => prs g k ++ [.int .i64 ((g k).1 : Int), .int .i64 ((g k).2 : Int)]
theorem prs_length (g : G) (M : Nat) : (prs g M).length = M * 2 := by
  induction M with
  | zero => rfl
  | succ M ih => simp [prs, ih]; omega
theorem prs_congr {g h : G} {M : Nat} (e : ∀ i, i < M → g i = h i) : prs g M = prs h M := by
  induction M with
  | zero => rfl
  | succ M ih => simp only [prs]; rw [ih (fun i hi => e i (by omega)), e M (by omega)]
theorem prs_at (g : G) {M i : Nat} (h : i < M) : (prs g M)[i * 2]? = some (.int .i64 ((g i).1 : Int)) ∧ (prs g M)[i * 2 + 1]? = some (.int .i64 ((g i).2 : Int)) := by
  induction M with
  | zero => omega
  | succ M ih =>
    simp only [prs]
    have hl := prs_length g M
    by_cases e : i = M
    · subst e
      rw [List.getElem?_append_right (by omega), List.getElem?_append_right (by omega), hl]
      rw [show i * 2 - i * 2 = 0 by omega, show i * 2 + 1 - i * 2 = 1 by omega]
      exact ⟨rfl, rfl⟩
    · rw [List.getElem?_append_left (by omega), List.getElem?_append_left (by omega)]
      exact ih (by omega)
theorem prs_snoc (g : G) (M p o : Nat) : prs g M ++ [.int .i64 (p : Int), .int .i64 (o : Int)] = prs (fun i => if i = M then (p, o) else g i) (M + 1) := by
  simp only [prs, if_true]
  rw [prs_congr (g := fun i => if i = M then (p, o) else g i) (h := g) (fun i hi => by rw [if_neg (by omega)])]
/-- the last one in the place of the k-th -/
def sw (g : G) (M k : Nat) : G := fun i => if i = k then g (M - 1) else g i
theorem infoA : (Try.prog.info? 42).map (fun i => (i.zero, i.size, i.bytes)) = some (some (.agg #[.int .i64 0, .int .i64 0]), 2, 16) := by kernel_rfl
theorem new2 (w : World) (a b : Value) (t : TypeId) : ∀ j u, [a, b][j]? = some u → (w.alloc (.cells #[a, b] t)).cell? ((⟨w.heap.size, 0, none⟩ : Addr).add j) = some u := by
  intro j u h
  have hb := heap_new w (.cells #[a, b] t)
  rw [plain_add, Nat.zero_add]
  exact self_cell hb j u (by simpa using h)
/-- a Zone of three processors to which calls are done, and what is out of it -/
structure Pw (W w : World) (z : Nat) (N : Zn) (m : Nat) (l : List Pg) (f : F) (t : Int → Option Pg) (g : G) (M : Nat) (v : Value) : Prop where
  zt : Zt W w z N 3 l f t
  len : l.length = m
  own : w.ownsRow W.heap.size 42 2 v M (prs g M)
  inj : ∀ i j, i < M → j < M → (g i).1 = (g j).1 → i = j
  outs : ∀ i, i < M → ∃ c, ot 3 l f (g i).1 = some ⟨2, ((g i).2 : Int), c⟩
  all : ∀ q, ot 3 l f q ≠ none → ∃ i, i < M ∧ (g i).1 = q
  bal : used l = cnt 3 f + sumTo (fun i => 2 ^ (g i).2) M
section
variable {W w w' w5 : World} {z m M : Nat} {N N' : Zn} {l l' : List Pg} {f f' : F} {t t' : Int → Option Pg} {g : G} {v : Value}
theorem ZB.own_row {n Bs k : Nat} {xs : List Value} (h : ZB w z N n l f t) (hr : w.ownsRow Bs 42 k v M xs) : ∀ j, v.ownBlock = some j → ¬ ZOwn n z N j := fun j e => by
  rcases hr.2 with ⟨e0, _⟩ | ⟨r, cap, cur, e0, _, hb, _⟩
  · rw [e0] at e; simp [Value.ownBlock] at e
  · rw [e0] at e
    obtain rfl : r = j := by simpa [Value.ownBlock] using e
    exact h.not_own hb (by decide) (by decide) (by decide) (by decide) (by decide) (by decide)
theorem Pw.ownKept (h : Pw W w z N m l f t g M v) (hk : ZGoes w w' 3 z N N') : w'.ownsRow W.heap.size 42 2 v M (prs g M) := own_kept h.own hk.1 (h.zt.zc.zb.own_row h.own)
theorem Pw.below (h : Pw W w z N m l f t g M v) (hb : Below w.heap.size w w') : Pw W w' z N m l f t g M v :=
  ⟨h.zt.below hb, h.len, own_below h.own hb, h.inj, h.outs, h.all, h.bal⟩
theorem Pw.start (h : Zt W w z N 3 (ini m) noF t) : Pw W w z N m (ini m) noF t (fun _ => (0, 0)) 0 (.slice none 0 0) :=
  ⟨h, ini_length m, World.ownsRow_nil _ _ _ _, fun i j hi => by omega, fun i hi => by omega, fun q hq => absurd (ini_ot 3 m q) hq, by
    rw [none_used (fun i hi => (ini_is m).free i (by rwa [ini_length] at hi))]
    rfl⟩
/-- nothing goes out -/
theorem Pw.same (h : Pw W w z N m l f t g M v) (hz : Zt W w' z N' 3 l' f' t') (hg : ZGoes w w' 3 z N N') (hs : Zs 3 l f l' f') : Pw W w' z N' m l' f' t' g M v :=
  ⟨hz, hs.len.trans h.len, h.ownKept hg, h.inj, fun i hi => by rw [hs.ot]; exact h.outs i hi, fun q hq => h.all q (by rw [← hs.ot]; exact hq), by have := hs.bal; have := h.bal; omega⟩
/-- a block more is out -/
theorem Pw.more {v' : Value} {o' : Obj} {p o : Nat} {c : Int} (h : Pw W w z N m l f t g M v) (hz : Zt W w' z N' 3 l' f' t') (ha : Za 3 l f l' f' p o c)
    (hrow : w'.ownsRow W.heap.size 42 2 v M (prs g M))
    (hown : w5.ownsRow W.heap.size 42 2 v' (M + 1) (prs g M ++ [.int .i64 (p : Int), .int .i64 (o : Int)])) (hg : (w'.alloc o').grownBy w5 v.ownBlock) : Pw W w5 z N' m l' f' t' (fun i => if i = M then (p, o) else g i) (M + 1) v' := by
  have hk : Kept (fun k => v.ownBlock = some k) (w'.alloc o') w5 := ⟨hg.os, hg.tape, hg.output, hg.size, fun k h1 h2 => hg.block k h1 (fun e => h2 e.symm)⟩
  have hzb : Zt W (w'.alloc o') z N' 3 l' f' t' := hz.below (below_one (Below.refl _ _) _)
  have hno := hz.zc.zb.own_row hrow
  have hge : ∀ k, v.ownBlock = some k → W.heap.size ≤ k := own_ge hrow
  have hne : ∀ i, i < M → (g i).1 ≠ p := fun i hi e => by
    obtain ⟨c', hc'⟩ := h.outs i hi
    rw [e, ha.ot0] at hc'
    cases hc'
  refine ⟨⟨hzb.zc.kept hk (fun k o e => hno k e o), below_kept hzb.low hk hge, hzb.ge⟩, ha.len.trans h.len, by rw [← prs_snoc]; exact hown, fun i j hi hj e => ?_, fun i hi => ?_, fun q hq => ?_, ?_⟩
  · by_cases h4 : i = M <;> by_cases h5 : j = M
    · omega
    · rw [if_pos h4, if_neg h5] at e
      exact absurd e.symm (hne j (by omega))
    · rw [if_neg h4, if_pos h5] at e
      exact absurd e (hne i (by omega))
    · rw [if_neg h4, if_neg h5] at e
      exact h.inj i j (by omega) (by omega) e
  · by_cases h4 : i = M
    · rw [if_pos h4]
      exact ⟨c, ha.ot1⟩
    · rw [if_neg h4]
      rw [ha.ot _ (hne i (by omega))]
      exact h.outs i (by omega)
  · by_cases e : q = p
    · exact ⟨M, by omega, by rw [if_pos rfl, e]⟩
    · rw [ha.ot q e] at hq
      obtain ⟨i, h1, h2⟩ := h.all q hq
      exact ⟨i, by omega, by rw [if_neg (by omega)]; exact h2⟩
  · have h1 := ha.bal
    have h2 := h.bal
    simp only [sumTo, if_true]
    rw [sum_same (u := fun i => 2 ^ (if i = M then (p, o) else g i).2) (v := fun i => 2 ^ (g i).2) (fun i hi => by rw [if_neg (by omega)])]
    omega
theorem own_cells2 {Bs hb cap : Nat} (h : w.ownsRow Bs 42 2 (.slice (some ⟨hb, 0, none⟩) M cap) M (prs g M)) : (∀ i, i < M → w.cell? ⟨hb, i * 2, none⟩ = some (.int .i64 ((g i).1 : Int)) ∧ w.cell? ⟨hb, i * 2 + 1, none⟩ = some (.int .i64 ((g i).2 : Int))) ∧ ∀ j, w.frozen? ⟨hb, j, none⟩ = false := by
  rcases h.2 with ⟨e, _⟩ | ⟨g', cap', cur, e, hge, hgg, hc1, hc2, hsz, htk⟩
  · cases e
  · cases e
    refine ⟨fun i hi => ?_, fun i => self_free hgg i⟩
    obtain ⟨a1, a2⟩ := prs_at g hi
    rw [← htk, List.getElem?_take, if_pos (by omega)] at a1 a2
    exact ⟨self_cell hgg _ _ (by simpa using a1), self_cell hgg _ _ (by simpa using a2)⟩
theorem sw_sum (g : G) {M k : Nat} (hk : k < M) : sumTo (fun i => 2 ^ (sw g M k i).2) (M - 1) + 2 ^ (g k).2 = sumTo (fun i => 2 ^ (g i).2) M := by
  obtain ⟨K, rfl⟩ : ∃ K, M = K + 1 := ⟨M - 1, by omega⟩
  rw [Nat.add_sub_cancel]
  have e : ∀ i, (sw g (K + 1) k i) = if i = k then g K else g i := fun i => rfl
  by_cases h : k = K
  · subst h
    simp only [sumTo]
    rw [sum_same (u := fun i => 2 ^ (sw g (k + 1) k i).2) (v := fun i => 2 ^ (g i).2) (fun i hi => by rw [e, if_neg (by omega)])]
  · have := sum_one (u := fun i => 2 ^ (sw g (K + 1) k i).2) (v := fun i => 2 ^ (g i).2) (n := K) (p := k) (by omega) (fun i hi hne => by simp only [e, if_neg hne])
    simp only [e, if_true] at this
    simp only [sumTo, e]
    omega
/-- the k-th one that is out is back -/
theorem Pw.less {hb cap k : Nat} (h : Pw W w z N m l f t g M (.slice (some ⟨hb, 0, none⟩) M cap)) (hkM : k < M) (hz : Zt W w' z N' 3 l' f' t') (hg : ZGoes w w' 3 z N N') (hd : Zd 3 l f l' f' (g k).1 (g k).2) :
    Pw W ((w'.setCell ⟨hb, k * 2, none⟩ (.int .i64 ((g (M - 1)).1 : Int))).setCell ⟨hb, k * 2 + 1, none⟩ (.int .i64 ((g (M - 1)).2 : Int))) z N' m l' f' t' (sw g M k) (M - 1) (.slice (some ⟨hb, 0, none⟩) (M - 1) cap) := by
  have hown := h.ownKept hg
  have hno : ¬ ZOwn 3 z N' hb := hz.zc.zb.own_row hown hb rfl
  have hgeb : W.heap.size ≤ hb := own_ge hown hb rfl
  have hk : Kept (· = hb) w' ((w'.setCell ⟨hb, k * 2, none⟩ (.int .i64 ((g (M - 1)).1 : Int))).setCell ⟨hb, k * 2 + 1, none⟩ (.int .i64 ((g (M - 1)).2 : Int))) :=
    Kept.setCell (S := (· = hb)) (p := ⟨hb, k * 2 + 1, none⟩) (Kept.setCell (S := (· = hb)) (p := ⟨hb, k * 2, none⟩) (Kept.refl _ _) rfl _) rfl _
  refine ⟨⟨hz.zc.kept hk (fun j o e => hno (e ▸ o)), below_kept hz.low hk (fun j e => by rw [e]; exact hgeb), hz.ge⟩, hd.len.trans h.len, ?_, fun i j hi hj e => ?_, fun i hi => ?_, fun q hq => ?_, ?_⟩
  · rcases hown.2 with ⟨e, _⟩ | ⟨g', cap', cur, e, hge, hgg, hc1, hc2, hsz, htk⟩
    · cases e
    cases e
    have hcell : ∀ i, i < M → cur[i * 2]? = some (.int .i64 ((g i).1 : Int)) ∧ cur[i * 2 + 1]? = some (.int .i64 ((g i).2 : Int)) := fun i hi => by
      obtain ⟨a1, a2⟩ := prs_at g hi
      rw [← htk, List.getElem?_take, if_pos (by omega)] at a1 a2
      exact ⟨by simpa using a1, by simpa using a2⟩
    refine ⟨by rw [prs_length], .inr ⟨hb, cap, _, rfl, hge, cells_set (cells_set hgg _ _) _ _, by omega, hc2, by simpa using hsz, ?_⟩⟩
    apply List.ext_getElem?
    intro j
    rw [List.getElem?_take]
    by_cases hj : j < (M - 1) * 2
    · rw [if_pos hj]
      obtain ⟨q, r, rfl, hr⟩ : ∃ q r, j = q * 2 + r ∧ r < 2 := ⟨j / 2, j % 2, by omega, by omega⟩
      have hq : q < M - 1 := by omega
      obtain ⟨b1, b2⟩ := hcell q (by omega)
      have s1 := (Array.getElem?_eq_some_iff.1 b1).1
      have s2 := (Array.getElem?_eq_some_iff.1 b2).1
      obtain ⟨p1, p2⟩ := prs_at (sw g M k) hq
      simp only [Array.getElem?_toList, Array.getElem?_setIfInBounds, Array.size_setIfInBounds]
      match r, hr with
      | 0, _ =>
        simp only [show q * 2 + 0 = q * 2 from rfl]
        rw [p1]
        unfold sw
        by_cases e : q = k
        · subst e; simp [s1]
        · simp [e, show ¬ k * 2 + 1 = q * 2 by omega, show ¬ k * 2 = q * 2 by omega, show ¬ k = q by omega, b1]
      | 1, _ =>
        rw [p2]
        unfold sw
        by_cases e : q = k
        · subst e; simp [s2]
        · simp [e, show ¬ k * 2 = q * 2 + 1 by omega, show ¬ k * 2 = q * 2 by omega, show ¬ k = q by omega, b2]
    · rw [if_neg hj]
      symm
      apply List.getElem?_eq_none
      rw [prs_length]
      omega
  · unfold sw at e
    by_cases h4 : i = k <;> by_cases h5 : j = k
    · omega
    · rw [if_pos h4, if_neg h5] at e
      have := h.inj _ _ (by omega) (by omega) e
      omega
    · rw [if_neg h4, if_pos h5] at e
      have := h.inj _ _ (by omega) (by omega) e
      omega
    · rw [if_neg h4, if_neg h5] at e
      exact h.inj i j (by omega) (by omega) e
  · have key : ∀ j, j < M → j ≠ k → ∃ c, ot 3 l' f' (g j).1 = some ⟨2, ((g j).2 : Int), c⟩ := fun j hj hjk => by
      rw [hd.ot _ (fun e => hjk (h.inj j k hj hkM e))]
      exact h.outs j hj
    unfold sw
    by_cases h4 : i = k
    · rw [if_pos h4]
      exact key (M - 1) (by omega) (by omega)
    · rw [if_neg h4]
      exact key i (by omega) h4
  · have e : q ≠ (g k).1 := by
      rintro rfl
      exact hq hd.ot1
    rw [hd.ot q e] at hq
    obtain ⟨i, h1, h2⟩ := h.all q hq
    have hik : i ≠ k := by
      rintro rfl
      exact e h2.symm
    by_cases h3 : i = M - 1
    · refine ⟨k, by omega, ?_⟩
      unfold sw
      rw [if_pos rfl, ← h3]
      exact h2
    · refine ⟨i, by omega, ?_⟩
      unfold sw
      rw [if_neg hik]
      exact h2
  · have h1 := hd.bal
    have h2 := h.bal
    have h3 := sw_sum g hkM
    omega
theorem Pw.form (h : Pw W w z N m l f t g M v) (h0 : 0 < M) : ∃ hb cap, v = .slice (some ⟨hb, 0, none⟩) M cap ∧ (M ≤ cap ∧ cap ≤ 9223372036854775807) := by
  rcases h.own.2 with ⟨_, e⟩ | ⟨hb, cap, cur, rfl, _, _, h1, h2, _⟩
  · omega
  · exact ⟨hb, cap, rfl, h1, by unfold maxLen at h2; omega⟩
/-- a Free of what is out -/
theorem Pw.freeIs (h : Pw W w z N m l f t g M v) {k : Nat} (hk : k < M) (c : Nat) (hc : c < 3) : ∃ l' f', FrIs 3 l f c ((g k).1 : Int) 0 l' f' ∧ Zd 3 l f l' f' (g k).1 (g k).2 := by
  obtain ⟨ca, ho⟩ := h.outs k hk
  obtain ⟨e, l', f', hr⟩ := fr_is h.zt.zc.inv (c : Int) ((g k).1 : Int)
  rcases hr.facts h.zt.zc.inv h.zt.zc.zb.fine with ⟨rfl, p, o, hp, hd⟩ | ⟨he, _⟩
  · obtain rfl : p = (g k).1 := by omega
    obtain ⟨c2, hc2⟩ := hd.ot0
    rw [ho] at hc2
    simp only [Option.some.injEq, Pg.mk.injEq, true_and] at hc2
    obtain rfl : o = (g k).2 := by omega
    exact ⟨l', f', hr, hd⟩
  · exfalso
    generalize hci : (c : Int) = ci at hr
    generalize hpi : ((g k).1 : Int) = pi at hr
    cases hr with
    | range _ _ hx => exact hx (by omega)
    | block c' _ _ hno =>
      have := hno (g k).1 hpi.symm
      rw [ho] at this
      cases this
    | big => exact he rfl
    | one => exact he rfl
end
end Go.Proofs.Ytlljomnpdgmifaa
