/-
  A tree of the program in a world; isNone, Many, has, Parent, Online.
-/
import Derived.Test.YtbdlkglngjjpjaaPure
set_option linter.unusedVariables false
set_option linter.unusedSimpArgs false
namespace Go.Proofs.Ytbdlkglngjjpjaa
open Go Go.RowKit

theorem cBringN (x m : Int) (n : Nat) (hm : m = n) (h : 1 ≤ n ∧ n ≤ 2000) (w : World) : Calls Try.prog 10 #[.int .i64 x, .int .i64 m] w fun e w' => e = .returned (.int .i64 (bring x n)) ∧ w' = w := by
  subst hm
  exact cBring x n w (by omega) (by omega)
theorem box_kept {S : Nat → Prop} {w w' : World} {K : Nat} {Ts : List TypeId} {x : Array Value} {T : TypeId} (hb : w.heap[K]? = some (.cells x T (0, 0))) (hk : Kept S w w') (hS : ∀ k, S k → Typ w Ts k) (hT : T ∉ Ts) : w'.heap[K]? = some (.cells x T (0, 0)) :=
  (hk.block K (lt_of_block hb) (fun e => (hS K e).ne hb hT rfl)).trans hb
/-- a row of one's own, n elements of k cells each, told by a function of the cell -/
def RowF (w : World) (T : TypeId) (k g cap n : Nat) (f : Nat → Value) : Prop := w.ownsRow 0 T k (.slice (some ⟨g, 0, none⟩) n cap) n ((List.range (n * k)).map f)
section
variable {S : Nat → Prop} {w w' : World} {T : TypeId} {k g cap n : Nat} {f f' : Nat → Value}
theorem RowF.block (h : RowF w T k g cap n f) : ∃ cur, w.heap[g]? = some (.cells cur T (0, 0)) ∧ (n ≤ cap ∧ cap ≤ 9223372036854775807) := by
  rcases h.2 with ⟨e, _⟩ | ⟨g', cap', cur, e, _, hg, hc, hm, _⟩
  · cases e
  · cases e
    exact ⟨cur, hg, hc, by unfold maxLen at hm; omega⟩
theorem RowF.lt (h : RowF w T k g cap n f) : g < w.heap.size := by
  obtain ⟨cur, hg, _⟩ := h.block
  exact lt_of_block hg
theorem RowF.cell (h : RowF w T k g cap n f) {j : Nat} (hj : j < n * k) : w.cell? ⟨g, j, none⟩ = some (f j) := by
  have h1 := World.ownsRow.cellAt h j hj
  rw [h1]
  simp [hj]
theorem RowF.frozen (h : RowF w T k g cap n f) (j : Nat) : w.frozen? ⟨g, j, none⟩ = false := World.ownsRow.frozenAt h j
theorem RowF.congr (h : RowF w T k g cap n f) (hf : ∀ j, j < n * k → f j = f' j) : RowF w T k g cap n f' := by
  unfold RowF at *
  rw [show (List.range (n * k)).map f' = (List.range (n * k)).map f from (List.map_congr_left fun j hj => hf j (by simpa using hj)).symm]
  exact h
theorem RowF.set (h : RowF w T k g cap n f) (j : Nat) (u : Value) : RowF (w.setCell ⟨g, j, none⟩ u) T k g cap n (fun i => if i = j then u else f i) := by
  have h1 := (World.ownsRow.stored h j u).1
  have e : ((List.range (n * k)).map f).set j u = (List.range (n * k)).map (fun i => if i = j then u else f i) := by
    refine List.ext_getElem (by simp) fun i h2 h3 => ?_
    simp only [List.getElem_set, List.getElem_map, List.getElem_range]
    by_cases e : j = i
    · subst e; simp
    · rw [if_neg e, if_neg (fun e2 => e e2.symm)]
  rw [e] at h1
  exact h1
theorem RowF.kept {Ts : List TypeId} (h : RowF w T k g cap n f) (hk : Kept S w w') (hS : ∀ k, S k → Typ w Ts k) (hT : T ∉ Ts) : RowF w' T k g cap n f := own_kept2 h hk hS hT
theorem RowF.typ {Ts : List TypeId} (h : RowF w T k g cap n f) (hT : T ∈ Ts) : Typ w Ts g := by
  obtain ⟨cur, hg, _⟩ := h.block
  exact ⟨cur, T, _, hg, hT⟩
/-- one more element -/
theorem RowF.more {v : Value} {cs : List Value} (h : w.ownsRow 0 T k v (n + 1) ((List.range (n * k)).map f ++ cs)) (hc : cs.length = k) (h1 : ∀ j, j < n * k → f' j = f j) (h2 : ∀ i, i < k → cs[i]? = some (f' (n * k + i))) :
    ∃ g' cap', v = .slice (some ⟨g', 0, none⟩) (n + 1) cap' ∧ RowF w T k g' cap' (n + 1) f' := by
  obtain ⟨g', cap', rfl⟩ : ∃ g' cap', v = .slice (some ⟨g', 0, none⟩) (n + 1) cap' := by
    rcases h.2 with ⟨_, e⟩ | ⟨g', cap', cur, e, _⟩
    · omega
    · exact ⟨g', cap', e⟩
  refine ⟨g', cap', rfl, ?_⟩
  unfold RowF
  have e : (List.range (n * k)).map f ++ cs = (List.range ((n + 1) * k)).map f' := by
    refine List.ext_getElem? fun i => ?_
    by_cases hi : i < n * k
    · rw [List.getElem?_append_left (by simpa using hi)]
      have : i < (n + 1) * k := by rw [Nat.succ_mul]; omega
      simp [hi, this, h1 i hi]
    · rw [List.getElem?_append_right (by simpa using hi)]
      simp only [List.length_map, List.length_range]
      by_cases hi2 : i - n * k < k
      · rw [h2 _ hi2]
        have : i < (n + 1) * k := by rw [Nat.succ_mul]; omega
        rw [show n * k + (i - n * k) = i by omega]
        simp [this]
      · rw [List.getElem?_eq_none (by omega)]
        symm
        rw [List.getElem?_eq_none]
        simp only [List.length_map, List.length_range, Nat.succ_mul]
        omega
  rw [← e]
  exact h
end
def memF (t : Tr) (j : Nat) : Value := if j % 2 = 0 then .int .i64 ((t.up (j / 2 + 1) : Nat) : Int) else .bool (!(t.on (j / 2 + 1)))
structure TV (w : World) (B g cap : Nat) (t : Tr) : Prop where
  box : w.heap[B]? = some (.cells #[.slice (some ⟨g, 0, none⟩) t.n cap] 49 (0, 0))
  row : RowF w 51 2 g cap t.n (memF t)
/-- the blocks that a tree may change -/
def OwnT (B g : Nat) (k : Nat) : Prop := k = B ∨ k = g
/-- a tree, or none: nil, or a zero one -/
def zeroT : Tr := ⟨0, fun _ => 0, fun _ => false⟩
def TQ (w : World) (p : Option Addr) (t : Tr) : Prop :=
  (∃ B g cap, p = some ⟨B, 0, none⟩ ∧ TV w B g cap t ∧ TI t) ∨ (t = zeroT ∧ (p = none ∨ ∃ B, p = some ⟨B, 0, none⟩ ∧ w.heap[B]? = some (.cells #[.slice none 0 0] 49 (0, 0))))
section
variable {S : Nat → Prop} {w w' : World} {B g cap : Nat} {t : Tr} {p : Option Addr}
theorem TV.c0 (h : TV w B g cap t) : w.cell? ⟨B, 0, none⟩ = some (.slice (some ⟨g, 0, none⟩) t.n cap) := self_cell h.box 0 _ rfl
theorem TV.f0 (h : TV w B g cap t) : w.frozen? ⟨B, 0, none⟩ = false := self_free h.box 0
theorem TV.lt (h : TV w B g cap t) : B < w.heap.size ∧ g < w.heap.size := ⟨lt_of_block h.box, h.row.lt⟩
theorem TV.caps (h : TV w B g cap t) : t.n ≤ cap ∧ cap ≤ 9223372036854775807 := by
  obtain ⟨_, _, h1⟩ := h.row.block
  exact h1
theorem TV.cu (h : TV w B g cap t) {k : Nat} (hk : k < t.n) : w.cell? ⟨g, k * 2, none⟩ = some (.int .i64 ((t.up (k + 1) : Nat) : Int)) := by
  rw [h.row.cell (show k * 2 < t.n * 2 by omega), memF, if_pos (by omega), show k * 2 / 2 = k by omega]
theorem TV.co (h : TV w B g cap t) {k : Nat} (hk : k < t.n) : w.cell? ⟨g, k * 2 + 1, none⟩ = some (.bool (!(t.on (k + 1)))) := by
  rw [h.row.cell (show k * 2 + 1 < t.n * 2 by omega), memF, if_neg (by omega), show (k * 2 + 1) / 2 = k by omega]
theorem TV.typ (h : TV w B g cap t) : ∀ k, OwnT B g k → Typ w [49, 51] k := by
  rintro k (rfl | rfl)
  · exact ⟨_, _, _, h.box, by decide⟩
  · exact h.row.typ (by decide)
theorem TV.kept {Ts : List TypeId} (h : TV w B g cap t) (hk : Kept S w w') (hS : ∀ k, S k → Typ w Ts k) (hT : 49 ∉ Ts ∧ 51 ∉ Ts) : TV w' B g cap t :=
  ⟨box_kept h.box hk hS hT.1, h.row.kept hk hS hT.2⟩
theorem TV.below (h : TV w B g cap t) (hb : Below w.heap.size w w') : TV w' B g cap t :=
  h.kept (S := fun _ => False) (Ts := []) (Kept.ofBelow hb) (fun _ e => e.elim) (by decide)
theorem TQ.kept {Ts : List TypeId} (h : TQ w p t) (hk : Kept S w w') (hS : ∀ k, S k → Typ w Ts k) (hT : 49 ∉ Ts ∧ 51 ∉ Ts) : TQ w' p t := by
  rcases h with ⟨B, g, cap, e, h1, h2⟩ | ⟨e, e1 | ⟨B, e1, h1⟩⟩
  · exact .inl ⟨B, g, cap, e, h1.kept hk hS hT, h2⟩
  · exact .inr ⟨e, .inl e1⟩
  · exact .inr ⟨e, .inr ⟨B, e1, box_kept h1 hk hS hT.1⟩⟩
theorem TQ.below (h : TQ w p t) (hb : Below w.heap.size w w') : TQ w' p t :=
  h.kept (S := fun _ => False) (Ts := []) (Kept.ofBelow hb) (fun _ e => e.elim) (by decide)
theorem TQ.hu (h : TQ w p t) : ∀ g, 1 ≤ g → g ≤ t.n → t.up g < g := by
  rcases h with ⟨B, g, cap, e, h1, h2⟩ | ⟨rfl, _⟩
  · exact fun g => h2.up_lt
  · intro g h1 h2
    have : g ≤ 0 := h2
    omega
theorem TQ.n16 (h : TQ w p t) : t.n ≤ 16 := by
  rcases h with ⟨B, g, cap, e, h1, h2⟩ | ⟨rfl, _⟩
  · exact h2.n1.2
  · decide
theorem TQ.up0 (h : TQ w p t) : t.up 0 = 0 := by
  rcases h with ⟨B, g, cap, e, h1, h2⟩ | ⟨rfl, _⟩
  · exact h2.up0
  · rfl
theorem TQ.on0 (h : TQ w p t) : t.on 0 = false := by
  rcases h with ⟨B, g, cap, e, h1, h2⟩ | ⟨rfl, _⟩
  · exact h2.on0
  · rfl
set_option maxHeartbeats 1000000 in
theorem cNoneNo (h : TV w B g cap t) (hn : 1 ≤ t.n) :
    Calls Try.prog 25 #[.pointer (some ⟨B, 0, none⟩)] w fun e w' => e = .returned (.bool false) ∧ w' = w := by
  have c0 := h.c0
  have hb : B < w.heap.size := h.lt.1
  have hne : ((t.n : Int) == 0) = false := by simp; omega
  generalize t.n = N at *
  clear h
  go_enter Try.func25, Try.ntmps25
  go_wp2
  go_ret
  exact ⟨rfl, rfl⟩
set_option maxHeartbeats 1000000 in
theorem cNoneYes (h : p = none ∨ ∃ B, p = some ⟨B, 0, none⟩ ∧ w.heap[B]? = some (.cells #[.slice none 0 0] 49 (0, 0))) :
    Calls Try.prog 25 #[.pointer p] w fun e w' => e = .returned (.bool true) ∧ w' = w := by
  rcases h with rfl | ⟨B, rfl, hb⟩
  · go_enter Try.func25, Try.ntmps25
    go_wp2
    go_ret
    exact ⟨rfl, rfl⟩
  · have c0 := self_cell hb 0 _ rfl
    clear hb
    go_enter Try.func25, Try.ntmps25
    go_wp2
    go_ret
    exact ⟨rfl, rfl⟩
set_option maxHeartbeats 1000000 in
theorem cMany (h : TQ w p t) :
    Calls Try.prog 18 #[.pointer p] w fun e w' => e = .returned (.int .i64 t.n) ∧ w' = w := by
  rcases h with ⟨B, g, cap, rfl, h, hi⟩ | ⟨rfl, h⟩
  · have HA := Lib.hid h
    have HN := Lib.hid hi.n1.1
    have c0 := h.c0
    clear h hi
    go_enter Try.func18, Try.ntmps18
    go_wp2_with fail
    refine (cNoneNo HA.out HN.out).mono ?_
    rintro e w1 ⟨rfl, rfl⟩
    go_wp2
    go_ret
    exact ⟨rfl, rfl⟩
  · have HA := Lib.hid h
    clear h
    go_enter Try.func18, Try.ntmps18
    go_wp2_with fail
    refine (cNoneYes HA.out).mono ?_
    rintro e w1 ⟨rfl, rfl⟩
    go_wp2
    go_ret
    exact ⟨rfl, rfl⟩
theorem nu_dec (n : Nat) (x : Int) : decide (nu n x ≠ 0) = decide (1 ≤ x ∧ x ≤ n) := by
  by_cases h : 1 ≤ x ∧ x ≤ (n : Int)
  · rw [decide_eq_true h, decide_eq_true]
    unfold nu
    rw [if_pos h]
    omega
  · rw [decide_eq_false h, decide_eq_false]
    rw [nu_no h]
    simp
set_option maxHeartbeats 1000000 in
theorem cHasD (h : TQ w p t) (x : Int) (q : Bool) (hq : decide (1 ≤ x ∧ x ≤ t.n) = q) :
    Calls Try.prog 29 #[.pointer p, .int .i64 x] w fun e w' => e = .returned (.bool q) ∧ w' = w := by
  have HA := Lib.hid h
  have HQ := Lib.hid hq
  generalize hN : t.n = N at *
  have HN := Lib.hid hN
  clear h hq hN
  by_cases h0 : 1 ≤ x
  · by_cases h2 : x ≤ N
    · have HY : Hid (true = q) := Lib.hid (by rw [← HQ.out]; exact (decide_eq_true ⟨h0, h2⟩).symm)
      go_enter Try.func29, Try.ntmps29
      go_wp2_with fail
      refine (cMany HA.out).mono ?_
      rintro e w1 ⟨rfl, rfl⟩
      rw [HN.out]
      go_wp2
      go_ret
      exact ⟨ret_bool HY.out, rfl⟩
    · have HY : Hid (false = q) := Lib.hid (by rw [← HQ.out]; exact (decide_eq_false (fun e => h2 e.2)).symm)
      go_enter Try.func29, Try.ntmps29
      go_wp2_with fail
      refine (cMany HA.out).mono ?_
      rintro e w1 ⟨rfl, rfl⟩
      rw [HN.out]
      go_wp2
      go_ret
      exact ⟨ret_bool (by rw [decide_eq_false (show ¬ x ≤ (N : Int) by omega)]; exact HY.out), rfl⟩
  · have HY : Hid (false = q) := Lib.hid (by rw [← HQ.out]; exact (decide_eq_false (fun e => h0 e.1)).symm)
    go_enter Try.func29, Try.ntmps29
    go_wp2
    go_ret
    exact ⟨ret_bool HY.out, rfl⟩
theorem cHasYes (h : TQ w p t) (k : Nat) (hk : k < t.n) :
    Calls Try.prog 29 #[.pointer p, .int .i64 ((k : Int) + 1)] w fun e w' => e = .returned (.bool true) ∧ w' = w :=
  cHasD h _ _ (decide_eq_true (by omega))
theorem cHasNo (h : TQ w p t) (x : Int) (hx : ¬ (1 ≤ x ∧ x ≤ t.n)) :
    Calls Try.prog 29 #[.pointer p, .int .i64 x] w fun e w' => e = .returned (.bool false) ∧ w' = w :=
  cHasD h _ _ (decide_eq_false hx)
theorem TQ.some (h : TQ w p t) {k : Nat} (hk : k < t.n) : ∃ B g cap, p = some ⟨B, 0, none⟩ ∧ TV w B g cap t ∧ TI t := by
  rcases h with h | ⟨rfl, _⟩
  · exact h
  · exact absurd hk (Nat.not_lt_zero _)
theorem nu_cases (n : Nat) (x : Int) : (∃ k : Nat, k < n ∧ x = (k : Int) + 1 ∧ nu n x = k + 1) ∨ (¬ (1 ≤ x ∧ x ≤ n) ∧ nu n x = 0) := by
  by_cases h : 1 ≤ x ∧ x ≤ (n : Int)
  · refine .inl ⟨x.toNat - 1, by omega, by omega, ?_⟩
    unfold nu
    rw [if_pos h]
    omega
  · exact .inr ⟨h, nu_no h⟩
set_option maxHeartbeats 1000000 in
theorem cParent (h : TQ w p t) (x : Int) (u : Int) (hu : ((t.up (nu t.n x) : Nat) : Int) = u) :
    Calls Try.prog 21 #[.pointer p, .int .i64 x] w fun e w' => e = .returned (.int .i64 u) ∧ w' = w := by
  have HA := Lib.hid h
  rcases nu_cases t.n x with ⟨k, hk, rfl, hn⟩ | ⟨hx, hn⟩
  · obtain ⟨B, g, cap, rfl, hv, hi⟩ := h.some hk
    rw [hn] at hu
    have c0 := hv.c0
    have cu := hv.cu hk
    have hcap := hv.caps
    rw [hu] at cu
    have HH : Hid (Calls Try.prog 29 #[.pointer (some ⟨B, 0, none⟩), .int .i64 ((k : Int) + 1)] w fun e w' => e = .returned (.bool true) ∧ w' = w) := Lib.hid (cHasYes h k hk)
    clear h hv hi hn hu HA
    generalize t.n = N at *
    go_enter Try.func21, Try.ntmps21
    go_wp2_with fail
    refine HH.out.mono ?_
    rintro e w1 ⟨rfl, rfl⟩
    go_wp2
    go_ret
    exact ⟨rfl, rfl⟩
  · rw [hn, h.up0] at hu
    subst hu
    clear h hn
    go_enter Try.func21, Try.ntmps21
    go_wp2_with fail
    refine (cHasNo HA.out x hx).mono ?_
    rintro e w1 ⟨rfl, rfl⟩
    go_wp2
    go_ret
    exact ⟨rfl, rfl⟩
set_option maxHeartbeats 1000000 in
theorem cOnline (h : TQ w p t) (x : Int) (q : Bool) (hq : t.on (nu t.n x) = q) :
    Calls Try.prog 24 #[.pointer p, .int .i64 x] w fun e w' => e = .returned (.bool q) ∧ w' = w := by
  have HA := Lib.hid h
  rcases nu_cases t.n x with ⟨k, hk, rfl, hn⟩ | ⟨hx, hn⟩
  · obtain ⟨B, g, cap, rfl, hv, hi⟩ := h.some hk
    rw [hn] at hq
    have c0 := hv.c0
    have co := hv.co hk
    have hcap := hv.caps
    rw [hq] at co
    have HH : Hid (Calls Try.prog 29 #[.pointer (some ⟨B, 0, none⟩), .int .i64 ((k : Int) + 1)] w fun e w' => e = .returned (.bool true) ∧ w' = w) := Lib.hid (cHasYes h k hk)
    clear h hv hi hn hq HA
    generalize t.n = N at *
    cases q
    · go_enter Try.func24, Try.ntmps24
      go_wp2_with fail
      refine HH.out.mono ?_
      rintro e w1 ⟨rfl, rfl⟩
      go_wp2
      go_ret
      exact ⟨rfl, rfl⟩
    · go_enter Try.func24, Try.ntmps24
      go_wp2_with fail
      refine HH.out.mono ?_
      rintro e w1 ⟨rfl, rfl⟩
      go_wp2
      go_ret
      exact ⟨rfl, rfl⟩
  · rw [hn, h.on0] at hq
    subst hq
    clear h hn
    go_enter Try.func24, Try.ntmps24
    go_wp2_with fail
    refine (cHasNo HA.out x hx).mono ?_
    rintro e w1 ⟨rfl, rfl⟩
    go_wp2
    go_ret
    exact ⟨rfl, rfl⟩
end
end Go.Proofs.Ytbdlkglngjjpjaa
