/-
  Try of the program: the calls that it defers, one for each group that it has charged.
-/
import Derived.Test.YtahkfagfobfliaaTry1
set_option linter.unusedVariables false
set_option linter.unusedSimpArgs false
namespace Go.Proofs.Ytahkfagfobfliaa
open Go Go.RowKit

theorem Kept.setNew {S : Nat → Prop} {W w : World} (h : Kept S W w) {p : Addr} (hp : W.heap.size ≤ p.block) (u : Value) : Kept S W (w.setCell p u) := by
  have hb := (Below.refl 0 w).setCell (p := p) (Nat.zero_le _) u
  exact ⟨hb.os.trans h.os, hb.tape.trans h.tape, hb.output.trans h.output, Nat.le_trans h.size hb.size, fun k hk hn => (Below.heap_setCell w p u k (by omega)).trans (h.block k hk hn)⟩
def dfr (K0 K1 K2 G : Nat) : Deferred := { target := .fn (.func 35) #[.pointer (some ⟨K2, 0, none⟩), .pointer (some ⟨K0, 0, none⟩), .pointer (some ⟨G, 0, none⟩), .pointer (some ⟨K1, 0, none⟩)], args := #[] }
/-- the calls that are deferred, the last one first -/
inductive Dfs (w : World) (l : List Int) (K0 K1 K2 : Nat) : Nat → List Deferred → Prop
  | nil : Dfs w l K0 K1 K2 0 []
  | cons {k ds} (G : Nat) (h : Dfs w l K0 K1 K2 k ds) (hG : w.heap[G]? = some (.cells #[.int .i64 (pk l k)] 3 (0, 0))) : Dfs w l K0 K1 K2 (k + 1) (dfr K0 K1 K2 G :: ds)
section
variable {S : Nat → Prop} {W w w' : World} {B g K0 K1 K2 G k : Nat} {t t' : Ct} {p : Option Addr} {x n e : Int} {l : List Int} {ds : List Deferred} {Ts : List TypeId}
theorem Bx.kept (h : Bx w K0 K1 K2 B n e) (hk : Kept S w w') (hS : ∀ k, S k → Typ w Ts k) (hT : 23 ∉ Ts ∧ 3 ∉ Ts ∧ 35 ∉ Ts) : Bx w' K0 K1 K2 B n e :=
  ⟨box_kept h.c hk hS hT.1, box_kept h.n hk hS hT.2.1, box_kept h.e hk hS hT.2.2⟩
theorem Bx.below (h : Bx w K0 K1 K2 B n e) (hb : Below w.heap.size w w') : Bx w' K0 K1 K2 B n e :=
  h.kept (S := fun _ => False) (Ts := []) (Kept.ofBelow hb) (fun _ e => e.elim) (by decide)
theorem Dfs.kept (h : Dfs w l K0 K1 K2 k ds) (hk : Kept S w w') (hS : ∀ k, S k → Typ w Ts k) (hT : 3 ∉ Ts) : Dfs w' l K0 K1 K2 k ds := by
  induction h with
  | nil => exact .nil
  | cons G _ hG ih => exact .cons G ih (box_kept hG hk hS hT)
theorem Dfs.keepB (h : Dfs w l K0 K1 K2 k ds) (hb : Below w.heap.size w w') : Dfs w' l K0 K1 K2 k ds :=
  h.kept (S := fun _ => False) (Ts := []) (Kept.ofBelow hb) (fun _ e => e.elim) (by decide)
theorem Bx.typ (h : Bx w K0 K1 K2 B n e) : ∀ k, k = K2 → Typ w [35] k := by
  rintro k rfl
  exact ⟨_, _, _, h.e, by simp⟩
theorem Bx.setE (h : Bx w K0 K1 K2 B n e) (v : Int) : Bx (w.setCell ⟨K2, 0, none⟩ (.int .i64 v)) K0 K1 K2 B n v := by
  have hk : Kept (· = K2) w (w.setCell ⟨K2, 0, none⟩ (.int .i64 v)) := kept_one _ _
  exact ⟨box_kept h.c hk h.typ (by decide), box_kept h.n hk h.typ (by decide), by simpa using cells_set h.e 0 (.int .i64 v)⟩
theorem all_ci (hc : CI t) (hn : isN n) (hb : ∀ i, i < k → i < l.length → fits t (pk l i) n) : CI (t.all (l.take k) n) := by
  refine ⟨fun j h1 h2 => ?_, hc.m⟩
  have hu := hc.u j h1 h2
  have hm := hc.m j h1 h2
  rw [all_us]
  split
  · rename_i hk
    obtain ⟨i, hi, e⟩ := List.getElem_of_mem hk
    simp only [List.length_take] at hi
    rw [List.getElem_take, pk_at l i (by omega)] at e
    have := hb i (by omega) (by omega)
    unfold fits at this
    rw [e, Int.toNat_natCast] at this
    unfold isN at *
    omega
  · exact hu
/-- all that was charged is taken back -/
theorem leaves_undo {fn : Func} {tmps : Array Value} {R : Ending → World → Prop} (hp : IsPath l) (hc : CI t) (hn : isN n) (he : e ≠ 0)
    (hR : ∀ w', CV w' B g t → Kept (· = g) W w' → w'.cell? ⟨K2, 0, none⟩ = some (.int .i64 e) → ∃ v, (results fn tmps).run Try.prog w' = .ok v w' ∧ R (.returned v) w') :
    ∀ (k : Nat) (ds : List Deferred) (w : World), Dfs w l K0 K1 K2 k ds → k ≤ l.length → (∀ i, i < k → fits t (pk l i) n) → Bx w K0 K1 K2 B n e → CV w B g (t.all (l.take k) n) → Kept (· = g) W w → Leaves Try.prog fn tmps R ds .returning w := by
  intro k
  induction k with
  | zero =>
    intro ds w hd _ _ hx hv hk
    cases hd
    rw [List.take_zero, Ct.all_nil] at hv
    exact hR w hv hk (self_cell hx.e 0 _ rfl)
  | succ k ih =>
    intro ds w hd hl hb hx hv hk
    cases hd with
    | cons G hd hG =>
      obtain ⟨K, hK, h1, h2, h3⟩ := hp.next (show k < l.length by omega)
      have hci : CI (t.all (l.take (k + 1)) n) := all_ci hc hn (fun i hi _ => hb i hi)
      have hus : (t.all (l.take (k + 1)) n).us K = t.us K + n := by
        rw [all_us, if_pos]
        rw [List.take_succ_eq_append_getElem (by omega), pk_at l k (by omega), hK]
        simp
      have hu0 := hc.u K h1 h2
      have hr : DnIs (t.all (l.take (k + 1)) n) (pk l k) n 0 ((t.all (l.take (k + 1)) n).dn K n) := .ok K hK h1 h2 hn (by rw [hus]; unfold isN at hu0; omega)
      rw [Ct.all_back t l n (by omega) hp.d hK] at hr
      refine leaves_cons (f := 35) (args := #[.pointer (some ⟨K2, 0, none⟩), .pointer (some ⟨K0, 0, none⟩), .pointer (some ⟨G, 0, none⟩), .pointer (some ⟨K1, 0, none⟩)]) (by simp) (by simp [go_sem]) ?_
      refine (dUndo hx he hG hv hci hr .returning).mono ?_
      rintro e' u' w' ⟨rfl, rfl, hv', hk'⟩
      exact ih _ w' (hd.kept hk' hv.typ (by decide)) (by omega) (fun i hi => hb i (by omega)) (hx.kept hk' hv.typ (by decide)) hv' (hk.trans hk')
/-- nothing is taken back -/
theorem leaves_idle {fn : Func} {tmps : Array Value} {R : Ending → World → Prop} (hx : Bx w K0 K1 K2 B n 0)
    (hR : ∃ v, (results fn tmps).run Try.prog w = .ok v w ∧ R (.returned v) w) :
    ∀ (k : Nat) (ds : List Deferred), Dfs w l K0 K1 K2 k ds → Leaves Try.prog fn tmps R ds .returning w := by
  intro k
  induction k with
  | zero =>
    intro ds hd
    cases hd
    exact hR
  | succ k ih =>
    intro ds hd
    cases hd with
    | cons G hd hG =>
      refine leaves_cons (f := 35) (args := #[.pointer (some ⟨K2, 0, none⟩), .pointer (some ⟨K0, 0, none⟩), .pointer (some ⟨G, 0, none⟩), .pointer (some ⟨K1, 0, none⟩)]) (by simp) (by simp [go_sem]) ?_
      refine (dIdle hx .returning).mono ?_
      rintro e' u' w' ⟨rfl, rfl, rfl⟩
      exact ih _ hd
/-- one more group is charged -/
theorem bx_next {w0 w1 : World} (hx : Bx w0 K0 K1 K2 B n 0) (hd : Dfs w0 l K0 K1 K2 k ds) (hv : CV (w0.alloc (.cells #[.int .i64 (pk l k)] 3)) B g t) (hW : Kept (· = g) W w0) (hge : W.heap.size ≤ K2)
    (hv1 : CV w1 B g t') (hk : Kept (· = g) (w0.alloc (.cells #[.int .i64 (pk l k)] 3)) w1) (v : Int) :
    Bx (w1.setCell ⟨K2, 0, none⟩ (.int .i64 v)) K0 K1 K2 B n v ∧ Dfs (w1.setCell ⟨K2, 0, none⟩ (.int .i64 v)) l K0 K1 K2 (k + 1) (dfr K0 K1 K2 w0.heap.size :: ds) ∧ CV (w1.setCell ⟨K2, 0, none⟩ (.int .i64 v)) B g t' ∧ Kept (· = g) W (w1.setCell ⟨K2, 0, none⟩ (.int .i64 v)) ∧ Dfs (w1.setCell ⟨K2, 0, none⟩ (.int .i64 v)) l K0 K1 K2 k ds ∧ (w1.setCell ⟨K2, 0, none⟩ (.int .i64 v)).cell? ⟨w0.heap.size, 0, none⟩ = some (.int .i64 (pk l k)) := by
  have hb := below_one (Below.refl _ w0) (.cells #[.int .i64 (pk l k)] 3)
  have hG := heap_new w0 (.cells #[.int .i64 (pk l k)] 3)
  have hx1 := (hx.below hb).kept hk hv.typ (by decide)
  have hd1 := (hd.keepB hb).kept hk hv.typ (by decide)
  have hG1 := box_kept hG hk hv.typ (by decide)
  have hk2 : Kept (· = K2) w1 (w1.setCell ⟨K2, 0, none⟩ (.int .i64 v)) := kept_one _ _
  have hG2 := box_kept hG1 hk2 hx1.typ (by decide)
  have hd2 := hd1.kept hk2 hx1.typ (by decide)
  exact ⟨hx1.setE v, .cons _ hd2 hG2, hv1.kept hk2 hx1.typ (by decide), ((hW.alloc _).trans hk).setNew hge _, hd2, self_cell hG2 0 _ rfl⟩
end
end Go.Proofs.Ytahkfagfobfliaa
