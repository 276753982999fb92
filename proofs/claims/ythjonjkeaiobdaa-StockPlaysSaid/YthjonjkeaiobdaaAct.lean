/-
  Drain, Take of the program.
-/
import Derived.Test.YthjonjkeaiobdaaOps
set_option linter.unusedVariables false
set_option linter.unusedSimpArgs false
namespace Go.Proofs.Ythjonjkeaiobdaa
open Go Go.RowKit

/-- what is known at a stock that is about to be written: B the struct, D a box of the call's own -/
def Fx (w : World) (B r c k D : Nat) (G N : Int) : Prop :=
  w.cell? ⟨B, 0, none⟩ = some (.slice (some ⟨r, 0, none⟩) c c) ∧ w.cell? ⟨r, k * 2, none⟩ = some (.int .i64 G) ∧ w.cell? ⟨r, k * 2 + 1, none⟩ = some (.int .i64 N) ∧ w.frozen? ⟨r, k * 2, none⟩ = false ∧ w.frozen? ⟨r, k * 2 + 1, none⟩ = false ∧ w.cell? ⟨D, 0, none⟩ = some (.int .i64 G) ∧ w.cell? ⟨D, 1, none⟩ = some (.int .i64 N)
/-- the same without a box -/
def Fy (w : World) (B r c k : Nat) (G N : Int) : Prop :=
  w.cell? ⟨B, 0, none⟩ = some (.slice (some ⟨r, 0, none⟩) c c) ∧ w.cell? ⟨r, k * 2, none⟩ = some (.int .i64 G) ∧ w.cell? ⟨r, k * 2 + 1, none⟩ = some (.int .i64 N) ∧ w.frozen? ⟨r, k * 2, none⟩ = false ∧ w.frozen? ⟨r, k * 2 + 1, none⟩ = false
theorem cell_set2 {w : World} {K j r : Nat} {x : Value} (hne : K ≠ r) {a b : Nat} {u v : Value} (h : w.cell? ⟨K, j, none⟩ = some x) : ((w.setCell ⟨r, a, none⟩ u).setCell ⟨r, b, none⟩ v).cell? ⟨K, j, none⟩ = some x := by
  have h1 : ((w.setCell ⟨r, a, none⟩ u).setCell ⟨r, b, none⟩ v).heap[K]? = w.heap[K]? := (Below.heap_setCell _ _ _ K hne).trans (Below.heap_setCell _ _ _ K hne)
  exact (World.cell?_of_block (w := w) h1).trans h
section
variable {S : Nat → Prop} {w w' : World} {T E : TypeId} {B r c k D : Nat} {t t' : Sk} {p : Option Addr} {x g n e G N : Int} {Ts : List TypeId}
theorem Fx.below (h : Fx w B r c k D G N) (hb : Below w.heap.size w w') : Fx w' B r c k D G N := by
  obtain ⟨h0, h1, h2, h3, h4, h5, h6⟩ := h
  exact ⟨cell_keep hb h0, cell_keep hb h1, cell_keep hb h2, (hb.frozen (World.block_lt_of_cell? w _ h1)).trans h3, (hb.frozen (World.block_lt_of_cell? w _ h2)).trans h4, cell_keep hb h5, cell_keep hb h6⟩
theorem Fy.below (h : Fy w B r c k G N) (hb : Below w.heap.size w w') : Fy w' B r c k G N := by
  obtain ⟨h0, h1, h2, h3, h4⟩ := h
  exact ⟨cell_keep hb h0, cell_keep hb h1, cell_keep hb h2, (hb.frozen (World.block_lt_of_cell? w _ h1)).trans h3, (hb.frozen (World.block_lt_of_cell? w _ h2)).trans h4⟩
theorem SV.fy (h : SV w T E B r c t) {k : Nat} (hk : k < c) : Fy w B r c k (t.g k) (t.n k) := ⟨h.c0, h.cg hk, h.cn hk, h.fr _, h.fr _⟩
theorem SV.fx (h : SV w T E B r c t) {k : Nat} (hk : k < c) (X : TypeId) : Fx (w.alloc (.cells #[.int .i64 (t.g k), .int .i64 (t.n k)] X)) B r c k w.heap.size (t.g k) (t.n k) := by
  obtain ⟨h0, h1, h2, h3, h4⟩ := (h.alloc (.cells #[.int .i64 (t.g k), .int .i64 (t.n k)] X)).fy hk
  exact ⟨h0, h1, h2, h3, h4, self_cell (heap_new w _) 0 _ rfl, self_cell (heap_new w _) 1 _ rfl⟩
theorem fx_keep (h : Fx w B r c k D G N) : w.cell? ⟨B, 0, none⟩ = some (.slice (some ⟨r, 0, none⟩) c c) ∧ w.cell? ⟨D, 1, none⟩ = some (.int .i64 N) := ⟨h.1, h.2.2.2.2.2.2⟩
theorem fx_keep2 (h1 : B ≠ r) (h2 : D ≠ r) (h : Fx w B r c k D G N) {a b : Nat} {u v : Value} : ((w.setCell ⟨r, a, none⟩ u).setCell ⟨r, b, none⟩ v).cell? ⟨B, 0, none⟩ = some (.slice (some ⟨r, 0, none⟩) c c) ∧ ((w.setCell ⟨r, a, none⟩ u).setCell ⟨r, b, none⟩ v).cell? ⟨D, 1, none⟩ = some (.int .i64 N) :=
  ⟨cell_set2 h1 h.1, cell_set2 h2 h.2.2.2.2.2.2⟩
set_option maxHeartbeats 2000000 in
set_option maxRecDepth 100000 in
theorem cDrain (h : SV w 48 55 B r c t) {a b : Int} (hr : DrainIs c t x a b t') :
    Calls Try.prog 18 #[.pointer (some ⟨B, 0, none⟩), .int .i64 x] w fun e w' => e = .returned (.tuple #[.int .i64 a, .int .i64 b]) ∧ SV w' 48 55 B r c t' ∧ Kept (· = r) w w' := by
  have HA := Lib.hid h
  cases hr with
  | bad hx =>
    have HC := Lib.hid (decide_eq_false hx)
    clear h hx
    go_enter Try.func18, Try.ntmps18
    go_wp2_with (go_at_call 22; refine (cIsCpu HA.out _ _ HC.out).mono ?_; rintro e w1 ⟨rfl, rfl⟩)
    go_ret2
    exact ⟨rfl, HA.out, Kept.refl _ _⟩
  | ok k hx hk =>
    subst hx
    have c0 := h.c0
    have cg := h.cg hk
    have cn := h.cn hk
    have f0 := h.fr (k * 2)
    have f1 := h.fr (k * 2 + 1)
    have hl := h.lt
    have HC := Lib.hid (decide_eq_true (isC.of hk))
    have hk2 : (k : Int) < (c : Int) := by omega
    have HF := Lib.hid ((h.put hk 0 0 0 rfl).alloc (.cells #[.int .i64 (t.g k), .int .i64 (t.n k)] 55))
    have HK := Lib.hid ((kept_two r (k * 2) (k * 2 + 1) (.int .i64 0) (.int .i64 0) w (Kept.refl (· = r) w)).alloc (.cells #[.int .i64 (t.g k), .int .i64 (t.n k)] 55))
    generalize t.g k = G at *
    generalize t.n k = N at *
    obtain ⟨hl1, hl2⟩ := hl
    clear h
    go_enter Try.func18, Try.ntmps18
    go_wp2_with (go_at_call 22; refine (cIsCpu HA.out _ _ HC.out).mono ?_; rintro e w1 ⟨rfl, rfl⟩)
    go_quiet (fail)
    go_wp2
    go_ret2
    exact ⟨rfl, HF.out.below (below_drewN (Below.refl _ _) _), HK.out.drewN _⟩
set_option maxHeartbeats 2000000 in
set_option maxRecDepth 100000 in
theorem cTake (h : SV w 48 55 B r c t) (hs : SI c t) {q : Bool} (hr : TakeIs c t x g n q t') :
    Calls Try.prog 16 #[.pointer (some ⟨B, 0, none⟩), .int .i64 x, .int .i64 g, .int .i64 n] w fun e w' => e = .returned (.bool q) ∧ SV w' 48 55 B r c t' ∧ Kept (· = r) w w' := by
  have HA := Lib.hid h
  cases hr with
  | bad hx =>
    have HC := Lib.hid (decide_eq_false hx)
    clear h hx hs
    go_enter Try.func16, Try.ntmps16
    go_wp2_with (go_at_call 22; refine (cIsCpu HA.out _ _ HC.out).mono ?_; rintro e w1 ⟨rfl, rfl⟩)
    go_ret
    exact ⟨rfl, HA.out, Kept.refl _ _⟩
  | none k hx hk h1 =>
    subst hx
    have HC := Lib.hid (decide_eq_true (isC.of hk))
    clear h hs
    go_enter Try.func16, Try.ntmps16
    go_wp2_with (go_at_call 22; refine (cIsCpu HA.out _ _ HC.out).mono ?_; rintro e w1 ⟨rfl, rfl⟩)
    go_ret
    exact ⟨rfl, HA.out, Kept.refl _ _⟩
  | other k hx hk h1 hg =>
    subst hx
    have c0 := h.c0
    have cg := h.cg hk
    have cn := h.cn hk
    have hl := h.lt
    have HC := Lib.hid (decide_eq_true (isC.of hk))
    have hk2 : (k : Int) < (c : Int) := by omega
    have hq : (t.g k != g) = true := by simp [hg]
    have h1' : ¬ n < 1 := by omega
    have HV := Lib.hid (h.alloc (.cells #[.int .i64 (t.g k), .int .i64 (t.n k)] 55))
    generalize t.g k = G at *
    generalize t.n k = N at *
    clear h hs hg
    go_enter Try.func16, Try.ntmps16
    go_wp2_with (go_at_call 22; refine (cIsCpu HA.out _ _ HC.out).mono ?_; rintro e w1 ⟨rfl, rfl⟩)
    go_ret
    exact ⟨rfl, HV.out, (Kept.refl _ _).alloc _⟩
  | few k hx hk h1 hg hn =>
    subst hx
    have c0 := h.c0
    have cg := h.cg hk
    have cn := h.cn hk
    have hl := h.lt
    have HC := Lib.hid (decide_eq_true (isC.of hk))
    have hk2 : (k : Int) < (c : Int) := by omega
    have hq : (t.g k != g) = false := by simp [hg]
    have h1' : ¬ n < 1 := by omega
    have HV := Lib.hid (h.alloc (.cells #[.int .i64 (t.g k), .int .i64 (t.n k)] 55))
    generalize t.g k = G at *
    generalize t.n k = N at *
    clear h hs hg
    go_enter Try.func16, Try.ntmps16
    go_wp2_with (go_at_call 22; refine (cIsCpu HA.out _ _ HC.out).mono ?_; rintro e w1 ⟨rfl, rfl⟩)
    go_ret
    exact ⟨rfl, HV.out, (Kept.refl _ _).alloc _⟩
  | ok k hx hk h1 hg hn =>
    subst hx
    have c0 := h.c0
    have cg := h.cg hk
    have cn := h.cn hk
    have hl := h.lt
    have HC := Lib.hid (decide_eq_true (isC.of hk))
    have hk2 : (k : Int) < (c : Int) := by omega
    have hq : (t.g k != g) = false := by simp [hg]
    have h1' : ¬ n < 1 := by omega
    have hb := (hs k hk).b
    have hw : IntKind.i64.wrap (t.n k - n) = t.n k - n := IntWalk.i64_in _ (by omega)
    have hnf : ¬ t.n k < n := by omega
    have HFX := Lib.hid (h.fx hk 55)
    have HV := Lib.hid (h.alloc (.cells #[.int .i64 (t.g k), .int .i64 (t.n k)] 55))
    have HK0 := Lib.hid ((Kept.refl (· = r) w).alloc (.cells #[.int .i64 (t.g k), .int .i64 (t.n k)] 55))
    obtain ⟨P', hP'⟩ : ∃ P', t.put k g (t.n k - n) = P' := ⟨_, rfl⟩
    have HP : Hid (∀ w0, SV w0 48 55 B r c t → SV ((w0.setCell ⟨r, k * 2, none⟩ (.int .i64 (gOf g (t.n k - n)))).setCell ⟨r, k * 2 + 1, none⟩ (.int .i64 (t.n k - n))) 48 55 B r c P') := Lib.hid (fun w0 h0 => by rw [← hP']; exact h0.put hk _ _ _ rfl)
    rw [hP']
    generalize t.g k = G at *
    generalize t.n k = N at *
    obtain ⟨hl1, hl2⟩ := hl
    have hne := h.ne
    have hDr : w.heap.size ≠ r := by omega
    clear h hs hg hb hP'
    go_enter Try.func16, Try.ntmps16
    go_wp2_with (go_at_call 22; refine (cIsCpu HA.out _ _ HC.out).mono ?_; rintro e w1 ⟨rfl, rfl⟩)
    obtain ⟨w2, hw2⟩ : ∃ w2, w1.alloc (.cells #[.int .i64 G, .int .i64 N] 55) = w2 := ⟨_, rfl⟩
    rw [hw2] at HFX HV HK0 ⊢
    obtain ⟨D, hD⟩ : ∃ D, w1.heap.size = D := ⟨_, rfl⟩
    rw [hD] at HFX hDr ⊢
    clear hw2 hD c0 cg cn hl1 hl2 HA
    go_region_held3 (fun W => W.cell? ⟨B, 0, none⟩ = some (.slice (some ⟨r, 0, none⟩) c c) ∧ W.cell? ⟨D, 1, none⟩ = some (.int .i64 N))
      (first | exact fx_keep (HFX.out.below (Below.drew (Below.refl _ _))) | exact fx_keep (HFX.out.below (show Below w2.heap.size w2 _ from by assumption)) | exact fx_keep2 hne hDr (HFX.out.below (show Below w2.heap.size w2 _ from by assumption)))
      (first
        | (go_at_call 24; refine (cKeptOf _ _ _).mono ?_; rintro e w3 ⟨rfl, h3⟩; have hb4 : Below w2.heap.size w2 w3 := below_then (Below.drew (Below.refl _ _)) h3; obtain ⟨q0, q1, q2, q3, q4, q5, q6⟩ := HFX.out.below hb4))
    go_wp2
    go_ret
    exact ⟨rfl, HP.out _ (HV.out.below hb4), kept_two _ _ _ _ _ _ (HK0.out.trans (Kept.ofBelow hb4))⟩
end
end Go.Proofs.Ythjonjkeaiobdaa
