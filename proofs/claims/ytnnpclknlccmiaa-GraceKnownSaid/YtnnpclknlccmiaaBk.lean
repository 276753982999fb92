/-
  What is noted, in a world: the book; its helpers unlocked and reported.
-/
import Derived.Test.YtnnpclknlccmiaaBm
set_option linter.unusedVariables false
set_option linter.unusedSimpArgs false
namespace Go.Proofs.Ytnnpclknlccmiaa
open Go Go.RowKit

def bkV (vs : Nat → Value) (k : Bk) (i : Nat) : Value := if i < 3 then .int .i64 (k.dp i) else vs (i - 3)
structure KV (w : World) (K : Nat) (vs : Nat → Value) (k : Bk) : Prop where
  box : w.rowIs K 41 6 (bkV vs k)
  row : ∀ i, i < 3 → RowR w (vs i) (k.cs i)
  apart : ∀ i j, i < 3 → j < 3 → i ≠ j → ∀ b, (vs i).ownBlock = some b → (vs j).ownBlock ≠ some b
  typ : ∀ i, i < 3 → ∀ b, (vs i).ownBlock = some b → ∃ c, w.heap[b]? = some (.cells c 68 (0, 0))
/-- the blocks that it lies in -/
def SB (K : Nat) (vs : Nat → Value) (k : Nat) : Prop := k = K ∨ ∃ i, i < 3 ∧ (vs i).ownBlock = some k
def tysB : List TypeId := [41, 68]
section
variable {S : Nat → Prop} {w w' : World} {K : Nat} {vs : Nat → Value} {k : Bk} {c : Nat} {v' : Value} {l l' : List Rc}
theorem KV.cd (h : KV w K vs k) (hc : c < 3) : w.cell? ⟨K, c, none⟩ = some (.int .i64 (k.dp c)) := by
  rw [h.box.cell (show c < 6 by omega), bkV, if_pos hc]
theorem KV.cc (h : KV w K vs k) (hc : c < 3) : w.cell? ⟨K, 3 + c, none⟩ = some (vs c) := by
  rw [h.box.cell (show 3 + c < 6 by omega), bkV, if_neg (by omega), show 3 + c - 3 = c by omega]
theorem KV.fr (h : KV w K vs k) (i : Nat) : w.frozen? ⟨K, i, none⟩ = false := h.box.frozen i
theorem KV.tys (h : KV w K vs k) : ∀ b, SB K vs b → Typ w tysB b := by
  rintro b (rfl | ⟨i, hi, e⟩)
  · obtain ⟨c, hb, _⟩ := h.box
    exact ⟨c, _, _, hb, by decide⟩
  · obtain ⟨c, hb⟩ := h.typ i hi b e
    exact ⟨c, _, _, hb, by decide⟩
theorem KV.ne (h : KV w K vs k) {i b : Nat} (hi : i < 3) (e : (vs i).ownBlock = some b) : b ≠ K := by
  obtain ⟨c, hb⟩ := h.typ i hi b e
  exact box_ne hb h.box (by decide)
theorem KV.kept {Ts : List TypeId} (h : KV w K vs k) (hk : Kept S w w') (hS : ∀ k, S k → Typ w Ts k) (hT : ∀ T ∈ tysB, T ∉ Ts) : KV w' K vs k :=
  ⟨row_kept2 h.box hk hS (hT _ (by decide)), fun i hi => (h.row i hi).kept hk hS (hT _ (by decide)), h.apart, fun i hi b e => by
    obtain ⟨c, hb⟩ := h.typ i hi b e
    exact ⟨c, (hk.block b (lt_of_block hb) (fun e => (hS b e).ne hb (hT _ (by decide)) rfl)).trans hb⟩⟩
theorem KV.below (h : KV w K vs k) (hb : Below w.heap.size w w') : KV w' K vs k := h.kept (S := fun _ => False) (Ts := []) (Kept.ofBelow hb) (fun _ e => e.elim) (by simp)
theorem kset_deep (h : KV w K vs k) {d : Nat} {x : Int} (hc : c < 3) (hx : x = d) : KV (w.setCell ⟨K, c, none⟩ (.int .i64 x)) K vs (k.deep c d) ∧ Kept (SB K vs) w (w.setCell ⟨K, c, none⟩ (.int .i64 x)) := by
  subst hx
  have hk : Kept (· = K) w (w.setCell ⟨K, c, none⟩ (.int .i64 d)) := Kept.setCell (S := (· = K)) (p := ⟨K, c, none⟩) (Kept.refl _ w) rfl _
  refine ⟨⟨(h.box.set c _).congr fun i hi => ?_, fun i hi => (h.row i hi).of_block (fun b e _ => hk.block b ?_ (fun e2 => h.ne hi e e2)), h.apart, fun i hi b e => ?_⟩, hk.mono (fun k e => .inl e)⟩
  · unfold bkV
    by_cases e : i = c
    · subst e
      rw [if_pos rfl, if_pos hc]
      show _ = Value.int .i64 (upd k.dp i d i : Nat)
      rw [upd_same]
    · rw [if_neg e]
      by_cases e2 : i < 3
      · rw [if_pos e2, if_pos e2]
        show _ = Value.int .i64 (upd k.dp c d i : Nat)
        rw [upd_other _ _ e]
      · rw [if_neg e2, if_neg e2]
  · obtain ⟨c, hb⟩ := h.typ i hi b e
    exact lt_of_block hb
  · obtain ⟨c, hb⟩ := h.typ i hi b e
    exact ⟨c, (hk.block b (lt_of_block hb) (fun e2 => h.ne hi e e2)).trans hb⟩
/-- a row has been changed in its place -/
theorem KV.put (h : KV w K vs k) (hc : c < 3) (hk : Kept S w w') (hS : ∀ b, S b → (vs c).ownBlock = some b) (hr : RowR w' (vs c) l') (ht : ∀ b, (vs c).ownBlock = some b → ∃ x, w'.heap[b]? = some (.cells x 68 (0, 0))) : KV w' K vs (k.row c l') ∧ Kept (SB K vs) w w' := by
  have hnK : ¬ S K := fun e => h.ne hc (hS K e) rfl
  refine ⟨⟨(row_kept h.box hk hnK).congr fun i _ => rfl, fun i hi => ?_, h.apart, fun i hi b e => ?_⟩, hk.mono (fun b e => .inr ⟨c, hc, hS b e⟩)⟩
  · show RowR w' (vs i) (upd k.cs c l' i)
    by_cases e : i = c
    · subst e; rw [upd_same]; exact hr
    · rw [upd_other _ _ e]
      exact (h.row i hi).of_block fun b e2 ⟨cur, hb⟩ => hk.block b (lt_of_block hb) (fun e3 => h.apart i c hi hc e b e2 (hS b e3))
  · by_cases ei : i = c
    · subst ei; exact ht b e
    · obtain ⟨x, hb⟩ := h.typ i hi b e
      exact ⟨x, (hk.block b (lt_of_block hb) (fun e3 => h.apart i c hi hc ei b e (hS b e3))).trans hb⟩
/-- another one is put in its place -/
theorem KV.put2 (h : KV w K vs k) (hc : c < 3) (hk : Kept S w w') (hS : ∀ b, S b → (vs c).ownBlock = some b) (hr : RowR w' v' l') (ht : ∀ b, v'.ownBlock = some b → (∃ x, w'.heap[b]? = some (.cells x 68 (0, 0))) ∧ ((vs c).ownBlock = some b ∨ w.heap.size ≤ b)) :
    KV (w'.setCell ⟨K, 3 + c, none⟩ v') K (upd vs c v') (k.row c l') ∧ Kept (SB K vs) w (w'.setCell ⟨K, 3 + c, none⟩ v') := by
  have hnK : ¬ S K := fun e => h.ne hc (hS K e) rfl
  have hbox' : w'.rowIs K 41 6 (bkV vs k) := row_kept h.box hk hnK
  have hset : Kept (· = K) w' (w'.setCell ⟨K, 3 + c, none⟩ v') := Kept.setCell (S := (· = K)) (p := ⟨K, 3 + c, none⟩) (Kept.refl _ w') rfl v'
  have tyK : ∀ k, k = K → Typ w' [41] k := by
    rintro k rfl
    obtain ⟨x, hb, _⟩ := hbox'
    exact ⟨x, _, _, hb, by decide⟩
  have old : ∀ i, i < 3 → i ≠ c → ∀ b, (vs i).ownBlock = some b → ∃ x, w.heap[b]? = some (.cells x 68 (0, 0)) ∧ w'.heap[b]? = w.heap[b]? := by
    intro i hi ei b e
    obtain ⟨x, hb⟩ := h.typ i hi b e
    exact ⟨x, hb, hk.block b (lt_of_block hb) (fun e3 => h.apart i c hi hc ei b e (hS b e3))⟩
  refine ⟨⟨(hbox'.set (3 + c) v').congr fun i hi => ?_, fun i hi => ?_, fun i j hi hj hij b e1 e2 => ?_, fun i hi b e => ?_⟩, (hk.mono (fun b e => .inr ⟨c, hc, hS b e⟩)).trans (hset.mono (fun k e => .inl e))⟩
  · unfold bkV
    by_cases e : i = 3 + c
    · subst e
      rw [if_pos rfl, if_neg (by omega), show 3 + c - 3 = c by omega, upd_same]
    · rw [if_neg e]
      by_cases e2 : i < 3
      · rw [if_pos e2, if_pos e2]; rfl
      · rw [if_neg e2, if_neg e2, upd_other _ _ (by omega)]
  · show RowR _ (upd vs c v' i) (upd k.cs c l' i)
    by_cases e : i = c
    · subst e
      rw [upd_same, upd_same]
      exact hr.kept hset tyK (by decide)
    · rw [upd_other _ _ e, upd_other _ _ e]
      have h1 : RowR w' (vs i) (k.cs i) := (h.row i hi).of_block fun b e2 _ => by
        obtain ⟨x, _, hb⟩ := old i hi e b e2
        exact hb
      exact h1.kept hset tyK (by decide)
  · by_cases ei : i = c
    · subst ei
      rw [upd_same] at e1
      rw [upd_other _ _ (fun e => hij e.symm)] at e2
      rcases (ht b e1).2 with e3 | e3
      · exact h.apart i j hi hj hij b e3 e2
      · obtain ⟨x, hb⟩ := h.typ j hj b e2
        have := lt_of_block hb
        omega
    · rw [upd_other _ _ ei] at e1
      by_cases ej : j = c
      · subst ej
        rw [upd_same] at e2
        rcases (ht b e2).2 with e3 | e3
        · exact h.apart i j hi hj hij b e1 e3
        · obtain ⟨x, hb⟩ := h.typ i hi b e1
          have := lt_of_block hb
          omega
      · rw [upd_other _ _ ej] at e2
        exact h.apart i j hi hj hij b e1 e2
  · have h1 : ∃ x, w'.heap[b]? = some (.cells x 68 (0, 0)) := by
      by_cases ei : i = c
      · subst ei
        rw [upd_same] at e
        exact (ht b e).1
      · rw [upd_other _ _ ei] at e
        obtain ⟨x, hb, hb2⟩ := old i hi ei b e
        exact ⟨x, hb2.trans hb⟩
    obtain ⟨x, hb⟩ := h1
    exact ⟨x, (hset.block b (lt_of_block hb) (fun e3 => (tyK b e3).ne hb (by decide) rfl)).trans hb⟩
theorem row_row (k : Bk) (c : Nat) (l l' : List Rc) : (k.row c l).row c l' = k.row c l' := by
  unfold Bk.row
  congr 1
  funext i
  show upd (upd k.cs c l) c l' i = upd k.cs c l' i
  by_cases e : i = c
  · subst e; rw [upd_same, upd_same]
  · rw [upd_other _ _ e, upd_other _ _ e, upd_other _ _ e]
theorem row_self (k : Bk) (c : Nat) : k.row c (k.cs c) = k := by
  unfold Bk.row
  have : upd k.cs c (k.cs c) = k.cs := by
    funext i
    by_cases e : i = c
    · subst e; rw [upd_same]
    · rw [upd_other _ _ e]
  rw [this]
/-- the first i rows have been turned -/
def Bk.upto (k : Bk) (f : Rc → Rc) (i : Nat) : Bk := { k with cs := fun a => if a < i then (k.cs a).map f else k.cs a }
theorem KV.congr (h : KV w K vs k) {k' : Bk} (hd : ∀ i, i < 3 → k'.dp i = k.dp i) (hr : ∀ i, i < 3 → k'.cs i = k.cs i) : KV w K vs k' :=
  ⟨h.box.congr fun i hi => by
    unfold bkV
    by_cases e : i < 3
    · rw [if_pos e, if_pos e, hd i e]
    · rw [if_neg e, if_neg e], fun i hi => by rw [hr i hi]; exact h.row i hi, h.apart, h.typ⟩
/-- one cell of one record is turned -/
theorem KV.turn {f : Rc → Rc} {off : Nat} {i m : Nat} {L : List Rc} {b O cap : Nat} (h : KV w K vs (k.row i (turn f m L))) (hf : ∀ x j, j < 17 → (f x).cells[j]? = if j = off then some (.bool false) else x.cells[j]?) (ho : off < 17) (hi : i < 3) (hm : m < L.length) (hv : vs i = .slice (some ⟨b, O, none⟩) L.length cap) :
    KV (w.setCell ⟨b, O + m * 17 + off, none⟩ (.bool false)) K vs (k.row i (turn f (m + 1) L)) ∧ Kept (SB K vs) w (w.setCell ⟨b, O + m * 17 + off, none⟩ (.bool false)) := by
  have hr := h.row i hi
  have hcs : (k.row i (Go.Proofs.Ytnnpclknlccmiaa.turn f m L)).cs i = Go.Proofs.Ytnnpclknlccmiaa.turn f m L := upd_same _ _ _
  have hcs2 : (Go.Proofs.Ytnnpclknlccmiaa.turn f m L).length = L.length := turn_length f m L
  rw [hcs, hv] at hr
  have hk : Kept (· = b) w (w.setCell ⟨b, O + m * 17 + off, none⟩ (.bool false)) := Kept.setCell (S := (· = b)) (p := ⟨b, O + m * 17 + off, none⟩) (Kept.refl _ w) rfl _
  have hwr := RowR.write (w := w) (b := b) (O := O) (cap := cap) (l := Go.Proofs.Ytnnpclknlccmiaa.turn f m L) (l' := Go.Proofs.Ytnnpclknlccmiaa.turn f (m + 1) L) (k := m) (j := off) (u := .bool false) (by rw [hcs2]; exact hr) (by omega) (by rw [turn_length, turn_length]) (fun a ha j hj => by
    rw [hcs2] at ha
    by_cases e : a = m
    · subst e
      have e1 : rc (Go.Proofs.Ytnnpclknlccmiaa.turn f (a + 1) L) a = f (rc L a) := by rw [turn_rc f (a + 1) L ha, if_pos (Nat.lt_succ_self a)]
      have e2 : rc (Go.Proofs.Ytnnpclknlccmiaa.turn f a L) a = rc L a := by rw [turn_rc f a L ha, if_neg (Nat.lt_irrefl a)]
      rw [e1, e2, hf _ j hj]
      by_cases e3 : j = off
      · rw [if_pos e3, if_pos ⟨rfl, e3⟩]
      · rw [if_neg e3, if_neg (fun e => e3 e.2)]
    · have e1 : rc (Go.Proofs.Ytnnpclknlccmiaa.turn f (m + 1) L) a = rc (Go.Proofs.Ytnnpclknlccmiaa.turn f m L) a := by
        rw [turn_rc f (m + 1) L ha, turn_rc f m L ha]
        by_cases e3 : a < m
        · rw [if_pos e3, if_pos (by omega)]
        · rw [if_neg e3, if_neg (by omega)]
      rw [e1, if_neg (fun e2 => e e2.1)]) ho
  rw [hcs2] at hwr
  obtain ⟨x, hb⟩ := h.typ i hi b (by rw [hv]; rfl)
  have := h.put (l' := Go.Proofs.Ytnnpclknlccmiaa.turn f (m + 1) L) hi hk (fun b' e => by subst e; rw [hv]; rfl) (by rw [hv]; exact hwr) (fun b' e => by
    rw [hv] at e
    obtain rfl : b = b' := by simpa [Value.ownBlock] using e
    exact ⟨_, cells_set hb _ _⟩)
  rw [row_row] at this
  exact this
end
end Go.Proofs.Ytnnpclknlccmiaa
