/-
  The program's reader: next, readTwo, readCall, readCalls.
-/
import Derived.Test.YtifkkblmcdggmaaBytes
import Derived.OneCell
set_option linter.unusedVariables false
set_option linter.unusedSimpArgs false
namespace Go.Proofs.Ytifkkblmcdggmaa
open Go Go.RowKit

/-- A reader at block k with these bytes left; they lie below B. -/
def Rd (B : Nat) (w : World) (k : Nat) (l : List Int) : Prop := B ≤ k ∧ ∃ ao cap, w.heap[k]? = some (.cells #[.slice ao l.length cap] 51 (0, 0)) ∧ (l.length ≤ cap ∧ cap ≤ 9223372036854775807) ∧
  ∀ j (h : j < l.length), ∃ b o, ao = some ⟨b, o, none⟩ ∧ b < B ∧ w.cell? ⟨b, o + j, none⟩ = some (.int .u8 l[j])
theorem Rd.keep {B k : Nat} {w w' : World} {l : List Int} (h : Rd B w k l) (hk : w'.heap[k]? = w.heap[k]?) (hb : Below B w w') : Rd B w' k l := by
  obtain ⟨hB, ao, cap, hc, hcap, hat⟩ := h
  refine ⟨hB, ao, cap, hk.trans hc, hcap, fun j hj => ?_⟩
  obtain ⟨b, o, e, hbB, hx⟩ := hat j hj
  exact ⟨b, o, e, hbB, (hb.cell (p := ⟨b, o + j, none⟩) hbB).trans hx⟩
theorem Rd.lt {B k : Nat} {w : World} {l : List Int} (h : Rd B w k l) : k < w.heap.size := by
  obtain ⟨hB, ao, cap, hc, _⟩ := h
  exact (Array.getElem?_eq_some_iff.1 hc).1
theorem below_grown {B k : Nat} {w w' : World} (h : w.grownBy w' (some k)) (hB : B ≤ k) (hk : B ≤ w.heap.size) : Below B w w' :=
  (Below.refl B w).grown h hk fun j hj => by cases hj; exact hB
theorem grown_refl (w : World) (r : Option Nat) : w.grownBy w r := ⟨rfl, rfl, rfl, Nat.le_refl _, fun _ _ _ => rfl⟩
theorem grown_trans {a b c : World} {r : Option Nat} (h : a.grownBy b r) (k : b.grownBy c r) : a.grownBy c r :=
  ⟨k.os.trans h.os, k.tape.trans h.tape, k.output.trans h.output, Nat.le_trans h.size k.size, fun i hi hne => (k.block i (Nat.lt_of_lt_of_le hi h.size) hne).trans (h.block i hi hne)⟩
theorem grown_alloc {a b : World} {r : Option Nat} (h : a.grownBy b r) (o : Obj) : a.grownBy (b.alloc o) r :=
  ⟨h.os, h.tape, h.output, Nat.le_trans h.size (by rw [size_alloc]; omega), fun i hi hne => (Below.heap_alloc _ _ _ (Nat.lt_of_lt_of_le hi h.size)).trans (h.block i hi hne)⟩
theorem grown_setCell (w : World) (k j : Nat) (u : Value) : w.grownBy (w.setCell ⟨k, j, none⟩ u) (some k) :=
  have h := (Below.refl 0 w).setCell (p := ⟨k, j, none⟩) (Nat.zero_le _) u
  ⟨h.os, h.tape, h.output, h.size, fun i hi hne => Below.heap_setCell w _ u i (fun e => hne (by rw [e]))⟩
/-- a row of one's own, made since, that grows: the old blocks stay -/
theorem grown_own {w wr w' : World} {r : Option Nat} {v v' : Value} {B : Nat} (h : w.grownBy wr r) (g : Grew wr w' v v') (hB : w.heap.size ≤ B) (hv : ∀ k, v.ownBlock = some k → B ≤ k) : w.grownBy w' r := by
  refine ⟨g.grow.os.trans h.os, g.grow.tape.trans h.tape, g.grow.output.trans h.output, Nat.le_trans h.size g.grow.size, fun i hi hne => ?_⟩
  rw [g.grow.block i (Nat.lt_of_lt_of_le hi h.size) ?_]
  · exact h.block i hi hne
  · intro e
    have := hv i e.symm
    omega

set_option maxHeartbeats 1000000 in
set_option maxRecDepth 100000 in
theorem cNext (B k : Nat) (l : List Int) (w : World) (h : Rd B w k l) (hy : Bytey l) :
    Calls Try.prog 28 #[.pointer (some ⟨k, 0, none⟩)] w fun e w' => e = .returned (.int .i64 (nx l)) ∧ Rd B w' k (l.drop 1) ∧ w.grownBy w' (some k) := by
  obtain ⟨hB, ao, cap, hc, hcap, hat⟩ := h
  have hcell : w.cell? ⟨k, 0, none⟩ = some (.slice ao l.length cap) := by unfold World.cell?; dsimp only; rw [hc]; rfl
  have hfz : w.frozen? ⟨k, 0, none⟩ = false := by unfold World.frozen?; dsimp only; rw [hc]; rfl
  cases l with
  | nil =>
    have HC := Lib.hid hc
    clear hc hat
    simp only [List.length_nil] at hcell
    go_enter Try.func28, Try.ntmps28
    go_wp2
    go_ret
    exact ⟨rfl, ⟨hB, ao, cap, HC.out, hcap, fun j hj => by simp at hj⟩, grown_refl _ _⟩
  | cons x r =>
    obtain ⟨b, o, rfl, hbB, hx⟩ := hat 0 (by simp)
    have hx' := hy x (by simp)
    simp only [Nat.add_zero, List.getElem_cons_zero] at hx
    have HAT := Lib.hid hat
    have HC := Lib.hid hc
    obtain ⟨n, hn⟩ : ∃ n, (x :: r).length = n := ⟨_, rfl⟩
    rw [hn] at hcell hcap
    have hn1 : 1 ≤ n := by rw [← hn]; simp
    have HN := Lib.hid hn
    clear hat hc hn
    go_enter Try.func28, Try.ntmps28
    have hnx : nx (x :: r) = x := rfl
    have hrl : r.length = n - 1 := by rw [← HN.out]; simp
    have hfin : ∀ (ao' : Option Addr), (0 < n - 1 → ao' = some ⟨b, o + 1, none⟩) → Rd B (w.setCell ⟨k, 0, none⟩ (.slice ao' (n - 1) (cap - 1))) k r := by
      intro ao' hao
      have hs := one_setCell (u := .slice ao' (n - 1) (cap - 1)) HC.out
      refine ⟨hB, ao', cap - 1, by rw [hrl]; exact hs, by omega, fun j hj => ?_⟩
      obtain ⟨b', o', e, _, hx2⟩ := HAT.out (j + 1) (by simp; omega)
      have e' : b = b' ∧ o = o' := by simpa using e
      obtain ⟨rfl, rfl⟩ := e'
      refine ⟨b, o + 1, hao (by omega), hbB, ?_⟩
      have hbl := (Below.refl B w).setCell (p := ⟨k, 0, none⟩) hB (.slice ao' (n - 1) (cap - 1))
      rw [hbl.cell (p := ⟨b, o + 1 + j, none⟩) hbB, show o + 1 + j = o + (j + 1) by omega, hx2]
      simp
    have HF := Lib.hid hfin
    clear hfin hrl
    clear hnx
    by_cases hc1 : cap = 1
    · subst hc1
      have hn0 : n = 1 := by omega
      subst hn0
      have HF1 := Lib.hid (HF.out (some ⟨b, o, none⟩) (fun h => by omega))
      go_wp2
      go_ret
      exact ⟨rfl, HF1.out, grown_setCell _ _ _ _⟩
    · go_wp2
      go_ret
      exact ⟨rfl, HF.out _ (fun _ => rfl), grown_setCell _ _ _ _⟩

/-- the method value 'r.next' -/
abbrev nextOf (k : Nat) : Value := .func (.func 28) #[.pointer (some ⟨k, 0, none⟩)] #[]

theorem or_bytes (a b : Int) (ha : 0 ≤ a) (ha' : a ≤ 255) (hb : 0 ≤ b) (hb' : b ≤ 255) : bits BinOp.or IntKind.i64 (a * 256) b = a * 256 + b := by
  obtain ⟨n, rfl⟩ : ∃ n : Nat, a = n := ⟨a.toNat, by omega⟩
  obtain ⟨m, rfl⟩ : ∃ m : Nat, b = m := ⟨b.toNat, by omega⟩
  show IntKind.i64.wrap ((BitVec.ofInt 64 ((n : Int) * 256) ||| BitVec.ofInt 64 (m : Int)).toNat : Int) = _
  have e1 : BitVec.ofInt 64 ((n : Int) * 256) = BitVec.ofNat 64 (2 ^ 8 * n) := by
    rw [show (n : Int) * 256 = ((2 ^ 8 * n : Nat) : Int) by omega]
    exact BitVec.ofInt_natCast _ _
  have e2 : BitVec.ofInt 64 (m : Int) = BitVec.ofNat 64 m := BitVec.ofInt_natCast _ _
  rw [e1, e2, BitVec.toNat_or, BitVec.toNat_ofNat, BitVec.toNat_ofNat, Nat.mod_eq_of_lt (by omega), Nat.mod_eq_of_lt (by omega), ← Nat.two_pow_add_eq_or_of_lt (by omega : m < 2 ^ 8)]
  rw [show ((2 ^ 8 * n + m : Nat) : Int) = (n : Int) * 256 + m by omega]
  exact IntWalk.i64_in _ (by omega)
set_option maxHeartbeats 1000000 in
set_option maxRecDepth 100000 in
theorem cReadTwo (B k : Nat) (l : List Int) (w : World) (h : Rd B w k l) (hy : Bytey l) :
    Calls Try.prog 29 #[nextOf k] w fun e w' => e = .returned (.int .i64 (two l)) ∧ Rd B w' k (l.drop 2) ∧ w.grownBy w' (some k) := by
  have h1 := hy.nx
  have h2 := (hy.drop 1).nx
  obtain ⟨a, ha⟩ : ∃ a, nx l = a := ⟨_, rfl⟩
  obtain ⟨b, hb⟩ : ∃ b, nx (l.drop 1) = b := ⟨_, rfl⟩
  have HT : Hid (two l = a * 256 + b) := Lib.hid (by unfold two; rw [ha, hb])
  have HA := Lib.hid ha
  have HB := Lib.hid hb
  rw [ha] at h1
  rw [hb] at h2
  clear ha hb
  go_enter Try.func29, Try.ntmps29
  go_wp2_with fail
  refine (cNext B k l _ h hy).mono ?_
  rintro e w1 ⟨rfl, r1, g1⟩
  rw [HA.out]
  go_wp2_with fail
  refine (cNext B k _ _ r1 (hy.drop 1)).mono ?_
  rintro e w2 ⟨rfl, r2, g2⟩
  rw [HB.out]
  have hor := or_bytes a b h1.1 h1.2 h2.1 h2.2
  go_wp2
  go_ret
  refine ⟨ret_int (by rw [HT.out]), ?_, grown_trans g1 g2⟩
  simpa using r2

theorem grown_new {w wr : World} {r : Option Nat} (h : w.grownBy wr r) {K : Nat} (hK : w.heap.size ≤ K) (j : Nat) (u : Value) : w.grownBy (wr.setCell ⟨K, j, none⟩ u) r := by
  have g := grown_setCell wr K j u
  refine ⟨g.os.trans h.os, g.tape.trans h.tape, g.output.trans h.output, Nat.le_trans h.size g.size, fun i hi hne => ?_⟩
  rw [g.block i (Nat.lt_of_lt_of_le hi h.size) (fun e => by cases e; omega)]
  exact h.block i hi hne
theorem Rd.set {B k : Nat} {w : World} {l : List Int} (h : Rd B w k l) {K : Nat} (hne : k ≠ K) (hB : B ≤ K) (j : Nat) (u : Value) : Rd B (w.setCell ⟨K, j, none⟩ u) k l :=
  h.keep (Below.heap_setCell w _ u k hne) ((Below.refl B w).setCell (p := ⟨K, j, none⟩) hB u)
theorem Rd.alloc {B k : Nat} {w : World} {l : List Int} (h : Rd B w k l) (o : Obj) : Rd B (w.alloc o) k l :=
  h.keep (Below.heap_alloc w o k h.lt) (((Below.refl B w).alloc (Nat.le_trans h.1 (Nat.le_of_lt h.lt)) o))

theorem self_free {w : World} {K : Nat} {cs : Array Value} {t : TypeId} (h : w.heap[K]? = some (.cells cs t (0, 0))) (j : Nat) : w.frozen? ⟨K, j, none⟩ = false := by
  unfold World.frozen?
  dsimp only
  rw [h]
  simp
theorem res34 : Try.f34.results = #[.cell 2 44] := rfl
theorem Rd.cut {B k : Nat} {w : World} {l : List Int} {n : Nat} (h : Rd B w k l) (e : l.length = n) : Rd B w k l := h

set_option maxHeartbeats 4000000 in
set_option maxRecDepth 100000 in
theorem cReadCall (B k : Nat) (l : List Int) (w : World) (h : Rd B w k l) (hy : Bytey l) :
    Calls Try.prog 34 #[nextOf k] w fun e w' => e = .returned (.agg #[.int .i64 (callAt l).op, .int .i64 (callAt l).a, .int .i64 (callAt l).b, .int .i64 (callAt l).c]) ∧ Rd B w' k (l.drop 5) ∧ w.grownBy w' (some k) := by
  have hk := h.lt
  have hBk := h.1
  have h0 := hy.nx
  obtain ⟨x0, e0⟩ : ∃ x, nx l = x := ⟨_, rfl⟩
  obtain ⟨x1, e1⟩ : ∃ x, nx (l.drop 1) = x := ⟨_, rfl⟩
  obtain ⟨x2, e2⟩ : ∃ x, two (l.drop 2) = x := ⟨_, rfl⟩
  obtain ⟨x3, e3⟩ : ∃ x, nx (l.drop 4) = x := ⟨_, rfl⟩
  rw [e0] at h0
  have HC : Hid (callAt l = ⟨x0 % 14, x1, x2, x3⟩) := Lib.hid (by unfold callAt; rw [e0, e1, e2, e3])
  have H0 := Lib.hid e0
  have H1 := Lib.hid e1
  have H2 := Lib.hid e2
  have H3 := Lib.hid e3
  clear e0 e1 e2 e3
  rw [HC.out]
  have hm : x0.tmod 14 = x0 % 14 := Int.tmod_eq_emod_of_nonneg h0.1
  go_enter Try.func34, Try.ntmps34
  go_wp2_with fail
  refine (cNext B k l _ (h.alloc _) hy).mono ?_
  rintro e w1 ⟨rfl, r1, g1⟩
  rw [H0.out]
  go_wp2_with fail
  refine (cNext B k _ _ r1 (hy.drop 1)).mono ?_
  rintro e w2 ⟨rfl, r2, g2⟩
  rw [H1.out]
  rw [List.drop_drop] at r2
  go_wp2_with fail
  refine (cReadTwo B k _ _ r2 (hy.drop 2)).mono ?_
  rintro e w3 ⟨rfl, r3, g3⟩
  rw [H2.out]
  rw [List.drop_drop] at r3
  go_wp2_with fail
  refine (cNext B k _ _ r3 (hy.drop 4)).mono ?_
  rintro e w4 ⟨rfl, r4, g4⟩
  rw [H3.out]
  rw [List.drop_drop] at r4
  have g : w.grownBy w4 (some k) := grown_trans (grown_alloc (grown_refl _ _) _) (grown_trans g1 (grown_trans g2 (grown_trans g3 g4)))
  have g14 := grown_trans g1 (grown_trans g2 (grown_trans g3 g4))
  have hself : w4.heap[w.heap.size]? = some (.cells #[.int .i64 0, .int .i64 0, .int .i64 0, .int .i64 0] 44 (0, 0)) := (g14.block w.heap.size (by rw [size_alloc]; omega) (fun e => by cases e; omega)).trans (heap_new _ _)
  obtain ⟨c0, c1, c2, c3⟩ := self4 hself
  have hfz : ∀ j, w4.frozen? ⟨w.heap.size, j, none⟩ = false := fun j => self_free hself j
  have f0 := hfz 0
  have f1 := hfz 1
  have f2 := hfz 2
  have f3 := hfz 3
  clear hfz hself g14
  go_wp2
  refine bodyPost_ret (v := .agg #[.int .i64 (x0 % 14), .int .i64 x1, .int .i64 x2, .int .i64 x3]) (by simp [results, res34, go_sem, c0, c1, c2, c3]) rfl ?_
  refine ⟨rfl, ?_, ?_⟩
  · exact (((r4.set (by omega) (by omega) _ _).set (by omega) (by omega) _ _).set (by omega) (by omega) _ _).set (by omega) (by omega) _ _
  · exact grown_new (grown_new (grown_new (grown_new g (Nat.le_refl _) _ _) (Nat.le_refl _) _ _) (Nat.le_refl _) _ _) (Nat.le_refl _) _ _
end Go.Proofs.Ytifkkblmcdggmaa
