/-
  The document's own reader: next, two.
-/
import Derived.Test.YtifkkblmcdggmaaScript
import Derived.Test.YtifkkblmcdggmaaSmall
set_option linter.unusedVariables false
set_option linter.unusedSimpArgs false
namespace Go.Proofs.Ytifkkblmcdggmaa
open Go Go.RowKit

/-- The reader at block k over the bytes l, which lie below B: what is left is r. -/
def RR (B : Nat) (w : World) (k : Nat) (l r : List Int) : Prop := B ≤ k ∧ ∃ (ao : Option Addr) (cap at_ : Nat), w.heap[k]? = some (.cells #[.slice ao l.length cap, .int .i64 at_] 57 (0, 0)) ∧ (l.length ≤ cap ∧ cap ≤ 9223372036854775807) ∧ at_ ≤ l.length ∧ r = l.drop at_ ∧
  ∀ j (h : j < l.length), ∃ b o, ao = some ⟨b, o, none⟩ ∧ b < B ∧ w.cell? ⟨b, o + j, none⟩ = some (.int .u8 l[j])
theorem RR.keep {B k : Nat} {w w' : World} {l r : List Int} (h : RR B w k l r) (hk : w'.heap[k]? = w.heap[k]?) (hb : Below B w w') : RR B w' k l r := by
  obtain ⟨hB, ao, cap, a, hc, hcap, ha, hr, hat⟩ := h
  refine ⟨hB, ao, cap, a, hk.trans hc, hcap, ha, hr, fun j hj => ?_⟩
  obtain ⟨b, o, e, hbB, hx⟩ := hat j hj
  exact ⟨b, o, e, hbB, (hb.cell (p := ⟨b, o + j, none⟩) hbB).trans hx⟩
theorem RR.lt {B k : Nat} {w : World} {l r : List Int} (h : RR B w k l r) : k < w.heap.size := by
  obtain ⟨hB, ao, cap, a, hc, _⟩ := h
  exact (Array.getElem?_eq_some_iff.1 hc).1
theorem RR.set {B k : Nat} {w : World} {l r : List Int} (h : RR B w k l r) {K : Nat} (hne : k ≠ K) (hB : B ≤ K) (j : Nat) (u : Value) : RR B (w.setCell ⟨K, j, none⟩ u) k l r :=
  h.keep (Below.heap_setCell w _ u k hne) ((Below.refl B w).setCell (p := ⟨K, j, none⟩) hB u)
theorem RR.alloc {B k : Nat} {w : World} {l r : List Int} (h : RR B w k l r) (o : Obj) : RR B (w.alloc o) k l r :=
  h.keep (Below.heap_alloc w o k h.lt) (((Below.refl B w).alloc (Nat.le_trans h.1 (Nat.le_of_lt h.lt)) o))
theorem RR.drewN {B k : Nat} {w : World} {l r : List Int} (h : RR B w k l r) (n : Nat) : RR B (w.drewN n) k l r := h.keep rfl (below_drewN (Below.refl _ _) n)
theorem cells_set {w : World} {K : Nat} {cs : Array Value} {t : TypeId} (h : w.heap[K]? = some (.cells cs t (0, 0))) (j : Nat) (u : Value) : (w.setCell ⟨K, j, none⟩ u).heap[K]? = some (.cells (cs.setIfInBounds j u) t (0, 0)) := by
  have hlt := lt_of_block h
  have h' : w.heap[K] = .cells cs t (0, 0) := by simpa [Array.getElem?_eq_getElem hlt] using h
  show (w.heap.modify K _)[K]? = _
  rw [Array.getElem?_eq_getElem (by simpa using hlt), Array.getElem_modify_self, h']
  rfl
theorem grown_drewN {w w' : World} {r : Option Nat} (h : w.grownBy w' r) (n : Nat) : w.grownBy (w'.drewN n) r := ⟨h.os, h.tape, h.output, h.size, h.block⟩

set_option maxHeartbeats 1000000 in
set_option maxRecDepth 100000 in
theorem cRNext (B k : Nat) (l r : List Int) (w : World) (h : RR B w k l r) (hy : Bytey l) :
    Calls Try.prog 31 #[.pointer (some ⟨k, 0, none⟩)] w fun e w' => e = .returned (.int .i64 (nx r)) ∧ RR B w' k l (r.drop 1) ∧ w.grownBy w' (some k) := by
  obtain ⟨hB, ao, cap, a, hc, hcap, ha, rfl, hat⟩ := h
  have hcell0 : w.cell? ⟨k, 0, none⟩ = some (.slice ao l.length cap) := by unfold World.cell?; dsimp only; rw [hc]; rfl
  have hcell1 : w.cell? ⟨k, 1, none⟩ = some (.int .i64 a) := by unfold World.cell?; dsimp only; rw [hc]; rfl
  have hfz : w.frozen? ⟨k, 1, none⟩ = false := by unfold World.frozen?; dsimp only; rw [hc]; rfl
  by_cases hlt : a < l.length
  · obtain ⟨b, o, rfl, hbB, hx⟩ := hat a hlt
    have hx' := hy _ (List.getElem_mem hlt)
    have HN : Hid (nx (l.drop a) = l[a]) := Lib.hid (by rw [List.drop_eq_getElem_cons hlt]; rfl)
    have HC := Lib.hid hc
    have hfin : ∀ q m, RR B (((w.drewN q).setCell ⟨k, 1, none⟩ (.int .i64 ((a : Int) + 1))).drewN m) k l ((l.drop a).drop 1) := by
      intro q m
      refine ⟨hB, some ⟨b, o, none⟩, cap, a + 1, ?_, hcap, hlt, by rw [List.drop_drop], fun j hj => ?_⟩
      · exact cells_set (w := w.drewN q) HC.out 1 _
      · obtain ⟨b', o', e, hb', hx2⟩ := hat j hj
        refine ⟨b', o', e, hb', ?_⟩
        have hbl := below_drewN ((below_drewN (Below.refl B w) q).setCell (p := ⟨k, 1, none⟩) hB (.int .i64 ((a : Int) + 1))) m
        rw [hbl.cell (p := ⟨b', o' + j, none⟩) hb', hx2]
    have HF := Lib.hid hfin
    have hgr : ∀ q m, w.grownBy (((w.drewN q).setCell ⟨k, 1, none⟩ (.int .i64 ((a : Int) + 1))).drewN m) (some k) := fun q m => grown_drewN (grown_trans (grown_drewN (grown_refl w _) q) (grown_setCell (w.drewN q) k 1 _)) m
    have HG := Lib.hid hgr
    have hkb : k ≠ b := by omega
    clear hat hc hfin hgr
    generalize l[a] = x at hx hx' HN
    go_enter Try.func31, Try.ntmps31
    go_wp2
    go_quiet (fail)
    go_wp2
    go_quiet (fail)
    go_wp2
    go_ret
    exact ⟨ret_int HN.out.symm, HF.out _ _, HG.out _ _⟩
  · have hae : a = l.length := by omega
    subst hae
    have HR : Hid (RR B w k l ((l.drop l.length).drop 1)) := Lib.hid ⟨hB, ao, cap, l.length, hc, hcap, Nat.le_refl _, by simp, hat⟩
    have HN : Hid (nx (l.drop l.length) = 0) := Lib.hid (by rw [List.drop_length]; rfl)
    clear hat hc
    go_enter Try.func31, Try.ntmps31
    go_wp2
    go_quiet (fail)
    go_wp2
    go_ret
    exact ⟨ret_int HN.out.symm, HR.out.drewN _, grown_drewN (grown_refl _ _) _⟩

set_option maxHeartbeats 1000000 in
set_option maxRecDepth 100000 in
theorem cRTwo (B k : Nat) (l r : List Int) (w : World) (h : RR B w k l r) (hy : Bytey l) (hyr : Bytey r) :
    Calls Try.prog 32 #[.pointer (some ⟨k, 0, none⟩)] w fun e w' => e = .returned (.int .i64 (two r)) ∧ RR B w' k l (r.drop 2) ∧ w.grownBy w' (some k) := by
  have h1 := hyr.nx
  have h2 := (hyr.drop 1).nx
  obtain ⟨a, ha⟩ : ∃ a, nx r = a := ⟨_, rfl⟩
  obtain ⟨b, hb⟩ : ∃ b, nx (r.drop 1) = b := ⟨_, rfl⟩
  have HT : Hid (two r = a * 256 + b) := Lib.hid (by unfold two; rw [ha, hb])
  have HA := Lib.hid ha
  have HB := Lib.hid hb
  rw [ha] at h1
  rw [hb] at h2
  clear ha hb
  go_enter Try.func32, Try.ntmps32
  go_wp2_with fail
  refine (cRNext B k l r _ h hy).mono ?_
  rintro e w1 ⟨rfl, r1, g1⟩
  rw [HA.out]
  go_wp2_with fail
  refine (cRNext B k l _ _ r1 hy).mono ?_
  rintro e w2 ⟨rfl, r2, g2⟩
  rw [HB.out]
  go_wp2
  go_ret
  refine ⟨ret_int (by rw [HT.out]), ?_, grown_trans g1 g2⟩
  simpa using r2
end Go.Proofs.Ytifkkblmcdggmaa
