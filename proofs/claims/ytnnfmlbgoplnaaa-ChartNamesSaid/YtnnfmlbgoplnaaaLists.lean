/-
  The laws LinkLists and LinkAll, walked.
-/
import Derived.Test.YtnnfmlbgoplnaaaRls
set_option linter.unusedVariables false
set_option linter.unusedSimpArgs false
namespace Go.Proofs.Ytnnfmlbgoplnaaa
open Go Go.RowKit

theorem cList (u : Value) (l : List Int) (k a : Int) (out : List Int) (err : Int) (w : World) (hs : ShowU w u l) (hk : okW k) (hr : lst l k a = (out, err)) :
    Calls Try.prog 72 #[u, .int .u64 k, .int .i64 a] w fun e w' => ∃ ao cp, e = .returned (.tuple #[.slice ao out.length cp, .int .i64 err]) ∧ OwnI w.heap.size w' (.slice ao out.length cp) out ∧ Below w.heap.size w w' := by
  by_cases h : okL l a
  · exact cListOk u l k a out err w hs hk h hr
  · refine (cListBad u l k a hs h).mono ?_
    rintro e w' ⟨rfl, rfl⟩
    rw [lst_bad h] at hr
    obtain ⟨rfl, rfl⟩ := Prod.mk.inj hr
    exact ⟨none, 0, rfl, OwnI.nil _ _, Below.refl _ _⟩
theorem rList (u : Value) (l : List Int) (k a : Int) (out : List Int) (err : Int) (w : World) (hs : ShowU w u l) (hk : okW k) (hr : lst l k a = (out, err)) :
    Calls Try.prog 78 #[u, .int .u64 k, .int .i64 a] w fun e w' => ∃ ao cp, e = .returned (.tuple #[.slice ao out.length cp, .int .i64 err]) ∧ OwnI w.heap.size w' (.slice ao out.length cp) out ∧ Below w.heap.size w w' := by
  by_cases h : okL l a
  · exact rListOk u l k a out err w hs hk h hr
  · refine (rListBad u l k a hs h).mono ?_
    rintro e w' ⟨rfl, rfl⟩
    rw [lst_bad h] at hr
    obtain ⟨rfl, rfl⟩ := Prod.mk.inj hr
    exact ⟨none, 0, rfl, OwnI.nil _ _, Below.refl _ _⟩
def RowAt (w : World) (g n : Nat) : Prop := ∃ c : Array Value, w.heap[g]? = some (.cells c 3 (0, 0)) ∧ n ≤ c.size
theorem RowAt.frozen {w : World} {g n : Nat} (h : RowAt w g n) (j : Nat) : w.frozen? ⟨g, j, none⟩ = false := by
  obtain ⟨c, hb, _⟩ := h
  exact self_free hb j
theorem RowAt.cell {w : World} {g n : Nat} (h : RowAt w g n) {j : Nat} (hj : j < n) : ∃ u, w.cell? ⟨g, j, none⟩ = some u := by
  obtain ⟨c, hb, hc⟩ := h
  exact ⟨_, self_cell hb j _ (Array.getElem?_eq_getElem (by omega))⟩
theorem RowAt.set {w : World} {g n : Nat} (h : RowAt w g n) (j : Nat) (u : Value) : RowAt (w.setCell ⟨g, j, none⟩ u) g n := by
  obtain ⟨c, hb, hc⟩ := h
  exact ⟨_, cells_set hb j u, by simpa using hc⟩
theorem RowAt.below {w w' : World} {g n : Nat} (h : RowAt w g n) (hb : Below w.heap.size w w') : RowAt w' g n := by
  obtain ⟨c, hg, hc⟩ := h
  exact ⟨c, keep_block hg hb, hc⟩
theorem row_of {w : World} {B n : Nat} {ao : Option Addr} {cap : Nat} {l : List Int} (h : OwnI B w (.slice ao n cap) l) : n = 0 ∨ ∃ g, ao = some ⟨g, 0, none⟩ ∧ B ≤ g ∧ RowAt w g n ∧ n ≤ cap ∧ cap ≤ 9223372036854775807 := by
  rcases h.2 with ⟨e, _⟩ | ⟨g, cp, cur, e, hB, hb, hc, hm, hsz, _⟩
  · cases e
    exact .inl rfl
  · cases e
    exact .inr ⟨g, rfl, hB, ⟨cur, hb, by rw [hsz]; omega⟩, hc, by unfold maxLen at hm; omega⟩
end Go.Proofs.Ytnnfmlbgoplnaaa
