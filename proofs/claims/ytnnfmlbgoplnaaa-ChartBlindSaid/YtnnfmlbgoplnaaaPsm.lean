/-
  shelf of the program.
-/
import Derived.Test.YtnnfmlbgoplnaaaPlt
set_option linter.unusedVariables false
set_option linter.unusedSimpArgs false
namespace Go.Proofs.Ytnnfmlbgoplnaaa
open Go Go.RowKit

theorem Vw.nine {W w : World} {i : Nat} {u : Value} {c : Ch} (h : Vw W i u c w) {p : Addr} {x : Value} (d : w.cell? p = some x) : w.cell? ⟨i, 0, none⟩ = some u ∧ w.cell? ⟨i, 1, none⟩ = some (.int .i64 c.cpus) ∧ w.cell? ⟨i, 2, none⟩ = some (.int .i64 c.slabs) ∧ w.cell? ⟨i, 3, none⟩ = some (.int .i64 c.objs) ∧
    w.cell? ⟨i, 4, none⟩ = some (.int .i64 c.min) ∧ w.cell? ⟨i, 5, none⟩ = some (.int .i64 c.cap) ∧ w.cell? ⟨i, 6, none⟩ = some (.int .u64 c.key) ∧ w.cell? p = some x ∧ Vw W i u c w :=
  ⟨h.eight.1, h.eight.2.1, h.eight.2.2.1, h.eight.2.2.2.1, h.eight.2.2.2.2.1, h.eight.2.2.2.2.2.1, h.eight.2.2.2.2.2.2.1, d, h⟩
set_option maxHeartbeats 8000000 in
set_option maxRecDepth 100000 in
theorem pShelfM (u : Value) (l : List Int) (c : Ch) (hw : c.wf) (ho : c.ok) (hl : (l.length : Int) = c.n) (hy : Wordy l) (w : World) (hu : ShowU w u l) :
    Calls Try.prog 49 #[.agg (c.vw u)] w (Gives2 w (shelfF l c)) := by
  obtain ⟨ao, cap, rfl, ⟨hc1, hc2⟩, hat⟩ := hu.form
  obtain ⟨P0, hP0, hP0n⟩ : ∃ P0 : Nat, 4 * c.cpus + 1 = P0 ∧ (P0 : Int) < c.n := by
    have hp := Ch.prod ho
    obtain ⟨⟨o1, o2⟩, ⟨o3, o4⟩, ⟨o5, o6⟩, _⟩ := ho
    exact ⟨(4 * c.cpus + 1).toNat, by omega, by unfold Ch.n; omega⟩
  obtain ⟨b0, q0, rfl, g0⟩ := hat P0 (by omega)
  have hsv : shelfF l c = shW l c [] (pk l P0) := by unfold shelfF; rw [hP0]; rfl
  rw [hsv]
  have hS0 := fun w => pShelf c hw w
  rw [show c.shelf = (P0 : Int) by rw [← hP0]; exact Ch.at_yes ho] at hS0
  have HS0 := Lib.hid hS0
  have HG0 := Lib.hid g0
  have HSl : Hid (∀ w', Below w.heap.size w w' → w'.cell? ⟨w.heap.size, 2, none⟩ = some (.int .i64 c.slabs) → Calls Try.prog 59 #[.agg (c.vw (.slice (some ⟨b0, q0, none⟩) l.length cap)), .int .u64 (pk l P0), .func (.func 61) #[] #[.pointer (some ⟨w.heap.size, 0, none⟩)]] w' (Gives2 w' (shW l c [] (pk l P0)))) := Lib.hid (fun w' h hk => pShelfs _ l c hw ho hl hy _ (hy _) w.heap.size w' (hu.below h) hk)
  generalize shW l c [] (pk l P0) = R at *
  generalize pk l P0 = v at *
  have hPc : (P0 : Int) < (l.length : Int) := by omega
  have hT0 := (vw_new w (.slice (some ⟨b0, q0, none⟩) l.length cap) c).drew
  have hT00 := vw_new w (.slice (some ⟨b0, q0, none⟩) l.length cap) c
  have d0 := cell_keep hT0.low HG0.out
  clear hu hat hw hl hsv hS0 g0 hP0 hP0n ho hy
  go_enter Try.func49, Try.ntmps49
  go_wp2
  go_region_held3 (fun w' => w'.cell? ⟨w.heap.size, 0, none⟩ = some (.slice (some ⟨b0, q0, none⟩) l.length cap) ∧ w'.cell? ⟨w.heap.size, 1, none⟩ = some (.int .i64 c.cpus) ∧ w'.cell? ⟨w.heap.size, 2, none⟩ = some (.int .i64 c.slabs) ∧ w'.cell? ⟨w.heap.size, 3, none⟩ = some (.int .i64 c.objs) ∧ w'.cell? ⟨w.heap.size, 4, none⟩ = some (.int .i64 c.min) ∧ w'.cell? ⟨w.heap.size, 5, none⟩ = some (.int .i64 c.cap) ∧ w'.cell? ⟨w.heap.size, 6, none⟩ = some (.int .u64 c.key) ∧ w'.cell? ⟨b0, q0 + P0, none⟩ = some (.int .u64 v) ∧ Vw w w.heap.size (.slice (some ⟨b0, q0, none⟩) l.length cap) c w')
    (first | exact hT0.nine d0 | exact hT1.nine (cell_keep hT1.low HG0.out) | exact hT2.nine (cell_keep hT2.low HG0.out))
    (first
      | (go_at_call 13; refine (HS0.out _).mono ?_; rintro e w1 ⟨rfl, hb1⟩; have hT1 := Vw.next hT0 hb1; clear hb1)
      | (go_at_call 59; refine (HSl.out _ hT1.low hT1.eight.2.2.1).mono ?_; rintro e w2 ⟨ao2, cp2, rfl, ho2, hb2⟩; have hT2 := Vw.next hT1 hb2; have HO2 := Lib.hid (OwnI.le ho2 hT1.low.size); clear ho2 hb2))
  all_goals
    go_wp2
    go_ret2
    exact ⟨_, _, rfl, HO2.out, hT2.low⟩
end Go.Proofs.Ytnnfmlbgoplnaaa
