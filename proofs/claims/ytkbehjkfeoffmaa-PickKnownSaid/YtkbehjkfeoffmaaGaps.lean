/-
  PickGaps: Gap and Fair answer as the document's.
-/
import Derived.Test.YtkbehjkfeoffmaaWorks
set_option linter.unusedVariables false
set_option linter.unusedSimpArgs false
namespace Go.Proofs.Ytkbehjkfeoffmaa
open Go Go.RowKit

theorem vrGap (u : Value) (l : List Int) (c x : Int) (hx : (gapF l c : Int) = x) (w : World) (hs : ShowI w u l) :
    Calls Try.prog 15 #[u, .int .i64 c] w fun e w' => e = .returned (.int .i64 x) ∧ Below w.heap.size w w' := by
  subst hx
  exact rGap u l c w hs
theorem vrFair (u : Value) (l : List Int) (n m : Int) (b : Bool) (hb : fairF l n m = b) (w : World) (hs : ShowI w u l) :
    Calls Try.prog 17 #[u, .int .i64 n, .int .i64 m] w fun e w' => e = .returned (.bool b) ∧ Below w.heap.size w w' := by
  subst hb
  exact rFair u l n m w hs
/-- the two numbers, in their box -/
theorem keyG {w w' : World} {B : Nat} {a b : Int} (h : w.cell? ⟨B, 0, none⟩ = some (.int .i64 a) ∧ w.cell? ⟨B, 1, none⟩ = some (.int .i64 b)) (hb : Below w.heap.size w w') :
    (w'.cell? ⟨B, 0, none⟩ = some (.int .i64 a) ∧ w'.cell? ⟨B, 1, none⟩ = some (.int .i64 b)) ∧ Below w.heap.size w w' :=
  ⟨⟨cell_keep hb h.1, cell_keep hb h.2⟩, hb⟩
theorem box_cells (w : World) (t : TypeId) (a b : Int) : (w.alloc (.cells #[.int .i64 a, .int .i64 b] t)).cell? ⟨w.heap.size, 0, none⟩ = some (.int .i64 a) ∧ (w.alloc (.cells #[.int .i64 a, .int .i64 b] t)).cell? ⟨w.heap.size, 1, none⟩ = some (.int .i64 b) := by
  have hb := heap_new w (.cells #[.int .i64 a, .int .i64 b] t)
  constructor
  · unfold World.cell?
    dsimp only
    rw [hb]
    rfl
  · unfold World.cell?
    dsimp only
    rw [hb]
    rfl
set_option maxHeartbeats 4000000 in
set_option maxRecDepth 100000 in
theorem walkGaps (u : Value) (l : List Int) (a b : Int) (W : World) (hs : ShowI W u l) :
    Calls Try.prog 4 #[u, .agg #[.int .i64 a, .int .i64 b]] W fun e W' => e = .returned (.bool true) ∧ Below W.heap.size W W' := by
  have hs0 := hs
  obtain ⟨ao, cap, rfl, hcap, hat⟩ := hs.form
  clear hs
  obtain ⟨n, hn⟩ : ∃ n : Nat, (if (500 : Int) < (l.length : Int) then (500 : Int) else (l.length : Int)) = (n : Int) := by
    by_cases h : (500 : Int) < (l.length : Int)
    · exact ⟨500, by rw [if_pos h]; rfl⟩
    · exact ⟨l.length, by rw [if_neg h]⟩
  have hnl : n ≤ l.length := by split at hn <;> omega
  have hsn : ShowI W (.slice ao n cap) (l.take n) := hs0.first hnl
  have hk := box_cells W 28 a b
  have hw := below_one (Below.refl _ W) (.cells #[.int .i64 a, .int .i64 b] 28)
  have hs1 := hsn.below hw
  obtain ⟨g, hg⟩ : ∃ g, gapF (l.take n) a = g := ⟨_, rfl⟩
  obtain ⟨r, hr⟩ : ∃ r, fairF (l.take n) a b = r := ⟨_, rfl⟩
  have HG : Hid ((gapF (l.take n) a : Int) = (g : Int)) := Lib.hid (by rw [hg])
  have HR := Lib.hid hr
  have HS := Lib.hid hs1
  have HK := Lib.hid hk
  have HW := Lib.hid hw
  have hrr : (r == r) = true := by cases r <;> rfl
  have hgg : ((g : Int) == (g : Int)) = true := by simp
  have hb0 : l.length = 0 ∨ ∃ b o, ao = some ⟨b, o, none⟩ := by
    by_cases h : l.length = 0
    · exact .inl h
    · obtain ⟨b, o, e, _⟩ := hat 0 (by omega)
      exact .inr ⟨b, o, e⟩
  clear hg hr hs1 hk hw hsn hs0 hat
  rcases hb0 with h0 | ⟨b1, o1, rfl⟩
  · obtain rfl : n = 0 := by omega
    rw [h0] at hn ⊢
    go_enter Try.func4, Try.ntmps4
    go_wp2
    generalize W.alloc (.cells #[.int .i64 a, .int .i64 b] 28) = w0 at *
    go_region_held3 (fun w' => (w'.cell? ⟨W.heap.size, 0, none⟩ = some (.int .i64 a) ∧ w'.cell? ⟨W.heap.size, 1, none⟩ = some (.int .i64 b)) ∧ Below w0.heap.size w0 w')
      (first | exact keyG HK.out (by assumption) | exact keyG HK.out (Below.drew (Below.refl _ _)))
      (first
        | (go_at_call 14; refine (vGap _ _ _ _ HG.out _ (HS.out.below (show _ ∧ Below w0.heap.size w0 _ from by assumption).2)).mono ?_; rintro e w5 ⟨rfl, h5⟩; have hb5 : Below w0.heap.size w0 w5 := below_then (show _ ∧ Below w0.heap.size w0 _ from by assumption).2 h5)
        | (go_at_call 15; refine (vrGap _ _ _ _ HG.out _ (HS.out.below (show _ ∧ Below w0.heap.size w0 _ from by assumption).2)).mono ?_; rintro e w6 ⟨rfl, h6⟩; have hb6 : Below w0.heap.size w0 w6 := below_then (show _ ∧ Below w0.heap.size w0 _ from by assumption).2 h6)
        | (go_at_call 16; refine (vFair _ _ _ _ _ HR.out _ (HS.out.below (show _ ∧ Below w0.heap.size w0 _ from by assumption).2)).mono ?_; rintro e w7 ⟨rfl, h7⟩; have hb7 : Below w0.heap.size w0 w7 := below_then (show _ ∧ Below w0.heap.size w0 _ from by assumption).2 h7)
        | (go_at_call 17; refine (vrFair _ _ _ _ _ HR.out _ (HS.out.below (show _ ∧ Below w0.heap.size w0 _ from by assumption).2)).mono ?_; rintro e w8 ⟨rfl, h8⟩; have hb8 : Below w0.heap.size w0 w8 := below_then (show _ ∧ Below w0.heap.size w0 _ from by assumption).2 h8)
        | (go_at_call 13; refine (works _).mono ?_; rintro e w9 ⟨rfl, h9⟩; have hb9 : Below w0.heap.size w0 w9 := below_then (show _ ∧ Below w0.heap.size w0 _ from by assumption).2 h9))
    have hbF := below_then HW.out hb9
    go_wp2
    go_ret
    exact ⟨rfl, hbF⟩
  · have hn1 : 1 ≤ l.length ∨ l.length = 0 := by omega
    go_enter Try.func4, Try.ntmps4
    go_wp2
    generalize W.alloc (.cells #[.int .i64 a, .int .i64 b] 28) = w0 at *
    go_region_held3 (fun w' => (w'.cell? ⟨W.heap.size, 0, none⟩ = some (.int .i64 a) ∧ w'.cell? ⟨W.heap.size, 1, none⟩ = some (.int .i64 b)) ∧ Below w0.heap.size w0 w')
      (first | exact keyG HK.out (by assumption) | exact keyG HK.out (Below.drew (Below.refl _ _)))
      (first
        | (go_at_call 14; refine (vGap _ _ _ _ HG.out _ (HS.out.below (show _ ∧ Below w0.heap.size w0 _ from by assumption).2)).mono ?_; rintro e w5 ⟨rfl, h5⟩; have hb5 : Below w0.heap.size w0 w5 := below_then (show _ ∧ Below w0.heap.size w0 _ from by assumption).2 h5)
        | (go_at_call 15; refine (vrGap _ _ _ _ HG.out _ (HS.out.below (show _ ∧ Below w0.heap.size w0 _ from by assumption).2)).mono ?_; rintro e w6 ⟨rfl, h6⟩; have hb6 : Below w0.heap.size w0 w6 := below_then (show _ ∧ Below w0.heap.size w0 _ from by assumption).2 h6)
        | (go_at_call 16; refine (vFair _ _ _ _ _ HR.out _ (HS.out.below (show _ ∧ Below w0.heap.size w0 _ from by assumption).2)).mono ?_; rintro e w7 ⟨rfl, h7⟩; have hb7 : Below w0.heap.size w0 w7 := below_then (show _ ∧ Below w0.heap.size w0 _ from by assumption).2 h7)
        | (go_at_call 17; refine (vrFair _ _ _ _ _ HR.out _ (HS.out.below (show _ ∧ Below w0.heap.size w0 _ from by assumption).2)).mono ?_; rintro e w8 ⟨rfl, h8⟩; have hb8 : Below w0.heap.size w0 w8 := below_then (show _ ∧ Below w0.heap.size w0 _ from by assumption).2 h8)
        | (go_at_call 13; refine (works _).mono ?_; rintro e w9 ⟨rfl, h9⟩; have hb9 : Below w0.heap.size w0 w9 := below_then (show _ ∧ Below w0.heap.size w0 _ from by assumption).2 h9))
    have hbF := below_then HW.out hb9
    go_wp2
    go_ret
    exact ⟨rfl, hbF⟩
theorem walkGapsA (u v : Value) (l : List Int) (p : Int × Int) (W : World) (hs : ShowI W u l) (hv : v = .agg #[.int .i64 p.1, .int .i64 p.2]) :
    Calls Try.prog 4 #[u, v] W fun e W' => e = .returned (.bool true) ∧ Below W.heap.size W W' := by
  subst hv
  exact walkGaps u l p.1 p.2 W hs
end Go.Proofs.Ytkbehjkfeoffmaa
