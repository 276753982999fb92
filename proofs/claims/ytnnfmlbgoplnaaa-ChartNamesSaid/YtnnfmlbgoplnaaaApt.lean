/-
  The stage's theorem, walked, where the chapter's examples hold.
-/
import Derived.Test.YtnnfmlbgoplnaaaPlc
set_option linter.unusedVariables false
set_option linter.unusedSimpArgs false
namespace Go.Proofs.Ytnnfmlbgoplnaaa
open Go Go.RowKit

/-- a block of bools, told by a function -/
def RowB (w : World) (g n : Nat) (f : Nat → Bool) : Prop := ∃ c, w.heap[g]? = some (.cells c 4 (0, 0)) ∧ n ≤ c.size ∧ ∀ i, i < n → c[i]? = some (.bool (f i))
section
variable {S : Nat → Prop} {w w' : World} {g n : Nat} {f f' : Nat → Bool}
theorem RowB.cell (h : RowB w g n f) {i : Nat} (hi : i < n) : w.cell? ⟨g, i, none⟩ = some (.bool (f i)) := by
  obtain ⟨c, hb, _, hc⟩ := h
  exact self_cell hb i _ (hc i hi)
theorem RowB.free (h : RowB w g n f) (i : Nat) : w.frozen? ⟨g, i, none⟩ = false := by
  obtain ⟨c, hb, _⟩ := h
  exact self_free hb i
theorem RowB.lt (h : RowB w g n f) : g < w.heap.size := by
  obtain ⟨c, hb, _⟩ := h
  exact lt_of_block hb
theorem RowB.set (h : RowB w g n f) {i : Nat} (hi : i < n) (x : Bool) : RowB (w.setCell ⟨g, i, none⟩ (.bool x)) g n (fun j => if j = i then x else f j) := by
  obtain ⟨c, hb, hn, hc⟩ := h
  refine ⟨_, cells_set hb i _, by simpa using hn, fun j hj => ?_⟩
  rw [Array.getElem?_setIfInBounds]
  have hs : i < c.size := (Array.getElem?_eq_some_iff.1 (hc i hi)).1
  by_cases e : j = i
  · subst e
    rw [if_pos rfl, if_pos hs]
    simp
  · rw [if_neg (fun e2 => e e2.symm), hc j hj]
    simp [e]
theorem RowB.below (h : RowB w g n f) (hb : Below w.heap.size w w') : RowB w' g n f := by
  obtain ⟨c, h1, h2⟩ := h
  exact ⟨c, keep_block h1 hb, h2⟩
theorem RowB.own {B : Nat} {v : Value} {l : List Int} (h : RowB w g n f) (ho : OwnI B w v l) (hk : Kept (· = g) w w') : OwnI B w' v l := by
  obtain ⟨c, h1, h2⟩ := h
  exact own_kept ho hk h1 (by decide)
theorem makeB (n : Nat) (hn : n ≤ 10000) : ∃ O : Obj, (∀ w : World, (Instr.makeSlice 47 (.int .i64 (n : Int)) (.int .i64 (n : Int))).run Try.prog w = .ok (.slice (some ⟨w.heap.size, 0, none⟩) n n) (w.alloc O)) ∧ ∀ w : World, RowB (w.alloc O) w.heap.size n (fun _ => false) := by
  refine ⟨_, fun w => run_make_row' (P := Try.prog) 47 4 (.bool false) 1 Try.underlying47 (by kernel_rfl) rfl .i64 .i64 n (by omega) (by omega) w, fun w => ?_⟩
  obtain ⟨c, hb, hs, hc⟩ := World.rowIs_made w (.bool false) n 4
  exact ⟨c, hb, by omega, hc⟩
end
/-- which have been told so far -/
def Had (l : List Int) (k : Nat) (f : Nat → Bool) : Prop := ∀ t, f t = true → ∃ i, i < k ∧ pk l i = (t : Int)
theorem Had.zero (l : List Int) : Had l 0 (fun _ => false) := fun t h => by cases h
theorem Had.next {l : List Int} {k X : Nat} {f : Nat → Bool} (h : Had l k f) (hx : pk l k = (X : Int)) : Had l (k + 1) (fun j => if j = X then true else f j) := by
  intro t ht
  dsimp only at ht
  by_cases e : t = X
  · exact ⟨k, by omega, by rw [hx, e]⟩
  · rw [if_neg e] at ht
    obtain ⟨i, hi, h2⟩ := h t ht
    exact ⟨i, by omega, h2⟩
theorem Had.not {l : List Int} {k X : Nat} {f : Nat → Bool} (h : Had l k f) (hx : pk l k = (X : Int)) (hn : l.Nodup) (hk : k < l.length) : f X = false := by
  cases hf : f X with
  | false => rfl
  | true =>
    obtain ⟨i, hi, h2⟩ := h X hf
    rw [← hx, ← pk_at l i (by omega), ← pk_at l k hk] at h2
    have := (List.getElem_inj hn).1 h2
    omega
set_option maxHeartbeats 8000000 in
set_option maxRecDepth 100000 in
theorem walkApart (c : Ch) (hw : c.wf) (W : World) (hW : ∀ w, Calls Try.prog 31 #[] w fun e w' => e = .returned (.bool true) ∧ Below w.heap.size w w') :
    Calls Try.prog 5 #[c.agg] W fun e W' => e = .returned (.bool true) ∧ Below W.heap.size W W' := by
  have HWK := Lib.hid hW
  have HM := Lib.hid (fun w => cMade c w)
  have hd := md_ok c
  have hdw := md_wf c hw
  have hone := one_new W c
  obtain ⟨c0, c1, c2, c3, c4, c5⟩ := hone.at1.cells
  have HT0 := Lib.hid hone
  generalize mdC c = d at *
  have hWd := fun w => pWords d hdw w
  have hCk := fun w => pCheck d hdw w
  rw [show d.words = d.n from if_pos hd] at hWd
  rw [Ch.chk_yes hd] at hCk
  have hPl := fun w => cPlaces d hdw hd w
  have hnd := plc_nodup hd
  have hin := fun x h => plc_in hd (x := x) h
  obtain ⟨n, hn⟩ : ∃ n : Nat, d.n = n := ⟨d.n.toNat, by have := Ch.prod hd; unfold Ch.n; obtain ⟨⟨o1, o2⟩, ⟨o3, o4⟩, _⟩ := hd; omega⟩
  have hn1 : 1 ≤ n ∧ n ≤ 4096 := by have := Ch.prod hd; unfold Ch.n at hn; obtain ⟨⟨o1, o2⟩, ⟨o3, o4⟩, _⟩ := hd; omega
  rw [hn] at hWd
  simp only [hn] at hin
  obtain ⟨hn1, hn2⟩ := hn1
  obtain ⟨O, hO, hR⟩ := makeB n (by omega)
  generalize plc d = l at *
  have HWd := Lib.hid hWd
  have HCk := Lib.hid hCk
  have HPl := Lib.hid hPl
  have HND := Lib.hid hnd
  have HIN := Lib.hid hin
  have HR := Lib.hid hR
  have hn3 : ¬ ((n : Int) < 1) := by omega
  have hn4 : ¬ (4096 < (n : Int)) := by omega
  clear hWd hCk hPl hnd hin hR hone hW hw hd hdw hn
  go_enter Try.func5, Try.ntmps5
  go_wp2_with fail
  refine (HM.out _).mono ?_
  rintro e w1 ⟨rfl, hb1⟩
  have HT1 := Lib.hid (HT0.out.next hb1)
  clear hb1 HT0 HM c0 c1 c2 c3 c4 c5
  go_wp2_with (refine wpList_storeR rtCh (by rfl) _ _ (by rfl) W.heap.size d.arr (by rfl) (by rfl) (by rfl) (by simp [Value.oneCell']) _ HT1.out.at1 rfl ?_; intro w2 h2 k2; have HT2 : Hid (One W W.heap.size d w2) := Lib.hid ⟨h2, below_kept HT1.out.low k2 (by rintro k rfl; exact Nat.le_refl _)⟩; clear h2 k2 HT1; refine Stop.mk ?_)
  unfold Stop
  obtain ⟨c0, c1, c2, c3, c4, c5⟩ := HT2.out.at1.cells
  go_wp2_with fail
  refine (HWd.out _).mono ?_
  rintro e w3 ⟨rfl, hb3⟩
  have HT3 := Lib.hid (HT2.out.next hb3)
  clear hb3 HT2 HWd c0 c1 c2 c3 c4 c5
  obtain ⟨c0, c1, c2, c3, c4, c5⟩ := HT3.out.at1.cells
  go_wp2_with fail
  refine (HCk.out _).mono ?_
  rintro e w4 ⟨rfl, hb4⟩
  have HT4 := Lib.hid (HT3.out.next hb4)
  clear hb4 HT3 HCk c0 c1 c2 c3 c4 c5
  have HT5 := Lib.hid (HT4.out.next (below_one (Below.refl w4.heap.size w4) O))
  have HB5 := Lib.hid (HR.out w4)
  have HG5 := Lib.hid HT4.out.low.size
  obtain ⟨c0, c1, c2, c3, c4, c5⟩ := HT5.out.at1.cells
  go_wp2_with fail
  refine (HPl.out _).mono ?_
  rintro e w6 ⟨ao, cap, rfl, ho6, hb6⟩
  have HT6 := Lib.hid (HT5.out.low.trans (hb6.mono HT5.out.low.size))
  have HB6 := Lib.hid (HB5.out.below hb6)
  have HO6 := Lib.hid ho6
  obtain ⟨m, hm⟩ : ∃ m, l.length = m := ⟨_, rfl⟩
  have hHm := Lib.hid hm
  clear hb6 HT5 HB5 HT4 HR HPl c0 c1 c2 c3 c4 c5 hO ho6
  generalize (w4.alloc O).heap.size = B6 at *
  generalize w4.heap.size = g at *
  rw [hm]
  go_wp2
  go_loopw [6] (fun x wr => ∃ (k : Nat) (f : Nat → Bool), x = .int .i64 k ∧ k ≤ m ∧ Hid (Had l k f) ∧ Hid (RowB wr g n f) ∧ Hid (OwnI B6 wr (.slice ao l.length cap) l) ∧ Hid (Below W.heap.size W wr)) (fun x _ => m - (intOf x).toNat)
  case atStart => exact ⟨0, _, rfl, by omega, Lib.hid (Had.zero l), HB6, HO6, HT6⟩
  case round =>
    clear HB6 HO6 HT6
    obtain ⟨k, f, rfl, hk, HF, HB, HO, HL⟩ := hrel
    by_cases hlt : k < m
    · obtain ⟨ao', cp', hsl, ⟨q1, q2⟩, hat⟩ := HO.out.shows.form
      obtain ⟨rfl, -, rfl⟩ := Value.slice.inj hsl
      have hkl : k < l.length := by rw [hHm.out]; exact hlt
      obtain ⟨b, o, rfl, hc⟩ := hat k hkl
      have hr := HIN.out (pk l k) (by rw [← pk_at l k hkl]; exact List.getElem_mem hkl)
      obtain ⟨X, hX⟩ : ∃ X : Nat, pk l k = X := ⟨(pk l k).toNat, by omega⟩
      have hf := HF.out.not hX HND.out hkl
      have HF2 := Lib.hid (HF.out.next hX)
      rw [hX] at hc hr
      have hXn : X < n := by omega
      have hx0 : ¬ ((X : Int) < 0) := by omega
      have hx1 : ¬ ((n : Int) ≤ (X : Int)) := by omega
      have hcell := HB.out.cell hXn
      have hfree := HB.out.free X
      rw [hf] at hcell
      have hkp : Kept (· = g) wr (wr.setCell ⟨g, X, none⟩ (.bool true)) := Kept.setCell (S := (· = g)) (p := ⟨g, X, none⟩) (Kept.refl _ _) rfl _
      have HB2 := Lib.hid (HB.out.set hXn true)
      have HO2 := Lib.hid (HB.out.own HO.out hkp)
      have HL2 := Lib.hid (below_kept HL.out hkp (by rintro k rfl; exact HG5.out))
      rw [hHm.out] at q1
      clear hkp hf hX hat hsl HF HB HO HL hr hkl
      go_wp2
      go_roundw
      case rel => exact ⟨k + 1, _, by go_num, by omega, HF2, HB2, HO2, HL2⟩
      case measure => simp [intOf]; omega
    · go_wp2_with fail
      refine (HWK.out _).mono ?_
      rintro e w7 ⟨rfl, hb7⟩
      have HB7 := Lib.hid (below_then HL.out hb7)
      go_wp2
      go_ret
      exact ⟨rfl, HB7.out⟩
end Go.Proofs.Ytnnfmlbgoplnaaa
