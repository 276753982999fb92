/-
  MemPlays: what a memory answers, access by access, is the document's.
-/
import Derived.Test.YtkcogdojohlpcaaStep
set_option linter.unusedVariables false
set_option linter.unusedSimpArgs false
namespace Go.Proofs.Ytkcogdojohlpcaa
open Go Go.RowKit

theorem St.self {w0 w : World} {a b k ra rb n c d : Nat} {F G : Nat → Int} (h : St w0 w a b k ra rb n F c G d) : St w w a b k ra rb n F c G d := ⟨h.mem, h.ref, Kept.refl _ _, h.apart⟩
theorem St.then {w0 w w' : World} {a b k ra rb n c d c' d' : Nat} {F G F' G' : Nat → Int} (h : St w0 w a b k ra rb n F c G d) (h' : St w w' a b k ra rb n F' c' G' d') : St w0 w' a b k ra rb n F' c' G' d' := ⟨h'.mem, h'.ref, h.keep.trans h'.keep, h.apart⟩
set_option maxHeartbeats 2000000 in
set_option maxRecDepth 100000 in
theorem walkPlays (words : Int) (u : Value) (l : List Do) (W : World) (hs : ShowDos W u l) :
    Calls Try.prog 3 #[.int .i64 words, u] W fun e w' => e = .returned (.bool true) ∧ Below W.heap.size W w' := by
  obtain ⟨ao, cap, rfl, hcap, hat⟩ := hs.form
  clear hs
  by_cases hbad : words < 1 ∨ 4096 < words
  · clear hat
    go_enter Try.func3, Try.ntmps3
    go_wp2_with fail
    refine (cNewBad words _ hbad).mono ?_
    rintro e w1 ⟨rfl, hb1⟩
    go_wp2_with fail
    refine (rNewBad words _ hbad).mono ?_
    rintro e w2 ⟨rfl, hb2⟩
    go_wp2_with fail
    refine (works _).mono ?_
    rintro e w3 ⟨rfl, hb3⟩
    go_wp2
    go_ret
    exact ⟨rfl, below_then (below_then hb1 hb2) hb3⟩
  obtain ⟨n, rfl⟩ : ∃ n : Nat, words = n := ⟨words.toNat, by omega⟩
  have hn1 : 1 ≤ n := by omega
  have hn2 : n ≤ 4096 := by omega
  clear hbad
  go_enter Try.func3, Try.ntmps3
  go_wp2_with fail
  refine (cNew n _ hn1 hn2).mono ?_
  rintro e w1 ⟨a, b, k, rfl, hm, hb1, ha, hb, hk⟩
  go_wp2_with fail
  refine (rNew n _ hn1 hn2).mono ?_
  rintro e w2 ⟨ra, rb, rfl, hr, hb2, hra, hrb⟩
  have hst0 : St w2 w2 a b k ra rb n (fun _ => 0) 0 (fun _ => 0) 0 := ⟨hm.below hb2, hr, Kept.refl _ _, by have := hm.lt; omega⟩
  have hbw := below_then hb1 hb2
  have hS4 : ∀ x, x = a ∨ x = b ∨ x = ra ∨ x = rb → W.heap.size ≤ x := by
    have := hb1.size
    omega
  clear hm hr hb1 hb2 ha hb hk hra hrb
  go_wp2
  go_loopw [9] (fun y wr => ∃ j : Nat, j ≤ l.length ∧ j ≤ 80 ∧ y = .int .i64 j ∧ ∃ F c, c ≤ j ∧ St w2 wr a b k ra rb n F c F c) (fun y _ => l.length - (intOf y).toNat)
  case atStart => exact ⟨0, by omega, by omega, rfl, _, _, Nat.le_refl _, hst0⟩
  case round =>
    obtain ⟨j, hj, hj80, rfl, F, c, hc, hst⟩ := hrel
    have hb := below_kept hbw hst.keep hS4
    by_cases hlt : j < l.length ∧ j < 80
    · obtain ⟨hlt, h80⟩ := hlt
      obtain ⟨b1, o1, rfl, c0, c1, c2, c3, c4, c5⟩ := hat j hlt
      have lc := World.block_lt_of_cell? W _ c0
      obtain ⟨x, hx⟩ : ∃ x, l[j] = x := ⟨_, rfl⟩
      rw [hx] at c0 c1 c2 c3 c4 c5
      clear hx
      have d0 := (hb.cell (p := ⟨b1, o1 + j * 6, none⟩) lc).trans c0
      have d1 := (hb.cell (p := ⟨b1, o1 + j * 6 + 1, none⟩) lc).trans c1
      have d2 := (hb.cell (p := ⟨b1, o1 + j * 6 + 2, none⟩) lc).trans c2
      have d3 := (hb.cell (p := ⟨b1, o1 + j * 6 + 3, none⟩) lc).trans c3
      have d4 := (hb.cell (p := ⟨b1, o1 + j * 6 + 4, none⟩) lc).trans c4
      have d5 := (hb.cell (p := ⟨b1, o1 + j * 6 + 5, none⟩) lc).trans c5
      clear c0 c1 c2 c3 c4 c5 hat
      go_wp2_with fail
      refine (cStep _ a b k ra rb n F c x hst.self (by omega)).mono ?_
      rintro e w3 ⟨rfl, G, c', hc', hst3⟩
      have hst4 := hst.then hst3
      clear hst hst3 d0 d1 d2 d3 d4 d5
      go_wp2_with fail
      refine (cCount hst4.mem).mono ?_
      rintro e w4 ⟨rfl, rfl⟩
      go_wp2_with fail
      refine (rCount hst4.ref).mono ?_
      rintro e w4 ⟨rfl, rfl⟩
      go_wp2_with fail
      refine (cLen hst4.mem).mono ?_
      rintro e w4 ⟨rfl, rfl⟩
      go_wp2
      go_roundw
      case rel => exact ⟨j + 1, by omega, by omega, by go_num, G, c', by omega, hst4⟩
      case measure => simp [intOf]; omega
    · by_cases hjl : j = l.length
      · subst hjl
        go_wp2_with fail
        refine (cWords hst.mem).mono ?_
        rintro e w3 ⟨g, cp, rfl, hcp, hgw, hW, hs, hb3⟩
        have hst3 := hst.below hb3
        have hbw3 := below_then hb hb3
        have HS := Lib.hid hs
        clear hs hst hW hcp hb hb3
        go_wp2_with fail
        refine (rWords hst3.ref).mono ?_
        rintro e w4 ⟨g', cp', rfl, hcp', hgw', hW', hs', hb4⟩
        have hbw4 := below_then hbw3 hb4
        clear hW' hcp'
        go_wp2_with fail
        refine (eqWordsT _ _ _ _ (HS.out.below hb4) hs').mono ?_
        rintro e w5 ⟨rfl, hb5⟩
        have hbw5 := below_then hbw4 hb5
        clear hs' hb4 hbw3 hbw4 hb5 hst3
        go_wp2_with fail
        refine (works _).mono ?_
        rintro e w6 ⟨rfl, hb6⟩
        go_wp2
        go_ret
        exact ⟨rfl, below_then hbw5 hb6⟩
      · obtain rfl : j = 80 := by omega
        have hl80 : 80 < l.length := by omega
        go_wp2_with fail
        refine (cWords hst.mem).mono ?_
        rintro e w3 ⟨g, cp, rfl, hcp, hgw, hW, hs, hb3⟩
        have hst3 := hst.below hb3
        have hbw3 := below_then hb hb3
        have HS := Lib.hid hs
        clear hs hst hW hcp hb hb3
        go_wp2_with fail
        refine (rWords hst3.ref).mono ?_
        rintro e w4 ⟨g', cp', rfl, hcp', hgw', hW', hs', hb4⟩
        have hbw4 := below_then hbw3 hb4
        clear hW' hcp'
        go_wp2_with fail
        refine (eqWordsT _ _ _ _ (HS.out.below hb4) hs').mono ?_
        rintro e w5 ⟨rfl, hb5⟩
        have hbw5 := below_then hbw4 hb5
        clear hs' hb4 hbw3 hbw4 hb5 hst3
        go_wp2_with fail
        refine (works _).mono ?_
        rintro e w6 ⟨rfl, hb6⟩
        go_wp2
        go_ret
        exact ⟨rfl, below_then hbw5 hb6⟩
end Go.Proofs.Ytkcogdojohlpcaa
