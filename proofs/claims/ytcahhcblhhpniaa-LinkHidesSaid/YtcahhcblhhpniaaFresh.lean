/-
  Fresh: the program's, and the document's.
-/
import Derived.Test.YtcahhcblhhpniaaHide
import Derived.Laws.MakeOwn
set_option linter.unusedVariables false
set_option linter.unusedSimpArgs false
namespace Go.Proofs.Ytcahhcblhhpniaa
open Go Go.RowKit

theorem makeW (n : Nat) (hn : n ≤ 10000) : ∃ O : Obj, (∀ w : World, (Instr.makeSlice 26 (.int .i64 (n : Int)) (.int .i64 (n : Int))).run Try.prog w = .ok (.slice (some ⟨w.heap.size, 0, none⟩) n n) (w.alloc O)) ∧ ∀ w : World, (w.alloc O).rowIs w.heap.size 22 n (fun _ => .int .u64 0) :=
  ⟨_, fun w => run_make_row' (P := Try.prog) 26 22 (.int .u64 0) 8 Try.underlying26 (by kernel_rfl) rfl .i64 .i64 n (by omega) (by omega) w, fun w => World.rowIs_made w _ n _⟩
/-- a block that holds words, of which the first so many are those of l -/
def WordsAt (w : World) (g n m : Nat) (l : List Int) : Prop := ∃ F : Nat → Int, w.rowIs g 22 n (fun i => .int .u64 (F i)) ∧ ∀ i, i < m → F i = pk l i
section
variable {w w' : World} {g n m : Nat} {l : List Int}
theorem WordsAt.below (h : WordsAt w g n m l) (hb : Below w.heap.size w w') : WordsAt w' g n m l := by
  obtain ⟨G, h1, h2⟩ := h
  exact ⟨G, row_kept h1 (S := fun _ => False) (Kept.ofBelow hb) id, h2⟩
theorem WordsAt.lt (h : WordsAt w g n m l) : g < w.heap.size := by
  obtain ⟨G, h1, h2⟩ := h
  exact h1.lt
theorem WordsAt.at_ (h : WordsAt w g n m l) {i : Nat} (hi : i < n) : (∃ u, w.cell? ⟨g, i, none⟩ = some u) ∧ w.frozen? ⟨g, i, none⟩ = false := by
  obtain ⟨G, h1, h2⟩ := h
  exact ⟨⟨_, h1.cell hi⟩, h1.frozen i⟩
theorem WordsAt.add (h : WordsAt w g n m l) : WordsAt (w.setCell ⟨g, m, none⟩ (.int .u64 (pk l m))) g n (m + 1) l := by
  obtain ⟨G, h1, h2⟩ := h
  refine ⟨fun i => if i = m then pk l m else G i, (h1.set m _).congr fun i hi => by by_cases e : i = m <;> simp [e], fun i hi => ?_⟩
  dsimp only
  by_cases e : i = m
  · subst e; simp
  · rw [if_neg e, h2 i (by omega)]
theorem WordsAt.set (h : WordsAt w g n n l) (hl : l.length = n) {i : Nat} (hi : i < n) (x : Int) : WordsAt (w.setCell ⟨g, i, none⟩ (.int .u64 x)) g n n (l.set i x) := by
  obtain ⟨G, h1, h2⟩ := h
  refine ⟨fun j => if j = i then x else G j, (h1.set i _).congr fun j hj => by by_cases e : j = i <;> simp [e], fun j hj => ?_⟩
  dsimp only
  by_cases e : j = i
  · subst e; rw [if_pos rfl, pk_set_self _ (by omega)]
  · rw [if_neg e, h2 j hj, pk_set_ne _ (fun h => e h.symm)]
theorem WordsAt.none_ (h : w.rowIs g 22 n (fun _ => .int .u64 0)) (l : List Int) : WordsAt w g n 0 l := ⟨fun _ => 0, h, fun i hi => absurd hi (Nat.not_lt_zero _)⟩
theorem WordsAt.show_ (h : WordsAt w g n n l) (hl : l.length = n) (hn : n ≤ 10000) : ShowU w (.slice (some ⟨g, 0, none⟩) n n) l := by
  obtain ⟨G, h1, h2⟩ := h
  unfold ShowU
  rw [hl]
  refine ⟨by simp [hl], _, n, rfl, ⟨Nat.le_refl _, by unfold maxLen; omega⟩, fun _ => ⟨g, 0, rfl, fun j hj => ?_⟩⟩
  rw [Nat.mul_one] at hj
  rw [Nat.zero_add, h1.cell hj, h2 j hj]
  exact (wds_at (by omega)).symm
end
set_option maxHeartbeats 2000000 in
theorem cFreshBad (n k : Int) (h : ¬ okF n) (w : World) :
    Calls Try.prog 19 #[.int .i64 n, .int .u64 k] w fun e w' => e = .returned (.tuple #[.slice none 0 0, .int .i64 2]) ∧ w' = w := by
  by_cases h1 : n < 1
  · go_enter Try.func19, Try.ntmps19
    go_wp2
    go_ret2
    exact ⟨rfl, rfl⟩
  · have h2 : 16 < n := Decidable.byContradiction fun e => h ⟨by omega, by omega⟩
    go_enter Try.func19, Try.ntmps19
    go_wp2
    go_ret2
    exact ⟨rfl, rfl⟩
theorem fr_hid {N : Nat} {k : Int} {i : Nat} (hi : i < N) (n : Int) (h : frN N i = n) : hidV n k i = pk (frs N k) i := by rw [frs_at hi, h]
set_option maxHeartbeats 2000000 in
theorem cFresh (N : Nat) (k : Int) (h1 : 1 ≤ N) (h2 : N ≤ 16) (hk : okW k) (w : World) :
    Calls Try.prog 19 #[.int .i64 N, .int .u64 k] w fun e w' => ∃ g, e = .returned (.tuple #[.slice (some ⟨g, 0, none⟩) N N, .int .i64 0]) ∧ w.heap.size ≤ g ∧ WordsAt w' g N N (frs N k) ∧ Below w.heap.size w w' := by
  obtain ⟨O, hO, hrow⟩ := makeW N (by omega)
  obtain ⟨M, hM⟩ : ∃ M : Nat, N = M + 1 := ⟨N - 1, by omega⟩
  have hNM : (N : Int) - 1 = (M : Int) := by omega
  have hMN : M < N := by omega
  have HK := Lib.hid hk
  have HN := Lib.hid hM
  have HW : Hid (WordsAt (w.alloc O) w.heap.size N 0 (frs N k)) := Lib.hid (WordsAt.none_ (hrow w) _)
  have HB : Hid (Below w.heap.size w (w.alloc O)) := Lib.hid (below_one (Below.refl _ _) _)
  clear hk hM hrow
  go_enter Try.func19, Try.ntmps19
  go_wp2
  go_loopw [20] (fun i wr => ∃ j : Nat, j ≤ M ∧ i = .int .i64 j ∧ Hid (WordsAt wr w.heap.size N j (frs N k) ∧ Below w.heap.size w wr)) (fun i _ => M - (intOf i).toNat)
  case atStart => exact ⟨0, by omega, rfl, Lib.hid ⟨HW.out, HB.out⟩⟩
  case round =>
    clear HW HB
    obtain ⟨j, hj, rfl, HS⟩ := hrel
    by_cases hlt : j < M
    · have HH := Lib.hid (cHidden ((j : Int) + 1) k j ⟨by omega, by omega⟩ HK.out ⟨by omega, by omega⟩)
      rw [fr_hid (N := N) (by omega) _ (by unfold frN; rw [if_neg (by have := HN.out; omega)]; rfl)] at HH
      go_wp2_with fail
      refine (HH.out _).mono ?_
      rintro e w2 ⟨rfl, hb⟩
      have hs := HS.out.1.below hb
      obtain ⟨⟨u0, c0⟩, f0⟩ := hs.at_ (i := j) (by omega)
      have HA := Lib.hid hs.add
      have HB2 := Lib.hid ((below_then HS.out.2 hb).setCell (p := ⟨w.heap.size, j, none⟩) (Nat.le_refl _) (.int .u64 (pk (frs N k) j)))
      clear hb hs HS HH
      generalize pk (frs N k) j = x at *
      go_wp2
      go_roundw
      case rel => exact ⟨j + 1, by omega, by go_num, Lib.hid ⟨HA.out, HB2.out⟩⟩
      case measure => simp [intOf]; omega
    · obtain rfl : j = M := by omega
      have HH := Lib.hid (cHidden (-1) k j ⟨by omega, by omega⟩ HK.out ⟨by omega, by omega⟩)
      rw [fr_hid (N := N) (by omega) _ (by unfold frN; rw [if_pos (by have := HN.out; omega)])] at HH
      go_wp2_with fail
      refine (HH.out _).mono ?_
      rintro e w2 ⟨rfl, hb⟩
      have hs := HS.out.1.below hb
      obtain ⟨⟨u0, c0⟩, f0⟩ := hs.at_ (i := j) (by omega)
      have HA : Hid (WordsAt (w2.setCell ⟨w.heap.size, j, none⟩ (.int .u64 (pk (frs N k) j))) w.heap.size N N (frs N k)) := Lib.hid (by
        have := hs.add
        rwa [← HN.out] at this)
      have HB2 := Lib.hid ((below_then HS.out.2 hb).setCell (p := ⟨w.heap.size, j, none⟩) (Nat.le_refl _) (.int .u64 (pk (frs N k) j)))
      clear hb hs HS HH
      generalize pk (frs N k) j = x at *
      go_wp2
      go_ret2
      exact ⟨_, rfl, Nat.le_refl _, HA.out, HB2.out⟩
set_option maxHeartbeats 2000000 in
theorem rFreshBad (n k : Int) (h : ¬ okF n) (w : World) :
    Calls Try.prog 20 #[.int .i64 n, .int .u64 k] w fun e w' => e = .returned (.tuple #[.slice none 0 0, .int .i64 2]) ∧ w' = w := by
  by_cases h1 : n < 1
  · go_enter Try.func20, Try.ntmps20
    go_wp2
    go_ret2
    exact ⟨rfl, rfl⟩
  · have h2 : 16 < n := Decidable.byContradiction fun e => h ⟨by omega, by omega⟩
    go_enter Try.func20, Try.ntmps20
    go_wp2
    go_ret2
    exact ⟨rfl, rfl⟩
theorem frs_take {N : Nat} {k : Int} {i : Nat} (h : i < N) : (frs N k).take (i + 1) = (frs N k).take i ++ [pk (frs N k) i] := by
  rw [List.take_succ_eq_append_getElem (by rw [frs_len]; exact h), pk_at]
theorem frs_take_len {N : Nat} {k : Int} {i : Nat} (h : i ≤ N) : ((frs N k).take i).length = i := by
  rw [List.length_take, frs_len]; omega
set_option maxHeartbeats 4000000 in
theorem rFresh (N : Nat) (k : Int) (h1 : 1 ≤ N) (h2 : N ≤ 16) (hk : okW k) (w : World) :
    Calls Try.prog 20 #[.int .i64 N, .int .u64 k] w fun e w' => ∃ ao cp, e = .returned (.tuple #[.slice ao N cp, .int .i64 0]) ∧ OwnU w.heap.size w' (.slice ao N cp) (frs N k) ∧ Below w.heap.size w w' := by
  have HK := Lib.hid hk
  clear hk
  go_enter Try.func20, Try.ntmps20
  go_wp2
  go_loopw [6, 7] (fun v i wr => ∃ j : Nat, j ≤ N ∧ i = .int .i64 j ∧ Hid (OwnU w.heap.size wr v ((frs N k).take j) ∧ Below w.heap.size w wr)) (fun _ i _ => N - (intOf i).toNat)
  case atStart => exact ⟨0, by omega, rfl, Lib.hid ⟨OwnU.nil _ _, Below.refl _ _⟩⟩
  case round =>
    obtain ⟨j, hj, rfl, HS⟩ := hrel
    obtain ⟨va, vc, rfl, _, _⟩ := own_shape HS.out.1
    rw [frs_take_len hj] at HS ⊢
    by_cases hlt : j < N
    · have HH : Hid (∀ n, frN N j = n → ∀ w', Calls Try.prog 11 #[.int .i64 n, .int .u64 k, .int .i64 j] w' fun e w2 => e = .returned (.tuple #[.int .u64 (pk (frs N k) j), .int .i64 0]) ∧ Below w'.heap.size w' w2) := Lib.hid (fun n hn w' => by
        have h := rHide n k j HK.out w'
        have h3 := fr_ok h2 hlt
        rw [hn] at h3
        rw [fr_hid hlt n hn, ← hid_good h3] at h
        exact h)
      have HT := Lib.hid (frs_take (k := k) hlt)
      generalize pk (frs N k) j = x at *
      by_cases hl : j + 1 = N
      · have hq : ((j : Int) + 1 == (N : Int)) = true := by rw [beq_iff_eq]; omega
        have HH2 := Lib.hid (HH.out (-1) (by unfold frN; rw [if_pos hl]))
        clear HH
        go_wp2_with fail
        refine (HH2.out _).mono ?_
        rintro e w2 ⟨rfl, hb⟩
        have hown := OwnU.below HS.out.1 hb
        have hown2 := OwnU.below hown (below_one (Below.refl _ _) (.cells #[.int .u64 x] 22))
        have hlit : ShowU (w2.alloc (.cells #[.int .u64 x] 22)) (.slice (some ⟨w2.heap.size, 0, none⟩) 1 1) [x] := lit_u w2 22 [x] 1 rfl (by omega)
        have hbb := below_then HS.out.2 hb
        have hg : w.heap.size ≤ (w2.alloc (.cells #[.int .u64 x] 22)).heap.size := by rw [size_alloc]; have := hbb.size; omega
        have HB1 := Lib.hid (below_one hbb (.cells #[.int .u64 x] 22))
        have hln : ((frs N k).take j).length + [x].length ≤ 1000 := by rw [frs_take_len hj]; simp; omega
        have hln2 : ((frs N k).take j ++ [x]).length = j + 1 := by rw [List.length_append, frs_take_len hj]; rfl
        clear hb hown HS HH2 hbb
        go_wp2_with (at_builtin; refine wpList_appendU (by rfl) _ _ (by rfl) w.heap.size _ _ ((frs N k).take j) [x] (j + 1) (by rfl) (by rfl) hown2 hlit hln hg hln2 ?_; intro ao2 cp2 w3 ho2 hb2; have HO2 := Lib.hid ho2; have HB2 := Lib.hid (HB1.out.trans hb2); clear ho2 hb2 hown2 hlit hg hln hln2 HB1)
        rw [← HT.out] at HO2
        go_roundw
        case rel => exact ⟨j + 1, by omega, by go_num, Lib.hid ⟨by first | exact HO2.out | (have := HO2.out; rw [hl] at this ⊢; exact this), HB2.out⟩⟩
        case measure => simp [intOf]; omega
      · have hq : ((j : Int) + 1 == (N : Int)) = false := by rw [beq_eq_false_iff_ne]; omega
        have HH2 := Lib.hid (HH.out ((j : Int) + 1) (by unfold frN; rw [if_neg hl]; rfl))
        clear HH
        go_wp2_with fail
        refine (HH2.out _).mono ?_
        rintro e w2 ⟨rfl, hb⟩
        have hown := OwnU.below HS.out.1 hb
        have hown2 := OwnU.below hown (below_one (Below.refl _ _) (.cells #[.int .u64 x] 22))
        have hlit : ShowU (w2.alloc (.cells #[.int .u64 x] 22)) (.slice (some ⟨w2.heap.size, 0, none⟩) 1 1) [x] := lit_u w2 22 [x] 1 rfl (by omega)
        have hbb := below_then HS.out.2 hb
        have hg : w.heap.size ≤ (w2.alloc (.cells #[.int .u64 x] 22)).heap.size := by rw [size_alloc]; have := hbb.size; omega
        have HB1 := Lib.hid (below_one hbb (.cells #[.int .u64 x] 22))
        have hln : ((frs N k).take j).length + [x].length ≤ 1000 := by rw [frs_take_len hj]; simp; omega
        have hln2 : ((frs N k).take j ++ [x]).length = j + 1 := by rw [List.length_append, frs_take_len hj]; rfl
        clear hb hown HS HH2 hbb
        go_wp2_with (at_builtin; refine wpList_appendU (by rfl) _ _ (by rfl) w.heap.size _ _ ((frs N k).take j) [x] (j + 1) (by rfl) (by rfl) hown2 hlit hln hg hln2 ?_; intro ao2 cp2 w3 ho2 hb2; have HO2 := Lib.hid ho2; have HB2 := Lib.hid (HB1.out.trans hb2); clear ho2 hb2 hown2 hlit hg hln hln2 HB1)
        rw [← HT.out] at HO2
        go_roundw
        case rel => exact ⟨j + 1, by omega, by go_num, Lib.hid ⟨by first | exact HO2.out | (have := HO2.out; rw [hl] at this ⊢; exact this), HB2.out⟩⟩
        case measure => simp [intOf]; omega
    · obtain rfl : j = N := by omega
      have HF := Lib.hid HS.out.1
      have HB := Lib.hid HS.out.2
      rw [List.take_of_length_le (by rw [frs_len]; omega)] at HF
      clear HS
      go_wp2
      go_ret2
      exact ⟨va, vc, rfl, HF.out, HB.out⟩
end Go.Proofs.Ytcahhcblhhpniaa
