/-
  List of the program.
-/
import Derived.Test.YtnnfmlbgoplnaaaShw
set_option linter.unusedVariables false
set_option linter.unusedSimpArgs false
namespace Go.Proofs.Ytnnfmlbgoplnaaa
open Go Go.RowKit

set_option maxHeartbeats 1000000 in
theorem cClone {w : World} {ad : Addr} {n cap : Nat} {l : List Int} (hu : ShowI w (.slice (some ad) n cap) l) (hn : l.length = n) (hl : l.length ≤ 1000) :
    Calls Try.prog 86 #[.slice (some ad) n cap] w fun e w' => ∃ ao cp, e = .returned (.slice ao l.length cp) ∧ OwnI w.heap.size w' (.slice ao l.length cp) l ∧ Below w.heap.size w w' := by
  subst hn
  have hown : OwnI w.heap.size (w.alloc (.cells #[] 3)) (.slice (some ⟨w.heap.size, 0, none⟩) 0 0) [] := World.ownsRow_lit (base := w.heap.size) (e := 3) (size := 1) w #[] 0 (Nat.le_refl _) (Nat.zero_le _) rfl
  have hu2 : ShowI (w.alloc (.cells #[] 3)) (.slice (some ad) l.length cap) l := hu.below (below_one (Below.refl _ _) _)
  have HB0 := Lib.hid (below_one (Below.refl w.heap.size w) (.cells #[] 3))
  have hg : w.heap.size ≤ (w.alloc (.cells #[] 3)).heap.size := by rw [size_alloc]; omega
  have hnil : ∀ w', (binOp .eql 30 (.slice (some ad) l.length cap) (.slice none 0 0)).run Try.prog w' = .ok (.bool false) w' := fun w' => Lib.run_eql_slice_nil w' _ _ _ _ _ _ _ Try.underlying30
  clear hu
  go_enter Try.func86, Try.ntmps86
  go_wp2_with (at_builtin; refine wpList_appendI (by rfl) _ _ (by rfl) w.heap.size _ _ [] l l.length (by rfl) (by rfl) hown hu2 (by simpa using hl) hg (by simp) ?_)
  intro ao cp w' ho hb
  have HO := Lib.hid ho
  have HB := Lib.hid (HB0.out.trans hb)
  clear ho hb hown hu2 hg HB0
  go_wp2
  go_ret
  exact ⟨ao, cp, rfl, HO.out, HB.out⟩
/-- the array of what has been found -/
def FoundAt (w : World) (F : Nat) (seen : List Int) : Prop := ∃ G : Nat → Int, w.rowIs F 115 16 (fun i => .int .i64 (G i)) ∧ ∀ i, i < seen.length → G i = pk seen i
section
variable {w w' : World} {F : Nat} {seen : List Int} {a : Int}
theorem FoundAt.below (h : FoundAt w F seen) (hb : Below w.heap.size w w') : FoundAt w' F seen := by
  obtain ⟨G, h1, h2⟩ := h
  exact ⟨G, row_kept h1 (S := fun _ => False) (Kept.ofBelow hb) id, h2⟩
theorem FoundAt.lt (h : FoundAt w F seen) : F < w.heap.size := by
  obtain ⟨G, h1, h2⟩ := h
  exact h1.lt
theorem FoundAt.show_ (h : FoundAt w F seen) (hl : seen.length ≤ 16) : ShowI w (.slice (some ⟨F, 0, none⟩) seen.length 16) seen := by
  obtain ⟨G, h1, h2⟩ := h
  refine ⟨by simp, _, 16, rfl, ⟨hl, by decide⟩, fun _ => ⟨F, 0, rfl, fun j hj => ?_⟩⟩
  rw [Nat.zero_add, h1.cell (by omega), h2 j (by omega)]
  exact (nms_at (by omega)).symm
theorem FoundAt.at_ (h : FoundAt w F seen) {i : Nat} (hi : i < 16) : (∃ u, w.cell? ⟨F, i, none⟩ = some u) ∧ w.frozen? ⟨F, i, none⟩ = false := by
  obtain ⟨G, h1, h2⟩ := h
  exact ⟨⟨_, h1.cell hi⟩, h1.frozen i⟩
theorem FoundAt.add (h : FoundAt w F seen) (a : Int) : FoundAt (w.setCell ⟨F, seen.length, none⟩ (.int .i64 a)) F (seen ++ [a]) := by
  obtain ⟨G, h1, h2⟩ := h
  refine ⟨fun i => if i = seen.length then a else G i, (h1.set seen.length _).congr fun i hi => by by_cases e : i = seen.length <;> simp [e], fun i hi => ?_⟩
  rw [List.length_append, List.length_singleton] at hi
  dsimp only
  by_cases e : i = seen.length
  · subst e; simp [pk]
  · rw [if_neg e, h2 i (by omega)]
    simp [pk, List.getD, List.getElem?_append_left (show i < seen.length by omega)]
theorem FoundAt.nil (h : w.rowIs F 115 16 (fun _ => .int .i64 0)) : FoundAt w F [] := ⟨fun _ => 0, h, fun i hi => absurd hi (Nat.not_lt_zero _)⟩
end
theorem arrF : Try.prog.arrayLen 115 = 16 := by kernel_rfl
set_option maxRecDepth 100000 in
theorem sliceF (F M : Nat) (hM : M ≤ 16) (W : World) : (Instr.sliceAt 115 (.pointer (some ⟨F, 0, none⟩)) none (some (.int .i64 (M : Int))) none).run Try.prog W = .ok (.slice (some ⟨F, 0, none⟩) M 16) W := by
  rw [run_sliceAt_array_h W 115 ⟨F, 0, none⟩ Try.underlying115 .i64 (M : Int) (by omega) (by rw [arrF]; omega), arrF]
  obtain ⟨i0, hi, hz0, hz1, hz2⟩ := info_parts infoI
  simp [sizeOf, typeInfo, slicedAt, show Try.prog.elem 115 = 3 by kernel_rfl, hi, hz1, Result.andThen, go_sem]
theorem list_none {out : List Int} {err c : Int} {B : Nat} {W w' : World} (h1 : out = []) (h2 : c = err) (hb : Below W.heap.size W w') :
    ∃ ao cp, Ending.returned (.tuple #[.slice none 0 0, .int .i64 c]) = .returned (.tuple #[.slice ao out.length cp, .int .i64 err]) ∧ OwnI B w' (.slice ao out.length cp) out ∧ Below W.heap.size W w' := by
  subst h1 h2
  exact ⟨none, 0, rfl, OwnI.nil _ _, hb⟩
theorem ret_le {v : Value} {c d : Int} (h2 : c = d) : Ending.returned (.tuple #[v, .int .i64 c]) = .returned (.tuple #[v, .int .i64 d]) := by rw [h2]
set_option maxHeartbeats 2000000 in
theorem cListBad {w : World} (u : Value) (l : List Int) (k a : Int) (hs : ShowU w u l) (h : ¬ okL l a) :
    Calls Try.prog 72 #[u, .int .u64 k, .int .i64 a] w fun e w' => e = .returned (.tuple #[.slice none 0 0, .int .i64 2]) ∧ w' = w := by
  obtain ⟨ao, cap, rfl, hcap, hat⟩ := hs.form
  clear hs hat
  by_cases h1 : 16 < l.length
  · go_enter Try.func72, Try.ntmps72
    go_wp2
    go_step3
    go_wp2
    try rw [Exit.noGoto_ret]
    go_ret2
    exact ⟨rfl, rfl⟩
  · by_cases h2 : a < -1
    · go_enter Try.func72, Try.ntmps72
      go_wp2
      go_step3
      go_wp2
      try rw [Exit.noGoto_ret]
      go_ret2
      exact ⟨rfl, rfl⟩
    · have h3 : (l.length : Int) ≤ a := by
        refine Decidable.byContradiction fun h3 => h ⟨by omega, by omega, by omega⟩
      go_enter Try.func72, Try.ntmps72
      go_wp2
      go_step3
      go_wp2
      try rw [Exit.noGoto_ret]
      go_ret2
      exact ⟨rfl, rfl⟩
set_option maxHeartbeats 2000000 in
theorem cListOk (u : Value) (l : List Int) (k a : Int) (out : List Int) (err : Int) (w : World) (hs : ShowU w u l) (hk : okW k) (h : okL l a) (hr : lst l k a = (out, err)) :
    Calls Try.prog 72 #[u, .int .u64 k, .int .i64 a] w fun e w' => ∃ ao cp, e = .returned (.tuple #[.slice ao out.length cp, .int .i64 err]) ∧ OwnI w.heap.size w' (.slice ao out.length cp) out ∧ Below w.heap.size w w' := by
  obtain ⟨ao, cap, rfl, hcap, hat⟩ := hs.form
  obtain ⟨Z, hz, hrow⟩ := makeN
  have HF : Hid (FoundAt (w.alloc (.cells Z 115)) w.heap.size []) := Lib.hid (FoundAt.nil (hrow w))
  have HB : Hid (Below w.heap.size w (w.alloc (.cells Z 115))) := Lib.hid (below_one (Below.refl _ _) _)
  have HL : Hid (lw l k [] a = (out, err)) := Lib.hid (by rw [← lst_ok h]; exact hr)
  have HK := Lib.hid hk
  have h1 : l.length ≤ 16 := h.1
  have h2 : -1 ≤ a := h.2.1
  have h3 : a < l.length := h.2.2
  clear hr hrow hk h hs
  go_enter Try.func72, Try.ntmps72
  go_wp2
  go_step3
  go_wp2
  go_step3
  go_wp2
  go_loopw [9, 10] (fun m x wr => ∃ (seen : List Int) (M : Nat) (b : Int), m = .int .i64 M ∧ x = .int .i64 b ∧ M ≤ 16 ∧ (-1 ≤ b ∧ b ≤ 15) ∧ Hid (seen.length = M ∧ FoundAt wr w.heap.size seen ∧ Seen l seen ∧ lw l k seen b = (out, err) ∧ Below w.heap.size w wr)) (fun m _ _ => 17 - (intOf m).toNat)
  case atStart => exact ⟨[], 0, a, rfl, rfl, by omega, ⟨h2, by omega⟩, Lib.hid ⟨rfl, HF.out, Seen.nil _, HL.out, HB.out⟩⟩
  case round =>
    clear HF HL HB h2 h3
    obtain ⟨seen, M, b, rfl, rfl, hM, ⟨hb0, hb1⟩, HS⟩ := hrel
    have HC : Hid (∀ q, decide (b ∈ seen) = q → Calls Try.prog 84 #[.slice (some ⟨w.heap.size, 0, none⟩) M 16, .int .i64 b] wr fun e w' => e = .returned (.bool q) ∧ w' = wr) := Lib.hid (fun q hq => by
      obtain ⟨e1, e2, _⟩ := HS.out
      subst e1
      exact cContains _ seen b q hq wr (e2.show_ hM))
    by_cases he : b = -1
    · have hq : (b == -1) = true := by simp [he]
      subst he
      have HX : Hid (seen = out ∧ 0 = err) := Lib.hid (by
        obtain ⟨e1, e2, e3, e4, e5⟩ := HS.out
        rw [lw_end (by omega)] at e4
        exact Prod.mk.inj e4)
      have HCl : Hid (Calls Try.prog 86 #[.slice (some ⟨w.heap.size, 0, none⟩) M 16] wr fun e w' => ∃ ao cp, e = .returned (.slice ao out.length cp) ∧ OwnI wr.heap.size w' (.slice ao out.length cp) out ∧ Below wr.heap.size wr w') := Lib.hid (by
        obtain ⟨e1, e2, _⟩ := HS.out
        obtain rfl := HX.out.1
        exact cClone (by rw [← e1]; exact e2.show_ (by omega)) e1 (by omega))
      have HB := Lib.hid HS.out.2.2.2.2
      have hsl := fun W => sliceF w.heap.size M hM W
      clear HC HS
      go_wp2_with fail
      refine HCl.out.mono ?_
      rintro e w1 ⟨ro, cp, rfl, ho, hb⟩
      have HO := Lib.hid (OwnI.le ho HB.out.size)
      have HW := Lib.hid (below_then HB.out hb)
      clear ho hb
      go_wp2
      try rw [Exit.noGoto_ret]
      go_ret2
      exact ⟨ro, cp, ret_le HX.out.2, HO.out, HW.out⟩
    · have hq : (b == -1) = false := by simpa using he
      by_cases hlen : (l.length : Int) ≤ b
      · have HX : Hid (out = [] ∧ 150 = err) := Lib.hid (by
          obtain ⟨e1, e2, e3, e4, e5⟩ := HS.out
          rw [lw_out (by omega) he (.inl hlen)] at e4
          obtain ⟨h1, h2⟩ := Prod.mk.inj e4
          exact ⟨h1.symm, h2⟩)
        have HB := Lib.hid HS.out.2.2.2.2
        clear HC HS
        go_wp2
        try rw [Exit.noGoto_ret]
        go_ret2
        exact list_none HX.out.1 HX.out.2 HB.out
      · have hsl := fun W => sliceF w.heap.size M hM W
        by_cases hin : b ∈ seen
        · have HX : Hid (out = [] ∧ 150 = err) := Lib.hid (by
            obtain ⟨e1, e2, e3, e4, e5⟩ := HS.out
            rw [lw_out (by omega) he (.inr hin)] at e4
            obtain ⟨h1, h2⟩ := Prod.mk.inj e4
            exact ⟨h1.symm, h2⟩)
          have HB := Lib.hid HS.out.2.2.2.2
          have HC1 := Lib.hid (HC.out true (decide_eq_true hin))
          clear HC HS hin
          go_wp2_with fail
          refine HC1.out.mono ?_
          rintro e w1 ⟨rfl, rfl⟩
          go_wp2
          try rw [Exit.noGoto_ret]
          go_ret2
          exact list_none HX.out.1 HX.out.2 HB.out
        · obtain ⟨B, hB⟩ : ∃ B : Nat, b = B := ⟨b.toNat, by omega⟩
          have HC1 := Lib.hid (HC.out false (decide_eq_false hin))
          have HS2 : Hid (seen.length = M ∧ FoundAt wr w.heap.size seen ∧ Seen l (seen ++ [b]) ∧ (nB l k b = false → out = [] ∧ 150 = err) ∧ (nB l k b = true → lw l k (seen ++ [b]) (nV l k b) = (out, err)) ∧ Below w.heap.size w wr) := Lib.hid (by
            obtain ⟨e1, e2, e3, e4, e5⟩ := HS.out
            refine ⟨e1, e2, e3.add (by omega) (by omega) hin, fun hz => ?_, fun hz => ?_, e5⟩
            · rw [lw_none (by omega) he hz] at e4
              obtain ⟨h1, h2⟩ := Prod.mk.inj e4
              exact ⟨h1.symm, h2⟩
            · rw [← lw_step (by omega) he (by rintro (h | h); exact hlen h; exact hin h) hz]
              exact e4)
          clear HC HS hin
          subst hB
          have hBl : B < l.length := by omega
          have hM2 : M < 16 := by
            obtain ⟨e1, e2, e3, _⟩ := HS2.out
            have := e3.len
            rw [List.length_append, List.length_singleton] at this
            omega
          obtain ⟨b1, o1, rfl, c1⟩ := hat B hBl
          have hb1l := World.block_lt_of_cell? w _ c1
          have hb1 : b1 < w.heap.size := hb1l
          have d1 := cell_keep HS2.out.2.2.2.2.2 c1
          obtain ⟨⟨u0, f1⟩, f2⟩ := HS2.out.2.1.at_ hM2
          have HSh := Lib.hid (cShow (pk l B) k B HK.out)
          have HA : Hid (Below w.heap.size w (wr.setCell ⟨w.heap.size, M, none⟩ (.int .i64 B)) ∧ FoundAt (wr.setCell ⟨w.heap.size, M, none⟩ (.int .i64 B)) w.heap.size (seen ++ [(B : Int)])) := Lib.hid ⟨HS2.out.2.2.2.2.2.setCell (p := ⟨w.heap.size, M, none⟩) (Nat.le_refl _) _, by
            have := HS2.out.2.1.add (B : Int)
            rw [HS2.out.1] at this
            exact this⟩
          have HT : Hid (Seen l (seen ++ [(B : Int)]) ∧ (seen ++ [(B : Int)]).length = M + 1 ∧ (shwB (pk l B) k B = false → out = [] ∧ 150 = err) ∧ (shwB (pk l B) k B = true → lw l k (seen ++ [(B : Int)]) (shwV (pk l B) k B) = (out, err))) := Lib.hid (by
            obtain ⟨e1, e2, e3, e4, e5, e6⟩ := HS2.out
            exact ⟨e3, by rw [List.length_append, List.length_singleton, e1], e4, e5⟩)
          have HR : Hid (shwB (pk l B) k B = true → -1 ≤ shwV (pk l B) k B ∧ shwV (pk l B) k B ≤ 15) := Lib.hid (fun h => shw_range h)
          clear HS2 c1 hb1l hat
          generalize seen ++ [(B : Int)] = seen2 at HA HT
          generalize shwV (pk l B) k B = v at HSh HT HR
          generalize pk l B = x at *
          cases hB : shwB x k B with
          | false =>
            rw [hB] at HSh HT HR
            have HX := Lib.hid (HT.out.2.2.1 rfl)
            clear hB HT HR
            go_wp2_with fail
            refine HC1.out.mono ?_
            rintro e w1 ⟨rfl, rfl⟩
            go_wp2_with fail
            refine (HSh.out _).mono ?_
            rintro e w2 ⟨rfl, hb2⟩
            have HB := Lib.hid (below_then HA.out.1 hb2)
            clear hb2
            go_wp2
            try rw [Exit.noGoto_ret]
            go_ret2
            exact list_none HX.out.1 HX.out.2 HB.out
          | true =>
            rw [hB] at HSh HT HR
            have hv := HR.out rfl
            have HX := Lib.hid (HT.out.2.2.2 rfl)
            clear hB HR
            go_wp2_with fail
            refine HC1.out.mono ?_
            rintro e w1 ⟨rfl, rfl⟩
            go_wp2_with fail
            refine (HSh.out _).mono ?_
            rintro e w2 ⟨rfl, hb2⟩
            have HB : Hid (seen2.length = M + 1 ∧ FoundAt w2 w.heap.size seen2 ∧ Seen l seen2 ∧ lw l k seen2 v = (out, err) ∧ Below w.heap.size w w2) := Lib.hid ⟨HT.out.2.1, HA.out.2.below hb2, HT.out.1, HX.out, below_then HA.out.1 hb2⟩
            clear hb2
            go_wp2
            go_roundw
            case rel => exact ⟨seen2, M + 1, v, by go_num, rfl, by omega, hv, HB⟩
            case measure => simp [intOf]; omega
end Go.Proofs.Ytnnfmlbgoplnaaa
