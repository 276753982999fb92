/-
  List of the document.
-/
import Derived.Test.YtnnfmlbgoplnaaaLst
set_option linter.unusedVariables false
set_option linter.unusedSimpArgs false
namespace Go.Proofs.Ytnnfmlbgoplnaaa
open Go Go.RowKit

set_option maxHeartbeats 2000000 in
theorem rListBad {w : World} (u : Value) (l : List Int) (k a : Int) (hs : ShowU w u l) (h : ¬ okL l a) :
    Calls Try.prog 78 #[u, .int .u64 k, .int .i64 a] w fun e w' => e = .returned (.tuple #[.slice none 0 0, .int .i64 2]) ∧ w' = w := by
  obtain ⟨ao, cap, rfl, hcap, hat⟩ := hs.form
  clear hs hat
  by_cases h1 : 16 < l.length
  · go_enter Try.func78, Try.ntmps78
    go_wp2
    go_ret2
    exact ⟨rfl, rfl⟩
  · by_cases h2 : a < -1
    · go_enter Try.func78, Try.ntmps78
      go_wp2
      go_ret2
      exact ⟨rfl, rfl⟩
    · have h3 : (l.length : Int) ≤ a := by
        refine Decidable.byContradiction fun h3 => h ⟨by omega, by omega, by omega⟩
      go_enter Try.func78, Try.ntmps78
      go_wp2
      go_ret2
      exact ⟨rfl, rfl⟩
set_option maxHeartbeats 4000000 in
theorem rListOk (u : Value) (l : List Int) (k a : Int) (out : List Int) (err : Int) (w : World) (hs : ShowU w u l) (hk : okW k) (h : okL l a) (hr : lst l k a = (out, err)) :
    Calls Try.prog 78 #[u, .int .u64 k, .int .i64 a] w fun e w' => ∃ ao cp, e = .returned (.tuple #[.slice ao out.length cp, .int .i64 err]) ∧ OwnI w.heap.size w' (.slice ao out.length cp) out ∧ Below w.heap.size w w' := by
  obtain ⟨ao, cap, rfl, hcap, hat⟩ := hs.form
  have HL : Hid (lw l k [] a = (out, err)) := Lib.hid (by rw [← lst_ok h]; exact hr)
  have HK := Lib.hid hk
  have h1 : l.length ≤ 16 := h.1
  have h2 : -1 ≤ a := h.2.1
  have h3 : a < l.length := h.2.2
  clear hr hk h hs
  go_enter Try.func78, Try.ntmps78
  go_wp2
  go_loopw [2, 8] (fun x v wr => ∃ (seen : List Int) (M : Nat) (b : Int), x = .int .i64 b ∧ M ≤ 16 ∧ -1 ≤ b ∧ b < l.length ∧ Hid (OwnI w.heap.size wr v seen) ∧ Hid (seen.length = M ∧ Seen l seen ∧ lw l k seen b = (out, err) ∧ Below w.heap.size w wr)) (fun _ v _ => 17 - (match v with | .slice _ n _ => n | _ => 0))
  case atStart => exact ⟨[], 0, a, rfl, by omega, h2, h3, Lib.hid (OwnI.nil _ _), Lib.hid ⟨rfl, Seen.nil _, HL.out, Below.refl _ _⟩⟩
  case round =>
    clear HL h2 h3
    obtain ⟨seen, M, b, rfl, hM, hb0, hb1, HO, HS⟩ := hrel
    obtain ⟨va, vc, rfl, _, _⟩ := own_shape HO.out
    rw [HS.out.1] at HO ⊢
    by_cases he : b < 0
    · have he1 : b = -1 := by omega
      have HX : Hid (seen = out ∧ 0 = err) := Lib.hid (by
        obtain ⟨e1, e3, e4, e5⟩ := HS.out
        rw [he1, lw_end (by omega)] at e4
        exact Prod.mk.inj e4)
      have HF : Hid (∃ ao cp, Ending.returned (.tuple #[.slice va M vc, .int .i64 0]) = .returned (.tuple #[.slice ao out.length cp, .int .i64 err]) ∧ OwnI w.heap.size wr (.slice ao out.length cp) out ∧ Below w.heap.size w wr) := Lib.hid (by
        obtain ⟨e1, e2⟩ := HX.out
        subst e1 e2
        exact ⟨va, vc, by rw [HS.out.1], by rw [HS.out.1]; exact HO.out, HS.out.2.2.2⟩)
      clear he1
      go_wp2
      go_ret2
      exact HF.out
    · obtain ⟨B, hB⟩ : ∃ B : Nat, b = B := ⟨b.toNat, by omega⟩
      subst hB
      have HI := Lib.hid (OwnI.shows (show OwnI w.heap.size wr (.slice va M vc) seen from HO.out))
      go_wp2
      go_loopw [9] (fun i wx => ∃ n : Nat, n ≤ M ∧ i = .int .i64 n ∧ Hid ((B : Int) ∉ seen.take n) ∧ wx = wr) (fun i _ => M - (intOf i).toNat)
      case atStart => exact ⟨0, by omega, rfl, Lib.hid (by simp), rfl⟩
      case round =>
        obtain ⟨n, hn, rfl, HN, rfl⟩ := hrel
        by_cases hlt : n < M
        · have hns : n < seen.length := by rw [HS.out.1]; exact hlt
          obtain ⟨ao', cp', ev, _, hati⟩ := HI.out.form
          obtain ⟨b1, o1, e1, c1⟩ := hati n hns
          obtain ⟨rfl, _, _⟩ := Value.slice.inj ev
          subst e1
          rw [← pk_at seen n hns] at c1
          have HT : Hid (seen[n] = (B : Int) → (B : Int) ∈ seen) := Lib.hid (fun e => e ▸ List.getElem_mem hns)
          have HF : Hid (seen[n] ≠ (B : Int) → (B : Int) ∉ seen.take (n + 1)) := Lib.hid (fun e => not_take_succ hns HN.out e)
          generalize seen[n] = y at c1 HT HF
          clear hati ev hns
          by_cases hxy : y = (B : Int)
          · have hin := HT.out hxy
            have hq : (y == (B : Int)) = true := by rw [beq_iff_eq]; exact hxy
            have HX : Hid (out = [] ∧ 150 = err) := Lib.hid (by
              obtain ⟨e1, e3, e4, e5⟩ := HS.out
              rw [lw_out (by omega) (by omega) (.inr hin)] at e4
              obtain ⟨h1, h2⟩ := Prod.mk.inj e4
              exact ⟨h1.symm, h2⟩)
            have HB := Lib.hid HS.out.2.2.2
            clear HT HF HN hin hxy HS HO HI
            go_wp2
            try rw [Exit.noGoto_ret]
            go_ret2
            exact list_none HX.out.1 HX.out.2 HB.out
          · have HF1 := Lib.hid (HF.out hxy)
            have hq : (y == (B : Int)) = false := by rw [beq_eq_false_iff_ne]; exact hxy
            clear HT HF HN hxy
            go_wp2
            go_roundw
            case rel => exact ⟨n + 1, by omega, by go_num, HF1, trivial⟩
            case measure => simp [intOf]; omega
        · obtain rfl : n = M := by omega
          have hin : (B : Int) ∉ seen := by
            have := HN.out
            rwa [← HS.out.1, List.take_length] at this
          have hBl : B < l.length := by omega
          have HS2 : Hid (seen.length = n ∧ Seen l (seen ++ [(B : Int)]) ∧ (nB l k B = false → out = [] ∧ 150 = err) ∧ (nB l k B = true → lw l k (seen ++ [(B : Int)]) (nV l k B) = (out, err)) ∧ Below w.heap.size w wr) := Lib.hid (by
            obtain ⟨e1, e3, e4, e5⟩ := HS.out
            refine ⟨e1, e3.add (by omega) (by omega) hin, fun hz => ?_, fun hz => ?_, e5⟩
            · rw [lw_none (by omega) (by omega) hz] at e4
              obtain ⟨h1, h2⟩ := Prod.mk.inj e4
              exact ⟨h1.symm, h2⟩
            · rw [← lw_step (by omega) (by omega) (by rintro (h | h); omega; exact hin h) hz]
              exact e4)
          have hM2 : n < 16 := by
            obtain ⟨e1, e3, _⟩ := HS2.out
            have := e3.len
            rw [List.length_append, List.length_singleton] at this
            omega
          clear HS hin HN HI
          obtain ⟨b1, o1, e1, c1⟩ := hat B hBl
          subst e1
          have hb1 : b1 < w.heap.size := World.block_lt_of_cell? w _ c1
          have hown := OwnI.below HO.out (below_one (Below.refl _ _) (.cells #[.int .i64 (B : Int)] 3))
          have hlit : ShowI (wr.alloc (.cells #[.int .i64 (B : Int)] 3)) (.slice (some ⟨wr.heap.size, 0, none⟩) 1 1) [(B : Int)] := lit_i wr 3 [(B : Int)] 1 rfl (by omega)
          have hg : w.heap.size ≤ (wr.alloc (.cells #[.int .i64 (B : Int)] 3)).heap.size := by rw [size_alloc]; have := HS2.out.2.2.2.2.size; omega
          have hln : seen.length + [(B : Int)].length ≤ 1000 := by rw [HS2.out.1]; simp; omega
          have hln2 : (seen ++ [(B : Int)]).length = n + 1 := by rw [List.length_append, HS2.out.1]; rfl
          have HB1 := Lib.hid (below_one HS2.out.2.2.2.2 (.cells #[.int .i64 (B : Int)] 3))
          have HSh := Lib.hid (rShow (pk l B) k B HK.out)
          have HT : Hid (Seen l (seen ++ [(B : Int)]) ∧ (seen ++ [(B : Int)]).length = n + 1 ∧ (shwB (pk l B) k B = false → out = [] ∧ 150 = err) ∧ (shwB (pk l B) k B = true → lw l k (seen ++ [(B : Int)]) (shwV (pk l B) k B) = (out, err))) := Lib.hid (by
            obtain ⟨e1, e3, e4, e5, e6⟩ := HS2.out
            exact ⟨e3, by rw [List.length_append, List.length_singleton, e1], e4, e5⟩)
          have HR : Hid (shwB (pk l B) k B = true → -1 ≤ shwV (pk l B) k B ∧ shwV (pk l B) k B ≤ 15) := Lib.hid (fun h => shw_range h)
          have HC1 := Lib.hid c1
          clear HS2 c1 hat HO
          generalize shwV (pk l B) k B = v at HSh HT HR
          generalize pk l B = x at *
          go_wp2_with (at_builtin; refine wpList_appendI (by rfl) _ _ (by rfl) w.heap.size _ _ seen [(B : Int)] (n + 1) (by rfl) (by rfl) hown hlit hln hg hln2 ?_; intro ao2 cp2 w2 ho2 hb2; have HO2 := Lib.hid ho2; have HB2 := Lib.hid (HB1.out.trans hb2); have d1 := (HB2.out.cell (p := ⟨b1, o1 + B, none⟩) hb1).trans HC1.out; clear ho2 hb2 hown hlit hg hln hln2 HB1 HC1)
          generalize seen ++ [(B : Int)] = seen2 at HT HO2
          refine (HSh.out _).mono ?_
          rintro e w3 ⟨rfl, hb3⟩
          have HO3 := Lib.hid (OwnI.below HO2.out hb3)
          have HB3 := Lib.hid (below_then HB2.out hb3)
          clear hb3 HO2 HB2 d1 HSh
          cases hB : shwB x k B with
          | false =>
            rw [hB] at HT HR
            have HX := Lib.hid (HT.out.2.2.1 rfl)
            clear hB HT HR
            go_wp2
            try rw [Exit.noGoto_ret]
            go_ret2
            exact list_none HX.out.1 HX.out.2 HB3.out
          | true =>
            rw [hB] at HT HR
            have hv := HR.out rfl
            have hX := HT.out.2.2.2 rfl
            have hs2 := HT.out.1
            have hl2 := HT.out.2.1
            clear hB HR HT
            by_cases hvl : (l.length : Int) ≤ v
            · have HX : Hid (out = [] ∧ 150 = err) := Lib.hid (by
                rw [lw_out (by omega) (by omega) (.inl hvl)] at hX
                obtain ⟨h1, h2⟩ := Prod.mk.inj hX
                exact ⟨h1.symm, h2⟩)
              clear hX hs2 hl2
              go_wp2
              try rw [Exit.noGoto_ret]
              go_ret2
              exact list_none HX.out.1 HX.out.2 HB3.out
            · have HX : Hid (seen2.length = n + 1 ∧ Seen l seen2 ∧ lw l k seen2 v = (out, err) ∧ Below w.heap.size w w3) := Lib.hid ⟨hl2, hs2, hX, HB3.out⟩
              have HV : Hid (OwnI w.heap.size w3 (.slice ao2 (n + 1) cp2) seen2) := HO3
              clear hX hs2 hl2 HO3
              go_wp2
              go_roundw
              case rel => exact ⟨seen2, n + 1, v, rfl, by omega, hv.1, by omega, HV, HX⟩
              case measure => simp; omega
end Go.Proofs.Ytnnfmlbgoplnaaa
