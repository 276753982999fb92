/-
  MemNames: both ends; memories that are none.
-/
import Derived.Test.YtkcogdojohlpcaaWorks
set_option linter.unusedVariables false
set_option linter.unusedSimpArgs false
namespace Go.Proofs.Ytkcogdojohlpcaa
open Go Go.RowKit

/-- a memory that is none: nil, or one that New has not made -/
def NoMem (w : World) (v : Value) : Prop := v = .pointer none ∨ ∃ z, v = .pointer (some ⟨z, 0, none⟩) ∧ w.cell? ⟨z, 0, none⟩ = some (.slice none 0 0) ∧ w.cell? ⟨z, 1, none⟩ = some (.int .i64 0)
theorem NoMem.below {w w' : World} {v : Value} (h : NoMem w v) (hb : Below w.heap.size w w') : NoMem w' v := by
  rcases h with h | ⟨z, h, h0, h1⟩
  · exact .inl h
  · exact .inr ⟨z, h, cell_keep hb h0, cell_keep hb h1⟩
section
variable {w : World} {v : Value}
set_option maxHeartbeats 1000000 in
theorem nLen (h : NoMem w v) : Calls Try.prog 14 #[v] w fun e w' => e = .returned (.int .i64 0) ∧ w' = w := by
  rcases h with rfl | ⟨z, rfl, h0, h1⟩
  · go_enter Try.func14, Try.ntmps14
    go_wp2
    go_ret
    exact ⟨rfl, rfl⟩
  · go_enter Try.func14, Try.ntmps14
    go_wp2
    go_ret
    exact ⟨rfl, rfl⟩
set_option maxHeartbeats 1000000 in
theorem nCount (h : NoMem w v) : Calls Try.prog 12 #[v] w fun e w' => e = .returned (.int .i64 0) ∧ w' = w := by
  rcases h with rfl | ⟨z, rfl, h0, h1⟩
  · go_enter Try.func12, Try.ntmps12
    go_wp2
    go_ret
    exact ⟨rfl, rfl⟩
  · go_enter Try.func12, Try.ntmps12
    go_wp2
    go_ret
    exact ⟨rfl, rfl⟩
set_option maxHeartbeats 1000000 in
theorem nClone (w : World) : Calls Try.prog 30 #[.slice none 0 0] w fun e w' => e = .returned (.slice none 0 0) ∧ w' = w := by
  have hnil : ∀ w', (binOp .eql 37 (.slice none 0 0) (.slice none 0 0)).run Try.prog w' = .ok (.bool true) w' := fun w' => Lib.run_eql_slice_nil w' _ _ _ _ _ _ _ Try.underlying37
  go_enter Try.func30, Try.ntmps30
  go_wp2
  go_ret
  exact ⟨rfl, rfl⟩
set_option maxHeartbeats 1000000 in
theorem nWords (h : NoMem w v) : Calls Try.prog 16 #[v] w fun e w' => e = .returned (.slice none 0 0) ∧ w' = w := by
  rcases h with rfl | ⟨z, rfl, h0, h1⟩
  · go_enter Try.func16, Try.ntmps16
    go_wp2
    go_ret
    exact ⟨rfl, rfl⟩
  · go_enter Try.func16, Try.ntmps16
    go_wp2_with fail
    refine (nClone _).mono ?_
    rintro e w1 ⟨rfl, rfl⟩
    go_wp2
    go_ret
    exact ⟨rfl, rfl⟩
set_option maxHeartbeats 1000000 in
theorem nAcc (h : NoMem w v) (i m : Int) : Calls Try.prog 31 #[v, .int .i64 i, .int .i64 m] w fun e w' => e = .returned (.tuple #[.slice none 0 0, .int .i64 1]) ∧ w' = w := by
  have HH := Lib.hid h
  clear h
  go_enter Try.func31, Try.ntmps31
  go_wp2_with fail
  refine (nLen HH.out).mono ?_
  rintro e w1 ⟨rfl, rfl⟩
  go_wp2
  go_ret2
  exact ⟨rfl, rfl⟩
set_option maxHeartbeats 1000000 in
theorem nLoad (h : NoMem w v) (i : Int) : Calls Try.prog 20 #[v, .int .i64 i] w fun e w' => e = .returned (.tuple #[.int .u64 0, .int .i64 1]) ∧ w' = w := by
  have HH := Lib.hid h
  clear h
  go_enter Try.func20, Try.ntmps20
  go_wp2_with fail
  refine (nAcc HH.out _ _).mono ?_
  rintro e w1 ⟨rfl, rfl⟩
  go_wp2
  go_ret2
  exact ⟨rfl, rfl⟩
set_option maxHeartbeats 1000000 in
theorem nStore (h : NoMem w v) (i x : Int) : Calls Try.prog 21 #[v, .int .i64 i, .int .u64 x] w fun e w' => e = .returned (.int .i64 1) ∧ w' = w := by
  have HH := Lib.hid h
  clear h
  go_enter Try.func21, Try.ntmps21
  go_wp2_with fail
  refine (nAcc HH.out _ _).mono ?_
  rintro e w1 ⟨rfl, rfl⟩
  go_wp2
  go_ret
  exact ⟨rfl, rfl⟩
set_option maxHeartbeats 1000000 in
theorem nAdd (h : NoMem w v) (i x : Int) : Calls Try.prog 19 #[v, .int .i64 i, .int .u64 x] w fun e w' => e = .returned (.tuple #[.int .u64 0, .int .i64 1]) ∧ w' = w := by
  have HH := Lib.hid h
  clear h
  go_enter Try.func19, Try.ntmps19
  go_wp2_with fail
  refine (nAcc HH.out _ _).mono ?_
  rintro e w1 ⟨rfl, rfl⟩
  go_wp2
  go_ret2
  exact ⟨rfl, rfl⟩
set_option maxHeartbeats 1000000 in
theorem nCas (h : NoMem w v) (i x y : Int) : Calls Try.prog 23 #[v, .int .i64 i, .int .u64 x, .int .u64 y] w fun e w' => e = .returned (.tuple #[.bool false, .int .i64 1]) ∧ w' = w := by
  have HH := Lib.hid h
  clear h
  go_enter Try.func23, Try.ntmps23
  go_wp2_with fail
  refine (nAcc HH.out _ _).mono ?_
  rintro e w1 ⟨rfl, rfl⟩
  go_wp2
  go_ret2
  exact ⟨rfl, rfl⟩
set_option maxHeartbeats 1000000 in
theorem nCas2 (h : NoMem w v) (i x y z u : Int) : Calls Try.prog 22 #[v, .int .i64 i, .int .u64 x, .int .u64 y, .int .u64 z, .int .u64 u] w fun e w' => e = .returned (.tuple #[.bool false, .int .i64 1]) ∧ Below w.heap.size w w' := by
  have HH := Lib.hid h
  clear h
  go_enter Try.func22, Try.ntmps22
  go_wp2_with fail
  refine (nAcc HH.out _ _).mono ?_
  rintro e w1 ⟨rfl, rfl⟩
  go_wp2
  go_quiet (fail)
  go_wp2
  go_ret2
  exact ⟨rfl, below_drewN (Below.refl _ _) _⟩
end
theorem nomem_new (w : World) (f : Value) (t : TypeId) : NoMem (w.alloc (.cells #[.slice none 0 0, .int .i64 0, f] t)) (.pointer (some ⟨w.heap.size, 0, none⟩)) := by
  have h := heap_new w (.cells #[.slice none 0 0, .int .i64 0, f] t)
  refine .inr ⟨_, rfl, ?_, ?_⟩ <;> (unfold World.cell?; dsimp only; rw [h]; rfl)
set_option maxHeartbeats 4000000 in
set_option maxRecDepth 100000 in
theorem walkNames (W : World) : Calls Try.prog 7 #[] W fun e w' => e = .returned (.bool true) ∧ Below W.heap.size W w' := by
  go_enter Try.func7, Try.ntmps7
  go_wp2_with fail
  refine (cNewBad 0 _ (by decide)).mono ?_
  rintro e w1 ⟨rfl, hb1⟩
  go_wp2_with fail
  refine (cNewBad 4097 _ (by decide)).mono ?_
  rintro e w2 ⟨rfl, hb2⟩
  have hbw := below_then hb1 hb2
  clear hb1 hb2
  go_wp2_with fail
  refine (cNew 4096 _ (by decide) (by decide)).mono ?_
  rintro e w3 ⟨a, b, k, rfl, hm, hb3, ha, hb, hk⟩
  have hS : ∀ x, x = a ∨ x = b → W.heap.size ≤ x := by have := hbw.size; omega
  have hb3 := below_then hbw hb3
  clear hbw ha hb hk
  go_wp2_with fail
  refine (cLoadBad hm (-1) (by decide)).mono ?_
  rintro e w4 ⟨rfl, rfl⟩
  go_wp2_with fail
  refine (cStoreBad hm 4096 1 (by decide)).mono ?_
  rintro e w5 ⟨rfl, rfl⟩
  go_wp2_with fail
  refine (mCas2Bad hm 4095 0 0 1 1 (by decide)).mono ?_
  rintro e w6 ⟨rfl, hm6, hk6⟩
  have hb6 := below_kept hb3 hk6 hS
  clear hm hb3 hk6
  go_wp2_with fail
  refine (mCas2Yes hm6 4094 0 0 1 1 (by decide) (by decide) rfl rfl (fun _ _ => rfl)).mono ?_
  rintro e w7 ⟨rfl, hm7, hk7⟩
  have hb7 := below_kept hb6 hk7 hS
  clear hm6 hb6 hk7
  go_wp2_with fail
  refine (mStore hm7 0 18446744073709551615 (by decide) (by decide) (fun _ _ => rfl)).mono ?_
  rintro e w8 ⟨rfl, hm8, hk8⟩
  have hb8 := below_kept hb7 hk8 hS
  clear hm7 hb7 hk8
  go_wp2_with fail
  refine (mAdd hm8 0 2 (by decide) (by decide) (x := 18446744073709551615) rfl (fun _ _ => rfl)).mono ?_
  rintro e w9 ⟨rfl, hm9, hk9⟩
  have hb9 := below_kept hb8 hk9 hS
  clear hm8 hb8 hk9
  go_wp2_with fail
  refine (mLoad hm9 0 (by decide) (by decide) (x := 1) rfl).mono ?_
  rintro e w10 ⟨rfl, hm10, hk10⟩
  have hb10 := below_kept hb9 hk10 hS
  obtain ⟨G, hm11⟩ : ∃ G, MemAt w10 a b k 4096 G 4 := ⟨_, hm10⟩
  clear hm9 hb9 hk10 hm10
  go_wp2
  go_loopw [19, 20] (fun x y wr => ∃ i : Nat, i ≤ 2 ∧ y = .int .i64 i ∧ NoMem wr x ∧ MemAt wr a b k 4096 G 4 ∧ Below W.heap.size W wr) (fun x y _ => 2 - (intOf y).toNat)
  case atStart => exact ⟨0, by omega, rfl, .inl rfl, hm11, hb10⟩
  case round =>
    obtain ⟨i, hi, rfl, hN, hm, hb⟩ := hrel
    by_cases hlt : i < 2
    · go_wp2_with fail
      refine (nLoad hN _).mono ?_
      rintro e w11 ⟨rfl, rfl⟩
      go_wp2_with fail
      refine (nStore hN _ _).mono ?_
      rintro e w11 ⟨rfl, rfl⟩
      go_wp2_with fail
      refine (nCas hN _ _ _).mono ?_
      rintro e w11 ⟨rfl, rfl⟩
      go_wp2_with fail
      refine (nCas2 hN _ _ _ _ _).mono ?_
      rintro e w12 ⟨rfl, hb12⟩
      have hN := hN.below hb12
      have hm := hm.below hb12
      have hb := below_then hb hb12
      clear hb12
      go_wp2_with fail
      refine (nAdd hN _ _).mono ?_
      rintro e w13 ⟨rfl, rfl⟩
      go_wp2_with fail
      refine (nLen hN).mono ?_
      rintro e w13 ⟨rfl, rfl⟩
      go_wp2_with fail
      refine (nWords hN).mono ?_
      rintro e w13 ⟨rfl, rfl⟩
      go_wp2_with fail
      refine (nCount hN).mono ?_
      rintro e w13 ⟨rfl, rfl⟩
      go_wp2
      go_roundw
      case rel => exact ⟨i + 1, by omega, by go_num, nomem_new _ _ _, hm.alloc _, below_one hb _⟩
      case measure => simp [intOf]; omega
    · obtain rfl : i = 2 := by omega
      clear hN
      go_wp2_with fail
      refine (works _).mono ?_
      rintro e w12 ⟨rfl, hb12⟩
      have hm := hm.below hb12
      have hb := below_then hb hb12
      clear hb12
      go_wp2_with fail
      refine (cLen hm).mono ?_
      rintro e w13 ⟨rfl, rfl⟩
      go_wp2
      go_ret
      exact ⟨rfl, hb⟩
end Go.Proofs.Ytkcogdojohlpcaa
