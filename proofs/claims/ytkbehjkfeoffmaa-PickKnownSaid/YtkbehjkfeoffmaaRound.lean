/-
  PickRound: who is told by Next, each time behind the one told ahead, is fair.
-/
import Derived.Test.YtkbehjkfeoffmaaWin
import Derived.Test.YtkbehjkfeoffmaaRPick
import Derived.Test.YtkbehjkfeoffmaaWorks
set_option linter.unusedVariables false
set_option linter.unusedSimpArgs false
namespace Go.Proofs.Ytkbehjkfeoffmaa
open Go Go.RowKit

theorem makeB (n : Nat) (hn : n ≤ 10000) : ∃ O : Obj, (∀ w : World, (Instr.makeSlice 22 (.int .i64 (n : Int)) (.int .i64 (n : Int))).run Try.prog w = .ok (.slice (some ⟨w.heap.size, 0, none⟩) n n) (w.alloc O)) ∧ ∀ w : World, (w.alloc O).rowIs w.heap.size 4 n (fun _ => .bool false) :=
  ⟨_, fun w => run_make_row' (P := Try.prog) 22 4 (.bool false) 1 Try.underlying22 (by kernel_rfl) rfl .i64 .i64 n (by omega) (by omega) w, fun w => World.rowIs_made w _ n _⟩
theorem run_all (C c : Nat) (h : c < C) : run (List.replicate C true) c = true := by simp [run, h]
theorem next_all (C : Nat) (la : Int) (q : Nat) (h1 : 1 ≤ C) (hq : startN C la % C = q) : pairOf (nextF (List.replicate C true) la) = .tuple #[.int .i64 q, .bool true] := by
  have hl : q < C := by rw [← hq]; exact Nat.mod_lt _ (by omega)
  have : nextF (List.replicate C true) la = some q := next_hit (s := startN C la) (k := 0) (by rw [List.length_replicate]) (by rw [List.length_replicate]; omega) (Seen.zero _ _) (by rw [List.length_replicate, Nat.add_zero]; exact hq) (run_all C q hl)
  rw [this]
  rfl
theorem start_next (C p k : Nat) (h1 : 1 ≤ C) : startN C (((p + k) % C : Nat) : Int) % C = (p + (k + 1)) % C := by
  have h := Nat.mod_lt (p + k) (show 0 < C by omega)
  unfold startN
  rw [if_pos (by omega)]
  simp only [Int.toNat_natCast]
  rw [Nat.mod_add_mod, Nat.add_assoc]
theorem grown_of_below {B : Nat} {w w' : World} {row : Option Nat} (h : Below B w w') (hB : w.heap.size ≤ B) : w.grownBy w' row := ⟨h.os, h.tape, h.output, h.size, fun k hk _ => h.block k (by omega)⟩
theorem own_below {W W' : World} {B n size : Nat} {e : TypeId} {v : Value} {xs : List Value} (h : W.ownsRow B e size v n xs) (hb : Below W.heap.size W W') : W'.ownsRow B e size v n xs := by
  refine h.kept (grown_of_below (row := none) hb (Nat.le_refl _)) ?_
  cases hv : v.ownBlock with
  | none => exact .inl rfl
  | some k => exact .inr (by simp)
set_option maxHeartbeats 8000000 in
set_option maxRecDepth 100000 in
theorem walkRound (x from_ many : Int) (W : World) :
    Calls Try.prog 6 #[.int .i64 x, .int .i64 from_, .int .i64 many] W fun e W' => e = .returned (.bool true) ∧ Below W.heap.size W W' := by
  have hb8 := bring_lt x 8 (by decide)
  obtain ⟨C, hC⟩ : ∃ C : Nat, 1 + (bring x 8 : Int) = (C : Int) := ⟨1 + bring x 8, by omega⟩
  have hC1 : 1 ≤ C := by omega
  have hC8 : C ≤ 8 := by omega
  have hM := bring_lt many 60 (by decide)
  obtain ⟨M, hMM⟩ : ∃ M, bring many 60 = M := ⟨_, rfl⟩
  have HM : Hid (bring many 60 = M) := Lib.hid hMM
  rw [hMM] at hM
  clear hMM
  obtain ⟨B, hB⟩ : ∃ B, bring x 8 = B := ⟨_, rfl⟩
  have HB : Hid (bring x 8 = B) := Lib.hid hB
  rw [hB] at hC hb8
  clear hB
  obtain ⟨p, hp⟩ : ∃ p, startN C from_ % C = p := ⟨_, rfl⟩
  have hpC : p < C := by rw [← hp]; exact Nat.mod_lt _ (by omega)
  have HP : Hid (startN C from_ % C = (p + 0) % C) := Lib.hid (by rw [hp, Nat.add_zero, Nat.mod_eq_of_lt hpC])
  clear hp
  obtain ⟨O, hO, hr⟩ := makeB C (by omega)
  have HR := Lib.hid hr
  obtain ⟨i0, hi_, hz0, hz1_, hz2⟩ := info_parts infoI
  clear hr
  go_enter Try.func6, Try.ntmps6
  go_wp2_with fail
  refine (works _).mono ?_
  rintro e w1 ⟨rfl, hb1⟩
  go_wp2_with fail
  refine (cBring x 8 _ (by decide) (by decide)).mono ?_
  rintro e w1' ⟨rfl, rfl⟩
  rw [HB.out]
  go_wp2
  clear hC hb8 HB hO
  have hrow0 : (w1'.alloc O).rowIs w1'.heap.size 4 C (fun j => .bool (decide (j < 0))) := (HR.out w1').congr (fun j hj => by simp)
  have hbA := below_one hb1 O
  have hz := hb1.size
  clear hb1
  generalize w1'.heap.size = g at *
  generalize w1'.alloc O = w2 at *
  go_loopw [8] (fun a wr => ∃ k : Nat, k ≤ C ∧ a = .int .i64 k ∧ wr.rowIs g 4 C (fun j => .bool (decide (j < k))) ∧ Below W.heap.size W wr) (fun a _ => C - (intOf a).toNat)
  case atStart => exact ⟨0, by omega, rfl, hrow0, hbA⟩
  case round =>
    clear hrow0 hbA
    obtain ⟨k, hk, rfl, hrow, hb⟩ := hrel
    by_cases hlt : k < C
    · have d1 := hrow.cell hlt
      have d2 := hrow.frozen k
      have HROW := Lib.hid hrow
      clear hrow
      go_wp2
      go_roundw
      case rel => exact ⟨k + 1, by omega, by go_num, (HROW.out.set k _).congr (fun j hj => by
        by_cases e : j = k
        · subst e; simp
        · simp [e]; omega), hb.setCell (p := ⟨g, k, none⟩) hz _⟩
      case measure => simp [intOf]; omega
    · obtain rfl : k = C := by omega
      have hshow : ShowB wr (.slice (some ⟨g, 0, none⟩) k k) (List.replicate k true) := row_b (hrow.congr (fun j hj => by rw [run_all k j hj, decide_eq_true hj])) (by simp) (by omega)
      have HSH := Lib.hid hshow
      obtain ⟨w3, hw3⟩ : ∃ w3, wr = w3 := ⟨_, rfl⟩
      have HZ := hb.size
      have HBW := Lib.hid hb
      subst hw3
      clear hrow hshow hb hlt hk
      go_wp2
      go_loopw [9, 10, 11] (fun v a b wq => ∃ (i : Nat) (la : Int), i ≤ M ∧ b = .int .i64 i ∧ a = .int .i64 la ∧ Hid (startN k la % k = (p + i) % k) ∧ wq.ownsRow wr.heap.size 3 1 v i (nms (turns k p i)) ∧ Below wr.heap.size wr wq) (fun v a b _ => M - (intOf b).toNat)
      case atStart => exact ⟨0, from_, by omega, rfl, rfl, HP, World.ownsRow_nil _ _ _ _, Below.refl _ _⟩
      case round =>
        obtain ⟨i, la, hi, rfl, rfl, HQ, hown, hbq⟩ := hrel
        by_cases hlt : i < M
        · obtain ⟨q, hq⟩ : ∃ q, (p + i) % k = q := ⟨_, rfl⟩
          have hqk : q < k := by rw [← hq]; exact Nat.mod_lt _ (by omega)
          have hnx := vNext _ (List.replicate k true) la _ (next_all k la q hC1 (HQ.out.trans hq)) _ (HSH.out.below hbq)
          have HQ2 : Hid (startN k (q : Int) % k = (p + (i + 1)) % k) := Lib.hid (by rw [← hq]; exact start_next k p i hC1)
          have HT : Hid (turns k p (i + 1) = turns k p i ++ [(q : Int)]) := Lib.hid (by rw [turns_succ, hq])
          have hz1 := hbq.size
          clear hq HQ
          go_wp2_with fail
          refine (cBring many 60 _ (by decide) (by decide)).mono ?_
          rintro e _ ⟨rfl, rfl⟩
          rw [HM.out]
          go_wp2_with fail
          refine hnx.mono ?_
          rintro e w5 ⟨rfl, hb5⟩
          have hown5 := own_below hown hb5
          have hbq5 := below_then hbq hb5
          have hz5 := hbq5.size
          clear hnx hown hbq hb5
          obtain ⟨xs, hxs⟩ : ∃ xs, nms (turns k p i) = xs := ⟨_, rfl⟩
          rw [hxs] at hown5
          have HXS := Lib.hid hxs
          clear hxs
          go_wp2_with (at_builtin; refine wpList_append_own _ (by rfl) _ _ 27 (by rfl) _ 3 i0 (.int .i64 0) 1 8 Try.underlying27 hi_ hz0 hz1_ hz2 (by rfl) (by decide) _ i xs (by rfl) (hown5.alloc _) ⟨w5.heap.size, 0, none⟩ 1 1 [.int .i64 (q : Int)] (by rfl) (by rfl) (cell_one_new _ _ _) (by intro u hu; simp at hu; subst hu; rfl) (by unfold maxLen; omega) (by omega) (by rw [size_alloc]; omega) ?_)
          intro v' w6 hown6 hg6 _
          have hb6 := (below_one hbq5 _).grown hg6 (by rw [size_alloc]; omega) (own_ge hown5)
          go_wp2
          go_roundw
          case rel => exact ⟨i + 1, q, by omega, by go_num, rfl, HQ2, by rw [HT.out]; simpa [nms, ← HXS.out] using hown6, hb6⟩
          case measure => simp [intOf]; omega
        · obtain rfl : i = M := by omega
          have hsI := own_i hown
          have hll : (turns k p i).length = i := turns_length k p i
          have HF := Lib.hid (turns_fair k p i hC1 hC8)
          have hcall := vFair _ (turns k p i) k k true HF.out _ hsI
          have HNF : Hid (2 ≤ k → k ≤ i → fairF (turns k p i) k ((k : Int) - 1) = false) := Lib.hid (fun h1 h2 => turns_tight k p i h1 hC8 h2)
          have HSI := Lib.hid hsI
          have hbF := below_then HBW.out hbq
          rcases own_form hown with ⟨rfl, h0⟩ | ⟨gg, cp, rfl, hcp, _⟩
          · subst h0
            clear hown hsI hll
            go_wp2_with fail
            refine (cBring many 60 _ (by decide) (by decide)).mono ?_
            rintro e _ ⟨rfl, rfl⟩
            rw [HM.out]
            go_wp2_with fail
            refine hcall.mono ?_
            rintro e w5 ⟨rfl, hb5⟩
            go_wp2
            go_ret
            exact ⟨rfl, below_then hbF hb5⟩
          · clear hown hsI hll
            by_cases hik : i < k
            · go_wp2_with fail
              refine (cBring many 60 _ (by decide) (by decide)).mono ?_
              rintro e _ ⟨rfl, rfl⟩
              rw [HM.out]
              go_wp2_with fail
              refine hcall.mono ?_
              rintro e w5 ⟨rfl, hb5⟩
              go_wp2
              go_ret
              exact ⟨rfl, below_then hbF hb5⟩
            · have hki : k ≤ i := by omega
              by_cases hk2 : k < 2
              · go_wp2_with fail
                refine (cBring many 60 _ (by decide) (by decide)).mono ?_
                rintro e _ ⟨rfl, rfl⟩
                rw [HM.out]
                go_wp2_with fail
                refine hcall.mono ?_
                rintro e w5 ⟨rfl, hb5⟩
                go_wp2
                go_ret
                exact ⟨rfl, below_then hbF hb5⟩
              · have hk2' : 2 ≤ k := by omega
                go_wp2_with fail
                refine (cBring many 60 _ (by decide) (by decide)).mono ?_
                rintro e _ ⟨rfl, rfl⟩
                rw [HM.out]
                go_wp2_with fail
                refine hcall.mono ?_
                rintro e w5 ⟨rfl, hb5⟩
                have hcall2 := vFair _ (turns k p i) k ((k : Int) - 1) false (HNF.out hk2' hki) _ (HSI.out.below hb5)
                go_wp2_with fail
                refine hcall2.mono ?_
                rintro e w6 ⟨rfl, hb6⟩
                go_wp2
                go_ret
                exact ⟨rfl, below_then (below_then hbF hb5) hb6⟩
end Go.Proofs.Ytkbehjkfeoffmaa
