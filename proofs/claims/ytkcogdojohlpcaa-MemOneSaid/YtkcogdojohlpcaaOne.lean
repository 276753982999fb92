/-
  MemOne: of those who would turn a word at once, the first one has its way.
-/
import Derived.Test.YtkcogdojohlpcaaWorks
set_option linter.unusedVariables false
set_option linter.unusedSimpArgs false
namespace Go.Proofs.Ytkcogdojohlpcaa
open Go Go.RowKit

section
variable {w : World} {a b k c : Nat} {F : Nat → Int}
theorem casTry (h : MemAt w a b k 2 F c) (v to : Int) (q : Bool) (hq : decide (F 0 = v) = q) (hto : to ≠ v) (hc : c ≤ 1000000) :
    Calls Try.prog 23 #[.pointer (some ⟨a, 0, none⟩), .int .i64 0, .int .u64 v, .int .u64 to] w fun e w' => e = .returned (.tuple #[.bool q, .int .i64 0]) ∧ (∃ G, MemAt w' a b k 2 G (c + 1) ∧ G 0 ≠ v) ∧ Kept (fun x => x = a ∨ x = b) w w' := by
  by_cases h0 : F 0 = v
  · obtain rfl : true = q := by rw [← hq, decide_eq_true h0]
    refine (mCasYes h 0 v to (by decide) hc h0 (fun _ _ => rfl)).mono ?_
    rintro e w' ⟨he, hm, hk⟩
    exact ⟨he, ⟨_, hm, by simpa using hto⟩, hk⟩
  · obtain rfl : false = q := by rw [← hq, decide_eq_false h0]
    refine (mCasNo h 0 v to (by decide) hc h0).mono ?_
    rintro e w' ⟨he, hm, hk⟩
    exact ⟨he, ⟨_, hm, h0⟩, hk⟩
theorem cas2Try (h : MemAt w a b k 2 F c) (v to : Int) (q : Bool) (hq : decide (F 0 = v) = q) (hto : to ≠ v) (hc : c ≤ 1000000) (h1 : F 0 = v → F 1 = 0) :
    Calls Try.prog 22 #[.pointer (some ⟨a, 0, none⟩), .int .i64 0, .int .u64 v, .int .u64 0, .int .u64 to, .int .u64 1] w fun e w' => e = .returned (.tuple #[.bool q, .int .i64 0]) ∧ (∃ G, MemAt w' a b k 2 G (c + 1) ∧ G 0 ≠ v) ∧ Kept (fun x => x = a ∨ x = b) w w' := by
  by_cases h0 : F 0 = v
  · obtain rfl : true = q := by rw [← hq, decide_eq_true h0]
    refine (mCas2Yes h 0 v 0 to 1 (by decide) hc h0 (h1 h0) (fun _ _ => rfl)).mono ?_
    rintro e w' ⟨he, hm, hk⟩
    exact ⟨he, ⟨_, hm, by simpa using hto⟩, hk⟩
  · obtain rfl : false = q := by rw [← hq, decide_eq_false h0]
    refine (cCas2No h 0 v 0 to 1 (by decide) hc (fun h => h0 h.1)).mono ?_
    rintro e w' ⟨he, hm, hk⟩
    exact ⟨he, ⟨_, hm, h0⟩, hk⟩
end
theorem wrap_ne (v : Int) : IntKind.u64.wrap (v + 1) ≠ v := by
  intro h
  have h2 : (v + 1) % 18446744073709551616 = v := h
  omega
set_option maxHeartbeats 8000000 in
set_option maxRecDepth 100000 in
theorem walkOne (v : Int) (u : Value) (l : List Int) (tw : Bool) (W : World) (hs : ShowU W u l) :
    Calls Try.prog 5 #[.int .u64 v, u, .bool tw] W fun e w' => e = .returned (.bool true) ∧ Below W.heap.size W w' := by
  obtain ⟨ao, cap, rfl, hcap, hat⟩ := hs.form
  clear hs
  go_enter Try.func5, Try.ntmps5
  go_wp2_with fail
  refine (cNew 2 _ (by decide) (by decide)).mono ?_
  rintro e w1 ⟨a, b, kk, rfl, hm, hb, ha, hbb, hkk⟩
  have hS := ab_ge ha hbb
  go_wp2_with fail
  refine (mStore (hm.congr two_start) 0 v (by decide) (by decide) (two_0 _ _ _)).mono ?_
  rintro e w2 ⟨rfl, hm2, hk2⟩
  have hb2 := below_kept hb hk2 hS
  clear hm hb hk2
  go_wp2
  go_loopw [9, 10] (fun x y wr => ∃ k m : Nat, k ≤ l.length ∧ k ≤ 40 ∧ x = .int .i64 m ∧ y = .int .i64 k ∧ (k = 0 → m = 0) ∧ (0 < k → m = 1) ∧ (∃ F, MemAt wr a b kk 2 F (1 + k) ∧ (F 0 = v ↔ k = 0) ∧ (k = 0 → F 1 = 0)) ∧ Below W.heap.size W wr) (fun x y _ => l.length - (intOf y).toNat)
  case atStart => exact ⟨0, 0, by omega, by omega, rfl, rfl, fun _ => rfl, by omega, ⟨_, hm2, by simp [two], by simp [two]⟩, hb2⟩
  case round =>
    obtain ⟨k, m, hk, hk40, rfl, rfl, hm0, hm1, ⟨F, hm, hF, hF1⟩, hb⟩ := hrel
    have HF := Lib.hid hF
    have HF1 := Lib.hid hF1
    clear hF hF1
    by_cases hlt : k < l.length ∧ k < 40
    · obtain ⟨hlt, h40⟩ := hlt
      obtain ⟨b1, o1, rfl, c1⟩ := hat k hlt
      have d1 := (hb.cell (p := ⟨b1, o1 + k, none⟩) (World.block_lt_of_cell? W _ c1)).trans c1
      clear c1
      generalize l[k] = x at d1
      by_cases hk0 : k = 0
      · obtain rfl := hk0
        obtain rfl := hm0 rfl
        rw [Nat.add_zero] at d1
        have HQ : Hid (decide (F 0 = v) = true) := Lib.hid (decide_eq_true (HF.out.2 rfl))
        clear hm0 hm1
        by_cases hx : v = x
        · subst hx
          cases tw
          · go_wp2_with fail
            refine (casTry hm v (IntKind.u64.wrap (v + 1)) true HQ.out (wrap_ne v) (by omega)).mono ?_
            rintro e w1 ⟨rfl, ⟨G, hmG, hG⟩, hk1⟩
            have hb1 := below_kept hb hk1 hS
            have HG := Lib.hid hG
            clear hG hm hb
            go_wp2
            go_roundw
            case rel => exact ⟨0 + 1, 1, by omega, by omega, by go_num, by go_num, by omega, fun _ => rfl, ⟨G, by simpa only [Nat.zero_add, Nat.add_zero] using hmG, ⟨fun h => absurd h HG.out, fun h => by omega⟩, by omega⟩, hb1⟩
            case measure => simp [intOf]; omega
          · go_wp2_with fail
            refine (cas2Try hm v (IntKind.u64.wrap (v + 1)) true HQ.out (wrap_ne v) (by omega) (fun _ => HF1.out (by trivial))).mono ?_
            rintro e w1 ⟨rfl, ⟨G, hmG, hG⟩, hk1⟩
            have hb1 := below_kept hb hk1 hS
            have HG := Lib.hid hG
            clear hG hm hb
            go_wp2
            go_roundw
            case rel => exact ⟨0 + 1, 1, by omega, by omega, by go_num, by go_num, by omega, fun _ => rfl, ⟨G, by simpa only [Nat.zero_add, Nat.add_zero] using hmG, ⟨fun h => absurd h HG.out, fun h => by omega⟩, by omega⟩, hb1⟩
            case measure => simp [intOf]; omega
        · have HX : Hid (x ≠ v) := Lib.hid (fun h => hx h.symm)
          have hne : (x == v) = false := by simpa using (fun h => hx h.symm)
          clear hx
          cases tw
          · go_wp2_with fail
            refine (casTry hm v x true HQ.out HX.out (by omega)).mono ?_
            rintro e w1 ⟨rfl, ⟨G, hmG, hG⟩, hk1⟩
            have hb1 := below_kept hb hk1 hS
            have HG := Lib.hid hG
            clear hG hm hb
            go_wp2
            go_roundw
            case rel => exact ⟨0 + 1, 1, by omega, by omega, by go_num, by go_num, by omega, fun _ => rfl, ⟨G, by simpa only [Nat.zero_add, Nat.add_zero] using hmG, ⟨fun h => absurd h HG.out, fun h => by omega⟩, by omega⟩, hb1⟩
            case measure => simp [intOf]; omega
          · go_wp2_with fail
            refine (cas2Try hm v x true HQ.out HX.out (by omega) (fun _ => HF1.out (by trivial))).mono ?_
            rintro e w1 ⟨rfl, ⟨G, hmG, hG⟩, hk1⟩
            have hb1 := below_kept hb hk1 hS
            have HG := Lib.hid hG
            clear hG hm hb
            go_wp2
            go_roundw
            case rel => exact ⟨0 + 1, 1, by omega, by omega, by go_num, by go_num, by omega, fun _ => rfl, ⟨G, by simpa only [Nat.zero_add, Nat.add_zero] using hmG, ⟨fun h => absurd h HG.out, fun h => by omega⟩, by omega⟩, hb1⟩
            case measure => simp [intOf]; omega
      · obtain rfl := hm1 (by omega)
        have HQ : Hid (decide (F 0 = v) = false) := Lib.hid (decide_eq_false (fun h => hk0 (HF.out.1 h)))
        clear hm0 hm1
        by_cases hx : v = x
        · subst hx
          cases tw
          · go_wp2_with fail
            refine (casTry hm v (IntKind.u64.wrap (v + 1)) false HQ.out (wrap_ne v) (by omega)).mono ?_
            rintro e w1 ⟨rfl, ⟨G, hmG, hG⟩, hk1⟩
            have hb1 := below_kept hb hk1 hS
            have HG := Lib.hid hG
            clear hG hm hb
            go_wp2
            go_roundw
            case rel => exact ⟨k + 1, 1, by omega, by omega, by go_num, by go_num, by omega, fun _ => rfl, ⟨G, by simpa only [Nat.add_assoc] using hmG, ⟨fun h => absurd h HG.out, fun h => by omega⟩, by omega⟩, hb1⟩
            case measure => simp [intOf]; omega
          · go_wp2_with fail
            refine (cas2Try hm v (IntKind.u64.wrap (v + 1)) false HQ.out (wrap_ne v) (by omega) (fun h => absurd h (of_decide_eq_false HQ.out))).mono ?_
            rintro e w1 ⟨rfl, ⟨G, hmG, hG⟩, hk1⟩
            have hb1 := below_kept hb hk1 hS
            have HG := Lib.hid hG
            clear hG hm hb
            go_wp2
            go_roundw
            case rel => exact ⟨k + 1, 1, by omega, by omega, by go_num, by go_num, by omega, fun _ => rfl, ⟨G, by simpa only [Nat.add_assoc] using hmG, ⟨fun h => absurd h HG.out, fun h => by omega⟩, by omega⟩, hb1⟩
            case measure => simp [intOf]; omega
        · have HX : Hid (x ≠ v) := Lib.hid (fun h => hx h.symm)
          have hne : (x == v) = false := by simpa using (fun h => hx h.symm)
          clear hx
          cases tw
          · go_wp2_with fail
            refine (casTry hm v x false HQ.out HX.out (by omega)).mono ?_
            rintro e w1 ⟨rfl, ⟨G, hmG, hG⟩, hk1⟩
            have hb1 := below_kept hb hk1 hS
            have HG := Lib.hid hG
            clear hG hm hb
            go_wp2
            go_roundw
            case rel => exact ⟨k + 1, 1, by omega, by omega, by go_num, by go_num, by omega, fun _ => rfl, ⟨G, by simpa only [Nat.add_assoc] using hmG, ⟨fun h => absurd h HG.out, fun h => by omega⟩, by omega⟩, hb1⟩
            case measure => simp [intOf]; omega
          · go_wp2_with fail
            refine (cas2Try hm v x false HQ.out HX.out (by omega) (fun h => absurd h (of_decide_eq_false HQ.out))).mono ?_
            rintro e w1 ⟨rfl, ⟨G, hmG, hG⟩, hk1⟩
            have hb1 := below_kept hb hk1 hS
            have HG := Lib.hid hG
            clear hG hm hb
            go_wp2
            go_roundw
            case rel => exact ⟨k + 1, 1, by omega, by omega, by go_num, by go_num, by omega, fun _ => rfl, ⟨G, by simpa only [Nat.add_assoc] using hmG, ⟨fun h => absurd h HG.out, fun h => by omega⟩, by omega⟩, hb1⟩
            case measure => simp [intOf]; omega
    · by_cases hl0 : l.length = 0
      · obtain rfl : k = 0 := by omega
        obtain rfl := hm0 rfl
        clear hm0 hm1 hlt
        have HL := Lib.hid hl0
        rw [hl0]
        go_wp2_with fail
        refine (works _).mono ?_
        rintro e w1 ⟨rfl, hb1⟩
        go_wp2
        go_ret
        exact ⟨rfl, below_then hb hb1⟩
      · obtain rfl := hm1 (by omega)
        clear hm0 hm1
        have hl1 : 1 ≤ l.length := by omega
        by_cases hkl : k = l.length
        · by_cases hl2 : l.length = 1
          · obtain rfl : k = 1 := by omega
            clear hlt hkl hl1 hl0 hcap hat hk
            rw [hl2]
            clear hl2
            go_wp2_with fail
            refine (works _).mono ?_
            rintro e w1 ⟨rfl, hb1⟩
            go_wp2
            go_ret
            exact ⟨rfl, below_then hb hb1⟩
          · have hl3 : 1 < l.length := by omega
            clear hl0 hl1 hl2
            subst hkl
            go_wp2_with fail
            refine (works _).mono ?_
            rintro e w1 ⟨rfl, hb1⟩
            go_wp2
            go_ret
            exact ⟨rfl, below_then hb hb1⟩
        · obtain rfl : k = 40 := by omega
          have hl40 : 40 < l.length := by omega
          go_wp2_with fail
          refine (works _).mono ?_
          rintro e w1 ⟨rfl, hb1⟩
          go_wp2
          go_ret
          exact ⟨rfl, below_then hb hb1⟩
end Go.Proofs.Ytkcogdojohlpcaa
