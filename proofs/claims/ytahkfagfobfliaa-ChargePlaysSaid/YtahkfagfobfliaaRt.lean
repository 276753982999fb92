/-
  The document's counters in a world; group, asked, Used, Limits, New.
-/
import Derived.Test.YtahkfagfobfliaaOps
import Derived.Test.YtahkfagfobfliaaPath
import Derived.BigQuiet
set_option linter.unusedVariables false
set_option linter.unusedSimpArgs false
namespace Go.Proofs.Ytahkfagfobfliaa
open Go Go.RowKit

def bad0 (l : List Int) (n : Int) : Prop := l.length < 1 ∨ 8 < l.length ∨ n < 0 ∨ 9007199254740991 < n
instance (l : List Int) (n : Int) : Decidable (bad0 l n) := by unfold bad0; infer_instance
/-- which error the document's answer gives -/
def askR (l : List Int) (n : Int) : Int := if outB l then 110 else if decide (bad0 l n) || dupTo l l.length then 2 else 0
theorem mem_take_more (l : List Int) {i : Nat} (hi : i < l.length) (x : Int) : x ∈ l.take (i + 1) ↔ x ∈ l.take i ∨ pk l i = x := by
  rw [List.take_succ_eq_append_getElem hi, pk_at l i hi, List.mem_append, List.mem_singleton]
  constructor
  · rintro (h | h)
    · exact .inl h
    · exact .inr h.symm
  · rintro (h | h)
    · exact .inl h
    · exact .inr h.symm
theorem askR_one (g n : Int) : askR [g] n = askE g n := by
  have h1 : outB [g] = !decide (isG g) := by simp [outB, pk]
  have h2 : dupTo [g] 1 = false := by simp [dupTo, pk]
  unfold askR
  rw [h1, show [g].length = 1 from rfl, h2, Bool.or_false]
  unfold askE bad0
  by_cases hg : isG g
  · by_cases hn : isN n
    · simp [hg, hn]
      unfold isN at hn
      omega
    · simp [hg, hn]
      unfold isN at hn
      omega
  · simp [hg]
theorem askR_zero {l : List Int} {n : Int} (h : askR l n = 0) : IsPath l ∧ isN n := by
  unfold askR at h
  cases ho : outB l with
  | true => rw [ho] at h; simp at h
  | false =>
    rw [ho] at h
    cases hb : (decide (bad0 l n) || dupTo l l.length) with
    | true => rw [hb] at h; simp at h
    | false =>
      rw [Bool.or_eq_false_iff] at hb
      have h1 : ¬ bad0 l n := of_decide_eq_false hb.1
      unfold bad0 at h1
      refine ⟨⟨by omega, by omega, fun i hi => ?_, dupTo_no hb.2⟩, by unfold isN; omega⟩
      exact Decidable.byContradiction fun e => by rw [outB_yes hi e] at ho; cases ho
def refF (t : Ct) (i : Nat) : Value := .int .i64 (if i < 17 then t.us i else t.mo (i - 17))
def RV (w : World) (R : Nat) (t : Ct) : Prop := RowG w R 51 34 (refF t)
section
variable {S : Nat → Prop} {w w' : World} {R : Nat} {t t' : Ct} {x n e : Int} {Ts : List TypeId}
theorem RV.cu (h : RV w R t) {k : Nat} (hk : k < 17) : w.cell? ⟨R, k, none⟩ = some (.int .i64 (t.us k)) := by
  rw [RowG.cell h (show k < 34 by omega), refF, if_pos hk]
theorem RV.cm (h : RV w R t) {k : Nat} (hk : k < 17) : w.cell? ⟨R, 17 + k, none⟩ = some (.int .i64 (t.mo k)) := by
  rw [RowG.cell h (show 17 + k < 34 by omega), refF, if_neg (by omega), show 17 + k - 17 = k by omega]
theorem RV.fr (h : RV w R t) (i : Nat) : w.frozen? ⟨R, i, none⟩ = false := RowG.frozen h i
theorem RV.setU (h : RV w R t) {k : Nat} (hk : k < 17) (v : Int) : RV (w.setCell ⟨R, k, none⟩ (.int .i64 v)) R (t.set k v) := by
  refine RowG.set h k (by omega) _ fun j hj => ?_
  unfold refF Ct.set
  dsimp only
  by_cases e : j = k
  · subst e; rw [if_pos rfl, if_pos hk, if_pos rfl]
  · rw [if_neg e]
    by_cases e2 : j < 17
    · rw [if_pos e2, if_pos e2, if_neg e]
    · rw [if_neg e2, if_neg e2]
theorem RV.setM (h : RV w R t) {k : Nat} (hk : k < 17) (v : Int) : RV (w.setCell ⟨R, 17 + k, none⟩ (.int .i64 v)) R (t.lim k v) := by
  refine RowG.set h (17 + k) (by omega) _ fun j hj => ?_
  unfold refF Ct.lim
  dsimp only
  by_cases e : j = 17 + k
  · subst e; rw [if_pos rfl, if_neg (by omega), if_pos (by omega)]
  · rw [if_neg e]
    by_cases e2 : j < 17
    · rw [if_pos e2, if_pos e2]
    · rw [if_neg e2, if_neg e2, if_neg (by omega)]
theorem RV.kept (h : RV w R t) (hk : Kept S w w') (hS : ∀ k, S k → Typ w Ts k) (hT : 51 ∉ Ts) : RV w' R t := RowG.kept2 h hk hS hT
theorem RV.below (h : RV w R t) (hb : Below w.heap.size w w') : RV w' R t := RowG.kept h (S := fun _ => False) (Kept.ofBelow hb) (fun e => e)
theorem RV.typ (h : RV w R t) : ∀ k, k = R → Typ w [51] k := by
  rintro k rfl
  exact RowG.typ h (by simp)
set_option maxHeartbeats 1000000 in
theorem rIsG (x : Int) (q : Bool) (hq : decide (isG x) = q) (w : World) : Calls Try.prog 33 #[.int .i64 x] w fun e w' => e = .returned (.bool q) ∧ w' = w := by
  have HQ := Lib.hid hq
  clear hq
  by_cases h1 : 1 ≤ x
  · by_cases h2 : x ≤ 16
    · have HY : Hid (true = q) := Lib.hid (by rw [← HQ.out]; exact (decide_eq_true ⟨h1, h2⟩).symm)
      clear HQ
      go_enter Try.func33, Try.ntmps33
      go_wp2
      go_ret
      exact ⟨ret_bool (by simpa using HY.out), rfl⟩
    · have HY : Hid (false = q) := Lib.hid (by rw [← HQ.out]; exact (decide_eq_false (fun e => h2 e.2)).symm)
      clear HQ
      go_enter Try.func33, Try.ntmps33
      go_wp2
      go_ret
      exact ⟨ret_bool (by simpa [h2] using HY.out), rfl⟩
  · have HY : Hid (false = q) := Lib.hid (by rw [← HQ.out]; exact (decide_eq_false (fun e => h1 e.1)).symm)
    clear HQ
    go_enter Try.func33, Try.ntmps33
    go_wp2
    go_ret
    exact ⟨ret_bool HY.out, rfl⟩
set_option maxHeartbeats 8000000 in
set_option maxRecDepth 100000 in
theorem rAsked (u : Value) (l : List Int) (n q : Int) (hq : askR l n = q) (w : World) (hu : ShowI w u l) :
    Calls Try.prog 37 #[u, .int .i64 n] w fun e w' => e = .returned (.int .i64 q) ∧ Below w.heap.size w w' := by
  have HU := Lib.hid hu
  obtain ⟨ao, cap, rfl, hcap, hat⟩ := hu.form
  clear hu
  have HQ := Lib.hid hq
  clear hq
  go_enter Try.func37, Try.ntmps37
  go_wp2
  go_loopw [5] (fun i wr => ∃ k : Nat, k ≤ l.length ∧ i = .int .i64 k ∧ Hid (∀ i, i < k → isG (pk l i)) ∧ wr = w) (fun i _ => l.length - (intOf i).toNat)
  case atStart => exact ⟨0, by omega, rfl, Lib.hid (fun i hi => by omega), rfl⟩
  case round =>
    obtain ⟨k, hk, rfl, HG, hwr⟩ := hrel
    have hwr2 := hwr.symm
    subst hwr2
    by_cases hlt : k < l.length
    · obtain ⟨b1, o1, rfl, c1⟩ := hat k hlt
      by_cases hg : isG (pk l k)
      · have HD := Lib.hid (decide_eq_true hg)
        have HG2 : Hid (∀ i, i < k + 1 → isG (pk l i)) := Lib.hid (fun i hi => by
          by_cases e : i = k
          · rw [e]; exact hg
          · exact HG.out i (by omega))
        clear hg
        generalize pk l k = y at c1 HD
        go_wp2_with (go_at_call 33; refine (rIsG y _ HD.out _).mono ?_; rintro e w1 ⟨rfl, rfl⟩)
        go_roundw
        case rel => exact ⟨k + 1, by omega, by go_num, HG2, by first | rfl | trivial⟩
        case measure => simp [intOf]; omega
      · have HD := Lib.hid (decide_eq_false hg)
        have HY : Hid (110 = q) := Lib.hid (by rw [← HQ.out]; unfold askR; rw [outB_yes hlt hg]; rfl)
        clear hg
        generalize pk l k = y at c1 HD
        go_wp2_with (go_at_call 33; refine (rIsG y _ HD.out _).mono ?_; rintro e w1 ⟨rfl, rfl⟩)
        go_ret
        exact ⟨ret_int HY.out, Below.refl _ _⟩
    · obtain rfl : k = l.length := by omega
      have HQ2 : Hid ((if decide (bad0 l n) || dupTo l l.length then (2 : Int) else 0) = q) := Lib.hid (by
        have := HQ.out
        unfold askR at this
        rwa [outB_no HG.out] at this)
      clear HQ HG hlt hk
      obtain ⟨B0, hB0⟩ : ∃ B0, decide (bad0 l n) = B0 := ⟨_, rfl⟩
      rw [hB0] at HQ2
      have hways : ((l.length < 1) ∧ B0 = true) ∨ (¬ l.length < 1 ∧ 8 < l.length ∧ B0 = true) ∨ (¬ l.length < 1 ∧ ¬ 8 < l.length ∧ n < 0 ∧ B0 = true) ∨ (¬ l.length < 1 ∧ ¬ 8 < l.length ∧ ¬ n < 0 ∧ 9007199254740991 < n ∧ B0 = true) ∨ (¬ l.length < 1 ∧ ¬ 8 < l.length ∧ ¬ n < 0 ∧ ¬ 9007199254740991 < n ∧ B0 = false) := by
        rw [← hB0]
        by_cases a1 : l.length < 1
        · exact .inl ⟨a1, decide_eq_true (.inl a1)⟩
        by_cases a2 : 8 < l.length
        · exact .inr (.inl ⟨a1, a2, decide_eq_true (.inr (.inl a2))⟩)
        by_cases a3 : n < 0
        · exact .inr (.inr (.inl ⟨a1, a2, a3, decide_eq_true (.inr (.inr (.inl a3)))⟩))
        by_cases a4 : 9007199254740991 < n
        · exact .inr (.inr (.inr (.inl ⟨a1, a2, a3, a4, decide_eq_true (.inr (.inr (.inr a4)))⟩)))
        · exact .inr (.inr (.inr (.inr ⟨a1, a2, a3, a4, decide_eq_false (by unfold bad0; omega)⟩)))
      clear hB0
      have HAT := Lib.hid hat
      clear hat
      rcases hways with ⟨a1, hB⟩ | ⟨a1, a2, hB⟩ | ⟨a1, a2, a3, hB⟩ | ⟨a1, a2, a3, a4, hB⟩ | ⟨a1, a2, a3, a4, hB⟩
      all_goals
        have e1 : (l.length : Int) < 1 ↔ l.length < 1 := by omega
        have e2 : (8 : Int) < (l.length : Int) ↔ 8 < l.length := by omega
        simp only [← e1, ← e2] at *
        have HB := Lib.hid hB
        clear hB e1 e2
        go_wp2
        go_loopw [6, 7] (fun bv i wx => ∃ k : Nat, k ≤ l.length ∧ i = .int .i64 k ∧ bv = .bool (B0 || dupTo l k) ∧ Hid (Below w.heap.size w wx)) (fun _ i _ => l.length - (intOf i).toNat)
        case atStart => exact ⟨0, by omega, rfl, by rw [HB.out]; rfl, Lib.hid (Below.refl _ _)⟩
        case round =>
          obtain ⟨k, hk, rfl, rfl, HW⟩ := hrel
          by_cases hlt : k < l.length
          · have HDN := Lib.hid (dupTo_next l k)
            obtain ⟨D, hD⟩ : ∃ D, (B0 || dupTo l k) = D := ⟨_, rfl⟩
            have HD := Lib.hid hD
            rw [hD]
            clear hD
            go_wp2
            go_loopw [6, 8] (fun bv j wx => ∃ m : Nat, m ≤ k ∧ j = .int .i64 m ∧ bv = .bool (D || decide (pk l k ∈ l.take m)) ∧ Hid (Below w.heap.size w wx)) (fun _ j _ => k - (intOf j).toNat)
            case atStart => exact ⟨0, by omega, rfl, by simp, HW⟩
            case round =>
              clear HW
              obtain ⟨m, hm, rfl, rfl, HW⟩ := hrel
              by_cases hmk : m < k
              · obtain ⟨b1, o1, rfl, q1⟩ := HAT.out m (by omega)
                obtain ⟨b2, o2, eb, q2⟩ := HAT.out k hlt
                cases eb
                have c1 := cell_keep HW.out q1
                have c2 := cell_keep HW.out q2
                have HMT := Lib.hid (mem_take_more l (show m < l.length by omega) (pk l k))
                obtain ⟨C, hC⟩ : ∃ C, (D || decide (pk l k ∈ l.take m)) = C := ⟨_, rfl⟩
                have HC := Lib.hid hC
                rw [hC]
                clear hC q1 q2
                have hkl : (k : Int) < (l.length : Int) := by omega
                have hml : (m : Int) < (l.length : Int) := by omega
                cases C with
                | true =>
                  have HY : Hid ((D || decide (pk l k ∈ l.take (m + 1))) = true) := Lib.hid (by
                    have h9 := HC.out
                    rw [Bool.or_eq_true] at h9 ⊢
                    rcases h9 with h9 | h9
                    · exact .inl h9
                    · exact .inr (decide_eq_true (HMT.out.2 (.inl (of_decide_eq_true h9)))))
                  go_wp2
                  go_quiet (fail)
                  go_wp2
                  go_roundw
                  case rel => exact ⟨m + 1, by omega, by go_num, by rw [HY.out], Lib.hid (below_drewN HW.out _)⟩
                  case measure => simp [intOf]; omega
                | false =>
                  have HN : Hid (D = false ∧ pk l k ∉ l.take m) := Lib.hid (by
                    have h9 := HC.out
                    rw [Bool.or_eq_false_iff] at h9
                    exact ⟨h9.1, of_decide_eq_false h9.2⟩)
                  by_cases heq : pk l m = pk l k
                  · have HY : Hid ((D || decide (pk l k ∈ l.take (m + 1))) = true) := Lib.hid (by rw [decide_eq_true (HMT.out.2 (.inr heq)), Bool.or_true])
                    have hq : (pk l m == pk l k) = true := by simp [heq]
                    generalize pk l m = y1 at c1 hq
                    generalize pk l k = y2 at c2 hq HY
                    clear heq HMT HC HN
                    go_wp2
                    go_quiet (fail)
                    go_wp2
                    go_roundw
                    case rel => exact ⟨m + 1, by omega, by go_num, by rw [HY.out], Lib.hid (below_drewN HW.out _)⟩
                    case measure => simp [intOf]; omega
                  · have HY : Hid ((D || decide (pk l k ∈ l.take (m + 1))) = false) := Lib.hid (by rw [HN.out.1, Bool.false_or]; exact decide_eq_false (fun h9 => (HMT.out.1 h9).elim HN.out.2 heq))
                    have hq : (pk l m == pk l k) = false := by simp [heq]
                    generalize pk l m = y1 at c1 hq
                    generalize pk l k = y2 at c2 hq HY
                    clear heq HMT HC HN
                    go_wp2
                    go_quiet (fail)
                    go_wp2
                    go_roundw
                    case rel => exact ⟨m + 1, by omega, by go_num, by rw [HY.out], Lib.hid (below_drewN HW.out _)⟩
                    case measure => simp [intOf]; omega
              · obtain rfl : m = k := by omega
                have HY : Hid ((D || decide (pk l m ∈ l.take m)) = (B0 || dupTo l (m + 1))) := Lib.hid (by rw [HDN.out, ← HD.out, Bool.or_assoc])
                rw [HY.out]
                clear HY HDN
                go_wp2
                go_roundw
                case rel => exact ⟨m + 1, by omega, by go_num, rfl, HW⟩
                case measure => simp [intOf]; omega
          · obtain rfl : k = l.length := by omega
            obtain ⟨C, hC⟩ : ∃ C, (B0 || dupTo l l.length) = C := ⟨_, rfl⟩
            rw [hC] at HQ2 ⊢
            clear hC
            cases C with
            | true =>
              have HY : Hid (2 = q) := Lib.hid (by simpa using HQ2.out)
              go_wp2
              go_ret
              exact ⟨ret_int HY.out, HW.out⟩
            | false =>
              have HY : Hid (0 = q) := Lib.hid (by simpa using HQ2.out)
              go_wp2
              go_ret
              exact ⟨ret_int HY.out, HW.out⟩
end
end Go.Proofs.Ytahkfagfobfliaa
