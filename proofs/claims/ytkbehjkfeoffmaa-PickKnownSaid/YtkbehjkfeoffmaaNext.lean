/-
  Next, of the program and of the document's answer: one function of what runs.
-/
import Derived.Test.YtkbehjkfeoffmaaMem
set_option linter.unusedVariables false
set_option linter.unusedSimpArgs false
namespace Go.Proofs.Ytkbehjkfeoffmaa
open Go Go.RowKit

/-- the first of f 0, f 1 .. that p -/
def firstOf (f : Nat → Nat) (p : Nat → Bool) : Nat → Option Nat
  | 0 => none
  | k + 1 => match firstOf f p k with
    | some c => some c
    | none => if p (f k) = true then some (f k) else none
theorem firstOf_none {f : Nat → Nat} {p : Nat → Bool} {k : Nat} (h : ∀ j, j < k → p (f j) = false) : firstOf f p k = none := by
  induction k with
  | zero => rfl
  | succ k ih => simp [firstOf, ih (fun j hj => h j (by omega)), h k (by omega)]
theorem firstOf_more {f : Nat → Nat} {p : Nat → Bool} {k c : Nat} (h : firstOf f p k = some c) (i : Nat) : firstOf f p (k + i) = some c := by
  induction i with
  | zero => exact h
  | succ i ih => rw [← Nat.add_assoc]; simp [firstOf, ih]
theorem firstOf_hit {f : Nat → Nat} {p : Nat → Bool} {k n : Nat} (hk : k < n) (h : ∀ j, j < k → p (f j) = false) (h1 : p (f k) = true) : firstOf f p n = some (f k) := by
  have h2 : firstOf f p (k + 1) = some (f k) := by simp [firstOf, firstOf_none h, h1]
  have := firstOf_more h2 (n - (k + 1))
  rwa [show k + 1 + (n - (k + 1)) = n by omega] at this
/-- where Next begins -/
def startN (n : Nat) (last : Int) : Nat := if 0 ≤ last ∧ last < n then last.toNat + 1 else 0
def nextF (l : List Bool) (last : Int) : Option Nat := firstOf (fun j => (startN l.length last + j) % l.length) (run l) l.length
/-- none of the first k runs -/
def Seen (l : List Bool) (s k : Nat) : Prop := ∀ j, j < k → run l ((s + j) % l.length) = false
theorem Seen.zero (l : List Bool) (s : Nat) : Seen l s 0 := fun j h => by omega
theorem Seen.more {l : List Bool} {s k c : Nat} (h : Seen l s k) (hc : (s + k) % l.length = c) (h1 : run l c = false) : Seen l s (k + 1) := by
  intro j hj
  by_cases e : j = k
  · subst e; rw [hc]; exact h1
  · exact h j (by omega)
theorem next_hit {l : List Bool} {last : Int} {s k c : Nat} (hs : startN l.length last = s) (hk : k < l.length) (h : Seen l s k) (hc : (s + k) % l.length = c) (h1 : run l c = true) : nextF l last = some c := by
  subst hc
  unfold nextF
  rw [hs]
  exact firstOf_hit (f := fun j => (s + j) % l.length) hk h h1
theorem next_none {l : List Bool} {last : Int} {s : Nat} (hs : startN l.length last = s) (h : Seen l s l.length) : nextF l last = none := by
  unfold nextF
  rw [hs]
  exact firstOf_none (f := fun j => (s + j) % l.length) h
set_option maxHeartbeats 4000000 in
set_option maxRecDepth 100000 in
theorem cNextA (u : Value) (l : List Bool) (last : Int) (s : Nat) (hl : last < 0) (hsl : s ≤ l.length) (hst : startN l.length last = s) (w : World) (hs : ShowB w u l) :
    Calls Try.prog 11 #[u, .int .i64 last] w fun e w' => e = .returned (pairOf (nextF l last)) ∧ Below w.heap.size w w' := by
  obtain ⟨ao, cap, rfl, hcap, hat⟩ := hs.form
  clear hs
  have hsx : s = 0 := by rw [← hst]; unfold startN; rw [if_neg (by omega)]
  subst hsx
  have HST := Lib.hid hst
  clear hst
  have i0 : ∀ w, (Instr.index 41 (.agg #[.int .i64 0, .int .i64 l.length, .int .i64 0, .int .i64 0]) (.int .i64 0)).run Try.prog w = .ok (.agg #[.int .i64 0, .int .i64 l.length]) w := fun _ => by kernel_rfl
  have i1 : ∀ w, (Instr.index 41 (.agg #[.int .i64 0, .int .i64 l.length, .int .i64 0, .int .i64 0]) (.int .i64 1)).run Try.prog w = .ok (.agg #[.int .i64 0, .int .i64 0]) w := fun _ => by kernel_rfl
  go_enter Try.func11, Try.ntmps11
  go_wp2
  go_step3
  go_wp2
  go_step3
  go_wp2
  go_loopw [4, 5, 26] (fun a b x wr => a = .int .i64 0 ∧ b = .bool false ∧ ∃ i : Nat, i ≤ 2 ∧ x = .int .i64 i ∧ Hid (Seen l 0 (if i = 0 then 0 else if i = 1 then l.length - 0 else l.length)) ∧ Below w.heap.size w wr) (fun a b x _ => 2 - (intOf x).toNat)
  case atStart => exact ⟨rfl, rfl, 0, by omega, rfl, Lib.hid (Seen.zero l 0), Below.refl _ _⟩
  case round =>
    obtain ⟨rfl, rfl, i, hi, rfl, HS, hb⟩ := hrel
    by_cases h0 : i = 0
    · subst h0
      go_wp2
      have hb1 : Below w.heap.size w (wr.alloc (.cells #[.int .i64 0, .int .i64 l.length] 40)) := below_one hb _
      go_loopw [4, 5, 8] (fun a b x wx => a = .int .i64 0 ∧ b = .bool false ∧ wx = wr.alloc (.cells #[.int .i64 0, .int .i64 l.length] 40) ∧ ∃ a : Nat, 0 ≤ a ∧ a ≤ l.length ∧ x = .int .i64 a ∧ Hid (Seen l 0 (a - 0))) (fun a b x _ => l.length - (intOf x).toNat)
      case atStart => exact ⟨rfl, rfl, by first | trivial | rfl, 0, by omega, by omega, by first | rfl | go_num, Lib.hid (by rw [Nat.sub_self]; exact Seen.zero l 0)⟩
      case round =>
        obtain ⟨rfl, rfl, rfl, a, ha, hal, rfl, HS1⟩ := hrel
        by_cases hlt : a < l.length
        · obtain ⟨b1, o1, rfl, c1⟩ := hat a hlt
          have d1 := (hb1.cell (p := ⟨b1, o1 + a, none⟩) (World.block_lt_of_cell? w _ c1)).trans c1
          have HM : Hid (run l a = false → Seen l 0 (a + 1 - 0)) := Lib.hid (fun h => by
            rw [show a + 1 - 0 = (a - 0) + 1 by omega]
            exact HS1.out.more (by rw [show 0 + (a - 0) = a by omega, Nat.mod_eq_of_lt hlt]) h)
          have HH : Hid (run l a = true → nextF l last = some a) := Lib.hid (fun h => next_hit HST.out (k := a - 0) (by omega) HS1.out (by rw [show 0 + (a - 0) = a by omega, Nat.mod_eq_of_lt hlt]) h)
          generalize run l a = q at d1 HM HH
          clear c1 HS1 HS
          cases q
          · have HM1 := Lib.hid (HM.out rfl)
            clear HM HH
            go_wp2
            go_roundw
            case rel => exact ⟨rfl, rfl, by first | trivial | rfl, a + 1, by omega, by omega, by go_num, HM1⟩
            case measure => simp [intOf]; omega
          · have HH1 := Lib.hid (HH.out rfl)
            clear HM HH
            go_wp2
            try rw [Exit.noGoto_ret]
            go_ret2
            exact ⟨(ret_pair HH1.out).symm, hb1⟩
        · obtain rfl : a = l.length := by omega
          go_wp2
          go_roundw
          case rel => first | exact ⟨rfl, rfl, 1, by omega, by go_num, Lib.hid (by simpa using HS1.out), hb1⟩ | exact ⟨_, rfl, rfl, 1, by omega, by go_num, Lib.hid (by simpa using HS1.out), hb1⟩
          case measure => simp [intOf]
    · by_cases h1 : i = 1
      · subst h1
        have HS2 : Hid (Seen l 0 (l.length - 0)) := Lib.hid (by simpa using HS.out)
        clear HS h0
        go_wp2
        have hb1 : Below w.heap.size w (wr.alloc (.cells #[.int .i64 0, .int .i64 0] 40)) := below_one hb _
        go_loopw [4, 5, 8] (fun a b x wx => a = .int .i64 0 ∧ b = .bool false ∧ wx = wr.alloc (.cells #[.int .i64 0, .int .i64 0] 40) ∧ ∃ a : Nat, a ≤ 0 ∧ x = .int .i64 a ∧ Hid (Seen l 0 (l.length - 0 + a))) (fun a b x _ => 0 - (intOf x).toNat)
        case atStart => exact ⟨rfl, rfl, by first | trivial | rfl, 0, by omega, rfl, HS2⟩
        case round =>
          obtain ⟨rfl, rfl, rfl, a, ha, rfl, HS1⟩ := hrel
          by_cases hlt : a < 0
          · exact absurd hlt (by omega)
          · obtain rfl : a = 0 := by omega
            have HE : Hid (Seen l 0 l.length) := Lib.hid (by have := HS1.out; rwa [show l.length - 0 + 0 = l.length by omega] at this)
            clear HS1 HS2
            go_wp2
            go_roundw
            case rel => exact ⟨rfl, rfl, 2, by omega, by go_num, Lib.hid (by simpa using HE.out), hb1⟩
            case measure => simp [intOf]
      · obtain rfl : i = 2 := by omega
        have HN : Hid (nextF l last = none) := Lib.hid (next_none HST.out (by simpa using HS.out))
        clear HS
        go_wp2
        try rw [Exit.noGoto_ret]
        go_ret2
        exact ⟨(ret_pair HN.out).symm, hb⟩
set_option maxHeartbeats 4000000 in
set_option maxRecDepth 100000 in
theorem cNextB (u : Value) (l : List Bool) (last : Int) (s : Nat) (hl0 : 0 ≤ last) (hl : (l.length : Int) ≤ last) (hsl : s ≤ l.length) (hst : startN l.length last = s) (w : World) (hs : ShowB w u l) :
    Calls Try.prog 11 #[u, .int .i64 last] w fun e w' => e = .returned (pairOf (nextF l last)) ∧ Below w.heap.size w w' := by
  obtain ⟨ao, cap, rfl, hcap, hat⟩ := hs.form
  clear hs
  have hsx : s = 0 := by rw [← hst]; unfold startN; rw [if_neg (by omega)]
  subst hsx
  have HST := Lib.hid hst
  clear hst
  have i0 : ∀ w, (Instr.index 41 (.agg #[.int .i64 0, .int .i64 l.length, .int .i64 0, .int .i64 0]) (.int .i64 0)).run Try.prog w = .ok (.agg #[.int .i64 0, .int .i64 l.length]) w := fun _ => by kernel_rfl
  have i1 : ∀ w, (Instr.index 41 (.agg #[.int .i64 0, .int .i64 l.length, .int .i64 0, .int .i64 0]) (.int .i64 1)).run Try.prog w = .ok (.agg #[.int .i64 0, .int .i64 0]) w := fun _ => by kernel_rfl
  go_enter Try.func11, Try.ntmps11
  go_wp2
  go_step3
  go_wp2
  go_step3
  go_wp2
  go_loopw [4, 5, 26] (fun a b x wr => a = .int .i64 0 ∧ b = .bool false ∧ ∃ i : Nat, i ≤ 2 ∧ x = .int .i64 i ∧ Hid (Seen l 0 (if i = 0 then 0 else if i = 1 then l.length - 0 else l.length)) ∧ Below w.heap.size w wr) (fun a b x _ => 2 - (intOf x).toNat)
  case atStart => exact ⟨rfl, rfl, 0, by omega, rfl, Lib.hid (Seen.zero l 0), Below.refl _ _⟩
  case round =>
    obtain ⟨rfl, rfl, i, hi, rfl, HS, hb⟩ := hrel
    by_cases h0 : i = 0
    · subst h0
      go_wp2
      have hb1 : Below w.heap.size w (wr.alloc (.cells #[.int .i64 0, .int .i64 l.length] 40)) := below_one hb _
      go_loopw [4, 5, 8] (fun a b x wx => a = .int .i64 0 ∧ b = .bool false ∧ wx = wr.alloc (.cells #[.int .i64 0, .int .i64 l.length] 40) ∧ ∃ a : Nat, 0 ≤ a ∧ a ≤ l.length ∧ x = .int .i64 a ∧ Hid (Seen l 0 (a - 0))) (fun a b x _ => l.length - (intOf x).toNat)
      case atStart => exact ⟨rfl, rfl, by first | trivial | rfl, 0, by omega, by omega, by first | rfl | go_num, Lib.hid (by rw [Nat.sub_self]; exact Seen.zero l 0)⟩
      case round =>
        obtain ⟨rfl, rfl, rfl, a, ha, hal, rfl, HS1⟩ := hrel
        by_cases hlt : a < l.length
        · obtain ⟨b1, o1, rfl, c1⟩ := hat a hlt
          have d1 := (hb1.cell (p := ⟨b1, o1 + a, none⟩) (World.block_lt_of_cell? w _ c1)).trans c1
          have HM : Hid (run l a = false → Seen l 0 (a + 1 - 0)) := Lib.hid (fun h => by
            rw [show a + 1 - 0 = (a - 0) + 1 by omega]
            exact HS1.out.more (by rw [show 0 + (a - 0) = a by omega, Nat.mod_eq_of_lt hlt]) h)
          have HH : Hid (run l a = true → nextF l last = some a) := Lib.hid (fun h => next_hit HST.out (k := a - 0) (by omega) HS1.out (by rw [show 0 + (a - 0) = a by omega, Nat.mod_eq_of_lt hlt]) h)
          generalize run l a = q at d1 HM HH
          clear c1 HS1 HS
          cases q
          · have HM1 := Lib.hid (HM.out rfl)
            clear HM HH
            go_wp2
            go_roundw
            case rel => exact ⟨rfl, rfl, by first | trivial | rfl, a + 1, by omega, by omega, by go_num, HM1⟩
            case measure => simp [intOf]; omega
          · have HH1 := Lib.hid (HH.out rfl)
            clear HM HH
            go_wp2
            try rw [Exit.noGoto_ret]
            go_ret2
            exact ⟨(ret_pair HH1.out).symm, hb1⟩
        · obtain rfl : a = l.length := by omega
          go_wp2
          go_roundw
          case rel => first | exact ⟨rfl, rfl, 1, by omega, by go_num, Lib.hid (by simpa using HS1.out), hb1⟩ | exact ⟨_, rfl, rfl, 1, by omega, by go_num, Lib.hid (by simpa using HS1.out), hb1⟩
          case measure => simp [intOf]
    · by_cases h1 : i = 1
      · subst h1
        have HS2 : Hid (Seen l 0 (l.length - 0)) := Lib.hid (by simpa using HS.out)
        clear HS h0
        go_wp2
        have hb1 : Below w.heap.size w (wr.alloc (.cells #[.int .i64 0, .int .i64 0] 40)) := below_one hb _
        go_loopw [4, 5, 8] (fun a b x wx => a = .int .i64 0 ∧ b = .bool false ∧ wx = wr.alloc (.cells #[.int .i64 0, .int .i64 0] 40) ∧ ∃ a : Nat, a ≤ 0 ∧ x = .int .i64 a ∧ Hid (Seen l 0 (l.length - 0 + a))) (fun a b x _ => 0 - (intOf x).toNat)
        case atStart => exact ⟨rfl, rfl, by first | trivial | rfl, 0, by omega, rfl, HS2⟩
        case round =>
          obtain ⟨rfl, rfl, rfl, a, ha, rfl, HS1⟩ := hrel
          by_cases hlt : a < 0
          · exact absurd hlt (by omega)
          · obtain rfl : a = 0 := by omega
            have HE : Hid (Seen l 0 l.length) := Lib.hid (by have := HS1.out; rwa [show l.length - 0 + 0 = l.length by omega] at this)
            clear HS1 HS2
            go_wp2
            go_roundw
            case rel => exact ⟨rfl, rfl, 2, by omega, by go_num, Lib.hid (by simpa using HE.out), hb1⟩
            case measure => simp [intOf]
      · obtain rfl : i = 2 := by omega
        have HN : Hid (nextF l last = none) := Lib.hid (next_none HST.out (by simpa using HS.out))
        clear HS
        go_wp2
        try rw [Exit.noGoto_ret]
        go_ret2
        exact ⟨(ret_pair HN.out).symm, hb⟩
set_option maxHeartbeats 4000000 in
set_option maxRecDepth 100000 in
theorem cNextC (u : Value) (l : List Bool) (t : Nat) (s : Nat) (hl : t < l.length) (hsl : s ≤ l.length) (hst : startN l.length (t : Int) = s) (w : World) (hs : ShowB w u l) :
    Calls Try.prog 11 #[u, .int .i64 (t : Int)] w fun e w' => e = .returned (pairOf (nextF l (t : Int))) ∧ Below w.heap.size w w' := by
  obtain ⟨ao, cap, rfl, hcap, hat⟩ := hs.form
  clear hs
  have hsx : s = t + 1 := by rw [← hst]; unfold startN; rw [if_pos (by omega)]; simp
  have hnl : ¬ l.length ≤ t := by omega
  have hnt : ¬ (t : Int) < 0 := by omega
  subst hsx
  have HST := Lib.hid hst
  clear hst
  have i0 : ∀ w, (Instr.index 41 (.agg #[.int .i64 ((t : Int) + 1), .int .i64 l.length, .int .i64 0, .int .i64 ((t : Int) + 1)]) (.int .i64 0)).run Try.prog w = .ok (.agg #[.int .i64 ((t : Int) + 1), .int .i64 l.length]) w := fun _ => by kernel_rfl
  have i1 : ∀ w, (Instr.index 41 (.agg #[.int .i64 ((t : Int) + 1), .int .i64 l.length, .int .i64 0, .int .i64 ((t : Int) + 1)]) (.int .i64 1)).run Try.prog w = .ok (.agg #[.int .i64 0, .int .i64 ((t : Int) + 1)]) w := fun _ => by kernel_rfl
  go_enter Try.func11, Try.ntmps11
  go_wp2
  go_step3
  go_wp2
  go_step3
  go_wp2
  go_loopw [4, 5, 26] (fun a b x wr => a = .int .i64 0 ∧ b = .bool false ∧ ∃ i : Nat, i ≤ 2 ∧ x = .int .i64 i ∧ Hid (Seen l (t + 1) (if i = 0 then 0 else if i = 1 then l.length - (t + 1) else l.length)) ∧ Below w.heap.size w wr) (fun a b x _ => 2 - (intOf x).toNat)
  case atStart => exact ⟨rfl, rfl, 0, by omega, rfl, Lib.hid (Seen.zero l (t + 1)), Below.refl _ _⟩
  case round =>
    obtain ⟨rfl, rfl, i, hi, rfl, HS, hb⟩ := hrel
    by_cases h0 : i = 0
    · subst h0
      go_wp2
      have hb1 : Below w.heap.size w (wr.alloc (.cells #[.int .i64 ((t : Int) + 1), .int .i64 l.length] 40)) := below_one hb _
      go_loopw [4, 5, 8] (fun a b x wx => a = .int .i64 0 ∧ b = .bool false ∧ wx = wr.alloc (.cells #[.int .i64 ((t : Int) + 1), .int .i64 l.length] 40) ∧ ∃ a : Nat, (t + 1) ≤ a ∧ a ≤ l.length ∧ x = .int .i64 a ∧ Hid (Seen l (t + 1) (a - (t + 1)))) (fun a b x _ => l.length - (intOf x).toNat)
      case atStart => exact ⟨rfl, rfl, by first | trivial | rfl, (t + 1), by omega, by omega, by first | rfl | go_num, Lib.hid (by rw [Nat.sub_self]; exact Seen.zero l (t + 1))⟩
      case round =>
        obtain ⟨rfl, rfl, rfl, a, ha, hal, rfl, HS1⟩ := hrel
        by_cases hlt : a < l.length
        · obtain ⟨b1, o1, rfl, c1⟩ := hat a hlt
          have d1 := (hb1.cell (p := ⟨b1, o1 + a, none⟩) (World.block_lt_of_cell? w _ c1)).trans c1
          have HM : Hid (run l a = false → Seen l (t + 1) (a + 1 - (t + 1))) := Lib.hid (fun h => by
            rw [show a + 1 - (t + 1) = (a - (t + 1)) + 1 by omega]
            exact HS1.out.more (by rw [show (t + 1) + (a - (t + 1)) = a by omega, Nat.mod_eq_of_lt hlt]) h)
          have HH : Hid (run l a = true → nextF l (t : Int) = some a) := Lib.hid (fun h => next_hit HST.out (k := a - (t + 1)) (by omega) HS1.out (by rw [show (t + 1) + (a - (t + 1)) = a by omega, Nat.mod_eq_of_lt hlt]) h)
          generalize run l a = q at d1 HM HH
          clear c1 HS1 HS
          cases q
          · have HM1 := Lib.hid (HM.out rfl)
            clear HM HH
            go_wp2
            go_roundw
            case rel => exact ⟨rfl, rfl, by first | trivial | rfl, a + 1, by omega, by omega, by go_num, HM1⟩
            case measure => simp [intOf]; omega
          · have HH1 := Lib.hid (HH.out rfl)
            clear HM HH
            go_wp2
            try rw [Exit.noGoto_ret]
            go_ret2
            exact ⟨(ret_pair HH1.out).symm, hb1⟩
        · obtain rfl : a = l.length := by omega
          go_wp2
          go_roundw
          case rel => first | exact ⟨rfl, rfl, 1, by omega, by go_num, Lib.hid (by simpa using HS1.out), hb1⟩ | exact ⟨_, rfl, rfl, 1, by omega, by go_num, Lib.hid (by simpa using HS1.out), hb1⟩
          case measure => simp [intOf]
    · by_cases h1 : i = 1
      · subst h1
        have HS2 : Hid (Seen l (t + 1) (l.length - (t + 1))) := Lib.hid (by simpa using HS.out)
        clear HS h0
        go_wp2
        have hb1 : Below w.heap.size w (wr.alloc (.cells #[.int .i64 0, .int .i64 ((t : Int) + 1)] 40)) := below_one hb _
        go_loopw [4, 5, 8] (fun a b x wx => a = .int .i64 0 ∧ b = .bool false ∧ wx = wr.alloc (.cells #[.int .i64 0, .int .i64 ((t : Int) + 1)] 40) ∧ ∃ a : Nat, a ≤ (t + 1) ∧ x = .int .i64 a ∧ Hid (Seen l (t + 1) (l.length - (t + 1) + a))) (fun a b x _ => (t + 1) - (intOf x).toNat)
        case atStart => exact ⟨rfl, rfl, by first | trivial | rfl, 0, by omega, rfl, HS2⟩
        case round =>
          obtain ⟨rfl, rfl, rfl, a, ha, rfl, HS1⟩ := hrel
          by_cases hlt : a < (t + 1)
          · have hal : a < l.length := by omega
            obtain ⟨b1, o1, rfl, c1⟩ := hat a hal
            have d1 := (hb1.cell (p := ⟨b1, o1 + a, none⟩) (World.block_lt_of_cell? w _ c1)).trans c1
            have he : ((t + 1) + (l.length - (t + 1) + a)) % l.length = a := by
              rw [show (t + 1) + (l.length - (t + 1) + a) = a + l.length by omega, Nat.add_mod_right, Nat.mod_eq_of_lt hal]
            have HM : Hid (run l a = false → Seen l (t + 1) (l.length - (t + 1) + (a + 1))) := Lib.hid (fun h => HS1.out.more he h)
            have HH : Hid (run l a = true → nextF l (t : Int) = some a) := Lib.hid (fun h => next_hit HST.out (by omega) HS1.out he h)
            generalize run l a = q at d1 HM HH
            clear c1 HS1 HS2 he
            cases q
            · have HM1 := Lib.hid (HM.out rfl)
              clear HM HH
              go_wp2
              go_roundw
              case rel => exact ⟨rfl, rfl, by first | trivial | rfl, a + 1, by omega, by go_num, HM1⟩
              case measure => simp [intOf]; omega
            · have HH1 := Lib.hid (HH.out rfl)
              clear HM HH
              go_wp2
              try rw [Exit.noGoto_ret]
              go_ret2
              exact ⟨(ret_pair HH1.out).symm, hb1⟩
          · obtain rfl : a = (t + 1) := by omega
            have HE : Hid (Seen l (t + 1) l.length) := Lib.hid (by have := HS1.out; rwa [show l.length - (t + 1) + (t + 1) = l.length by omega] at this)
            clear HS1 HS2
            go_wp2
            go_roundw
            case rel => exact ⟨rfl, rfl, 2, by omega, by go_num, Lib.hid (by simpa using HE.out), hb1⟩
            case measure => simp [intOf]
      · obtain rfl : i = 2 := by omega
        have HN : Hid (nextF l (t : Int) = none) := Lib.hid (next_none HST.out (by simpa using HS.out))
        clear HS
        go_wp2
        try rw [Exit.noGoto_ret]
        go_ret2
        exact ⟨(ret_pair HN.out).symm, hb⟩
theorem startN_le (n : Nat) (last : Int) : startN n last ≤ n := by
  unfold startN
  split <;> omega
theorem cNext (u : Value) (l : List Bool) (last : Int) (w : World) (hs : ShowB w u l) :
    Calls Try.prog 11 #[u, .int .i64 last] w fun e w' => e = .returned (pairOf (nextF l last)) ∧ Below w.heap.size w w' := by
  by_cases h : last < 0
  · exact cNextA u l last _ h (startN_le _ _) rfl w hs
  · by_cases h1 : (l.length : Int) ≤ last
    · exact cNextB u l last _ (by omega) h1 (startN_le _ _) rfl w hs
    · obtain ⟨t, rfl⟩ : ∃ t : Nat, last = t := ⟨last.toNat, by omega⟩
      exact cNextC u l t _ (by omega) (startN_le _ _) rfl w hs
end Go.Proofs.Ytkbehjkfeoffmaa
