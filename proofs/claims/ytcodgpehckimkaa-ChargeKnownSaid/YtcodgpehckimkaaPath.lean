/-
  pathError, checkPath of the program.
-/
import Derived.Test.YtcodgpehckimkaaCv
set_option linter.unusedVariables false
set_option linter.unusedSimpArgs false
namespace Go.Proofs.Ytcodgpehckimkaa
open Go Go.RowKit

/-- the first m of them -/
theorem ShowI.first {w : World} {ao : Option Addr} {cap m : Nat} {l : List Int} (h : ShowI w (.slice ao l.length cap) l) (hm : m ≤ l.length) : ShowI w (.slice ao m cap) (l.take m) := by
  have e : nms (l.take m) = (nms l).take m := List.map_take
  unfold ShowI
  rw [List.length_take, Nat.min_eq_left hm, e]
  obtain ⟨hl, ao', cap', hv, hc, hs⟩ := h
  cases hv
  refine ⟨by rw [List.length_take]; simp; omega, ao, cap, rfl, by omega, fun hn => ?_⟩
  obtain ⟨b, o, ha, hx⟩ := hs (by omega)
  refine ⟨b, o, ha, fun j hj => ?_⟩
  rw [hx j (by omega), List.getElem?_take, if_pos (by omega)]
def goE : List Int → List Int → Int
  | _, [] => 0
  | s, x :: r => if ¬ isG x then 110 else if x ∈ s then 2 else goE (s ++ [x]) r
def pathE (l : List Int) : Int := if l.length = 0 ∨ 8 < l.length then 2 else goE [] l
def askP (l : List Int) (n : Int) : Int := if pathE l ≠ 0 then pathE l else if ¬ isN n then 2 else 0
theorem goE_step (l : List Int) {k : Nat} (hk : k < l.length) : goE (l.take k) (l.drop k) = if ¬ isG (pk l k) then 110 else if pk l k ∈ l.take k then 2 else goE (l.take (k + 1)) (l.drop (k + 1)) := by
  rw [List.drop_eq_getElem_cons hk, goE, pk_at l k hk, List.take_succ_eq_append_getElem hk, pk_at l k hk]
theorem goE_zero (l : List Int) : ∀ m k, m + k = l.length → goE (l.take k) (l.drop k) = 0 → ∀ i, k ≤ i → i < l.length → isG (pk l i) ∧ pk l i ∉ l.take i := by
  intro m
  induction m with
  | zero => intro k hk _ i h1 h2; omega
  | succ m ih =>
    intro k hk h0 i h1 h2
    rw [goE_step l (by omega)] at h0
    by_cases hg : isG (pk l k)
    · rw [if_neg (by simpa using hg)] at h0
      by_cases hm : pk l k ∈ l.take k
      · rw [if_pos hm] at h0; omega
      · rw [if_neg hm] at h0
        by_cases e : i = k
        · subst e; exact ⟨hg, hm⟩
        · exact ih (k + 1) (by omega) h0 i (by omega) h2
    · rw [if_pos hg] at h0; omega
theorem askP_zero {l : List Int} {n : Int} (h : askP l n = 0) : IsPath l ∧ isN n := by
  unfold askP at h
  by_cases h1 : pathE l = 0
  · rw [if_neg (by simpa using h1)] at h
    have hn : isN n := Decidable.byContradiction fun e => by rw [if_pos e] at h; omega
    refine ⟨?_, hn⟩
    unfold pathE at h1
    by_cases h2 : l.length = 0 ∨ 8 < l.length
    · rw [if_pos h2] at h1; omega
    · rw [if_neg h2] at h1
      have h3 := goE_zero l l.length 0 (by omega) (by simpa using h1)
      exact ⟨by omega, by omega, fun i hi => (h3 i (by omega) hi).1, fun i hi => (h3 i (by omega) hi).2⟩
  · rw [if_pos h1] at h; exact absurd h h1
section
variable {w w' : World} {B g : Nat} {t t' : Ct} {p : Option Addr} {x n e : Int}
set_option maxHeartbeats 2000000 in
set_option maxRecDepth 100000 in
theorem cPathError (u : Value) (l : List Int) (q : Int) (hq : pathE l = q) (w : World) (hu : ShowI w u l) :
    Calls Try.prog 32 #[u] w fun e w' => e = .returned (.int .i64 q) ∧ w' = w := by
  have HU := Lib.hid hu
  obtain ⟨ao, cap, rfl, hcap, hat⟩ := hu.form
  clear hu
  unfold pathE at hq
  by_cases h0 : l.length = 0
  · rw [if_pos (.inl h0)] at hq
    subst hq
    have hl : ((l.length : Int) == 0) = true := by simp [h0]
    clear h0
    go_enter Try.func32, Try.ntmps32
    go_wp2
    go_ret
    exact ⟨rfl, rfl⟩
  · have hl : ((l.length : Int) == 0) = false := by rw [beq_eq_false_iff_ne]; omega
    by_cases h8 : 8 < l.length
    · rw [if_pos (.inr h8)] at hq
      subst hq
      have h9 : (8 : Int) < (l.length : Int) := by omega
      go_enter Try.func32, Try.ntmps32
      go_wp2
      go_ret
      exact ⟨rfl, rfl⟩
    · rw [if_neg (by omega)] at hq
      have h9 : ¬ (8 : Int) < (l.length : Int) := by omega
      have HQ : Hid (goE (l.take 0) (l.drop 0) = q) := Lib.hid (by simpa using hq)
      clear hq
      go_enter Try.func32, Try.ntmps32
      go_wp2
      go_loopw [15] (fun i wr => ∃ k : Nat, k ≤ l.length ∧ i = .int .i64 k ∧ Hid (goE (l.take k) (l.drop k) = q) ∧ wr = w) (fun i _ => l.length - (intOf i).toNat)
      case atStart => exact ⟨0, by omega, rfl, HQ, rfl⟩
      case round =>
        obtain ⟨k, hk, rfl, HE, rfl⟩ := hrel
        by_cases hlt : k < l.length
        · obtain ⟨b1, o1, rfl, c1⟩ := hat k hlt
          have he := HE.out
          rw [goE_step l hlt] at he
          have HF : Hid (ShowI wr (.slice (some ⟨b1, o1, none⟩) k cap) (l.take k)) := Lib.hid (HU.out.first (by omega))
          by_cases hg : isG (pk l k)
          · rw [if_neg (by simpa using hg)] at he
            have HG := Lib.hid (decide_eq_true hg)
            by_cases hm : pk l k ∈ l.take k
            · rw [if_pos hm] at he
              have HM := Lib.hid (decide_eq_true hm)
              have HY := Lib.hid he
              clear hg hm he HE
              generalize pk l k = y at *
              go_wp2_with (first | (go_at_call 30; refine (cIsG y _ HG.out _).mono ?_; rintro e w1 ⟨rfl, rfl⟩) | (go_at_call 43; refine (cContains _ _ y _ HM.out _ HF.out).mono ?_; rintro e w1 ⟨rfl, rfl⟩))
              go_ret
              exact ⟨ret_int HY.out, rfl⟩
            · rw [if_neg hm] at he
              have HM := Lib.hid (decide_eq_false hm)
              have HY := Lib.hid he
              clear hg hm he HE
              generalize pk l k = y at *
              go_wp2_with (first | (go_at_call 30; refine (cIsG y _ HG.out _).mono ?_; rintro e w1 ⟨rfl, rfl⟩) | (go_at_call 43; refine (cContains _ _ y _ HM.out _ HF.out).mono ?_; rintro e w1 ⟨rfl, rfl⟩))
              go_roundw
              case rel => exact ⟨k + 1, by omega, by go_num, HY, trivial⟩
              case measure => simp [intOf]; omega
          · rw [if_pos hg] at he
            have HG := Lib.hid (decide_eq_false hg)
            have HY := Lib.hid he
            clear hg he HE
            generalize pk l k = y at *
            go_wp2_with (go_at_call 30; refine (cIsG y _ HG.out _).mono ?_; rintro e w1 ⟨rfl, rfl⟩)
            go_ret
            exact ⟨ret_int HY.out, rfl⟩
        · obtain rfl : k = l.length := by omega
          have HY : Hid (0 = q) := Lib.hid (by have := HE.out; rwa [List.drop_length, goE] at this)
          clear HE
          go_wp2
          go_ret
          exact ⟨ret_int HY.out, rfl⟩
set_option maxHeartbeats 1000000 in
theorem cCheckPath (h : CV w B g t) (u : Value) (l : List Int) (n q : Int) (hq : askP l n = q) (hu : ShowI w u l) :
    Calls Try.prog 22 #[.pointer (some ⟨B, 0, none⟩), u, .int .i64 n] w fun e w' => e = .returned (.int .i64 q) ∧ w' = w := by
  have HA := Lib.hid h
  have HU := Lib.hid hu
  clear h hu
  unfold askP at hq
  obtain ⟨P, hP⟩ : ∃ P, pathE l = P := ⟨_, rfl⟩
  rw [hP] at hq
  have HP := Lib.hid hP
  clear hP
  by_cases h0 : P = 0
  · subst h0
    rw [if_neg (by decide)] at hq
    by_cases hn : isN n
    · rw [if_neg (by simpa using hn)] at hq
      subst hq
      have HN := Lib.hid (decide_eq_true hn)
      clear hn
      go_enter Try.func22, Try.ntmps22
      go_wp2_with (first | (go_at_call 29; refine (cNoneNo HA.out).mono ?_; rintro e w1 ⟨rfl, rfl⟩) | (go_at_call 32; refine (cPathError _ l _ HP.out _ HU.out).mono ?_; rintro e w1 ⟨rfl, rfl⟩) | (go_at_call 31; refine (cIsN n _ HN.out _).mono ?_; rintro e w1 ⟨rfl, rfl⟩))
      go_ret
      exact ⟨rfl, rfl⟩
    · rw [if_pos hn] at hq
      subst hq
      have HN := Lib.hid (decide_eq_false hn)
      clear hn
      go_enter Try.func22, Try.ntmps22
      go_wp2_with (first | (go_at_call 29; refine (cNoneNo HA.out).mono ?_; rintro e w1 ⟨rfl, rfl⟩) | (go_at_call 32; refine (cPathError _ l _ HP.out _ HU.out).mono ?_; rintro e w1 ⟨rfl, rfl⟩) | (go_at_call 31; refine (cIsN n _ HN.out _).mono ?_; rintro e w1 ⟨rfl, rfl⟩))
      go_ret
      exact ⟨rfl, rfl⟩
  · rw [if_pos h0] at hq
    subst hq
    have hne : (P != 0) = true := by simp [h0]
    clear h0
    go_enter Try.func22, Try.ntmps22
    go_wp2_with (first | (go_at_call 29; refine (cNoneNo HA.out).mono ?_; rintro e w1 ⟨rfl, rfl⟩) | (go_at_call 32; refine (cPathError _ l _ HP.out _ HU.out).mono ?_; rintro e w1 ⟨rfl, rfl⟩))
    go_ret
    exact ⟨rfl, rfl⟩
set_option maxHeartbeats 1000000 in
theorem zCheckPath (h : CZ w p) (u : Value) (n : Int) :
    Calls Try.prog 22 #[.pointer p, u, .int .i64 n] w fun e w' => e = .returned (.int .i64 1) ∧ w' = w := by
  have HA := Lib.hid h
  clear h
  go_enter Try.func22, Try.ntmps22
  go_wp2_with (go_at_call 29; refine (cNoneYes HA.out).mono ?_; rintro e w1 ⟨rfl, rfl⟩)
  go_ret
  exact ⟨rfl, rfl⟩
end
end Go.Proofs.Ytcodgpehckimkaa
