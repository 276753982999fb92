/-
  Head, Part, HeadOf and PartOf of the document.
-/
import Derived.Test.YtnnfmlbgoplnaaaPp
set_option linter.unusedVariables false
set_option linter.unusedSimpArgs false
namespace Go.Proofs.Ytnnfmlbgoplnaaa
open Go Go.RowKit

set_option maxHeartbeats 2000000 in
theorem rHead (s o : Int) (w : World) :
    Calls Try.prog 77 #[.int .i64 s, .int .i64 o] w fun e w' => e = .returned (.tuple #[.int .u64 (headV s o), .int .i64 (headE s o)]) ∧ w' = w := by
  by_cases h0 : s = -1
  · subst h0
    by_cases h1 : o = -1
    · subst h1
      have HX := Lib.hid (hdword_good (s := -1) (o := -1) (Or.inl ⟨rfl, rfl⟩))
      go_enter Try.func77, Try.ntmps77
      go_wp2
      go_ret2
      exact ⟨ret_ue HX.out.1 HX.out.2, rfl⟩
    · have HX := Lib.hid (hdword_bad (s := -1) (o := o) (by unfold mayH; omega))
      have ho : (o == -1) = false := by simpa using h1
      clear h1
      go_enter Try.func77, Try.ntmps77
      go_wp2
      go_ret2
      exact ⟨ret_ue HX.out.1 HX.out.2, rfl⟩
  · have hs : (s == -1) = false := by simpa using h0
    by_cases h1 : s < 0
    · have HX := Lib.hid (hdword_bad (s := s) (o := o) (by unfold mayH; omega))
      clear h0
      go_enter Try.func77, Try.ntmps77
      go_wp2
      go_ret2
      exact ⟨ret_ue HX.out.1 HX.out.2, rfl⟩
    · by_cases h2 : 32 ≤ s
      · have HX := Lib.hid (hdword_bad (s := s) (o := o) (by unfold mayH; omega))
        clear h0
        go_enter Try.func77, Try.ntmps77
        go_wp2
        go_ret2
        exact ⟨ret_ue HX.out.1 HX.out.2, rfl⟩
      · by_cases h3 : o < -1
        · have HX := Lib.hid (hdword_bad (s := s) (o := o) (by unfold mayH; omega))
          clear h0
          go_enter Try.func77, Try.ntmps77
          go_wp2
          go_ret2
          exact ⟨ret_ue HX.out.1 HX.out.2, rfl⟩
        · by_cases h4 : 16 ≤ o
          · have HX := Lib.hid (hdword_bad (s := s) (o := o) (by unfold mayH; omega))
            clear h0
            go_enter Try.func77, Try.ntmps77
            go_wp2
            go_ret2
            exact ⟨ret_ue HX.out.1 HX.out.2, rfl⟩
          · have HX := Lib.hid (hdword_good (s := s) (o := o) (Or.inr ⟨by omega, by omega, by omega, by omega⟩))
            clear h0
            have hw : IntKind.u64.wrap (64 * (s + 1) + o + 1) = 64 * (s + 1) + o + 1 := by rw [IntKind.wrap_u64]; omega
            go_enter Try.func77, Try.ntmps77
            go_wp2
            go_ret2
            exact ⟨ret_ue (by rw [← HX.out.1]; unfold wdH; omega) HX.out.2, rfl⟩
set_option maxHeartbeats 2000000 in
theorem rPart (s m : Int) (w : World) :
    Calls Try.prog 92 #[.int .i64 s, .int .i64 m] w fun e w' => e = .returned (.tuple #[.int .u64 (partV s m), .int .i64 (partE s m)]) ∧ w' = w := by
  by_cases h0 : s = -1
  · subst h0
    by_cases h1 : m = 0
    · subst h1
      have HX := Lib.hid (ptword_good (s := -1) (o := 0) (Or.inl ⟨rfl, rfl⟩))
      go_enter Try.func92, Try.ntmps92
      go_wp2
      go_ret2
      exact ⟨ret_ue HX.out.1 HX.out.2, rfl⟩
    · have HX := Lib.hid (ptword_bad (s := -1) (o := m) (by unfold mayP; omega))
      have ho : (m == 0) = false := by simpa using h1
      clear h1
      go_enter Try.func92, Try.ntmps92
      go_wp2
      go_ret2
      exact ⟨ret_ue HX.out.1 HX.out.2, rfl⟩
  · have hs : (s == -1) = false := by simpa using h0
    by_cases h1 : s < 0
    · have HX := Lib.hid (ptword_bad (s := s) (o := m) (by unfold mayP; omega))
      clear h0
      go_enter Try.func92, Try.ntmps92
      go_wp2
      go_ret2
      exact ⟨ret_ue HX.out.1 HX.out.2, rfl⟩
    · by_cases h2 : 32 ≤ s
      · have HX := Lib.hid (ptword_bad (s := s) (o := m) (by unfold mayP; omega))
        clear h0
        go_enter Try.func92, Try.ntmps92
        go_wp2
        go_ret2
        exact ⟨ret_ue HX.out.1 HX.out.2, rfl⟩
      · by_cases h3 : m < 1
        · have HX := Lib.hid (ptword_bad (s := s) (o := m) (by unfold mayP; omega))
          clear h0
          go_enter Try.func92, Try.ntmps92
          go_wp2
          go_ret2
          exact ⟨ret_ue HX.out.1 HX.out.2, rfl⟩
        · by_cases h4 : 63 < m
          · have HX := Lib.hid (ptword_bad (s := s) (o := m) (by unfold mayP; omega))
            clear h0
            go_enter Try.func92, Try.ntmps92
            go_wp2
            go_ret2
            exact ⟨ret_ue HX.out.1 HX.out.2, rfl⟩
          · have HX := Lib.hid (ptword_good (s := s) (o := m) (Or.inr ⟨by omega, by omega, by omega, by omega⟩))
            clear h0
            have hw : IntKind.u64.wrap (s + 1 + 64 * m) = s + 1 + 64 * m := by rw [IntKind.wrap_u64]; omega
            go_enter Try.func92, Try.ntmps92
            go_wp2
            go_ret2
            exact ⟨ret_ue (by rw [← HX.out.1]; rfl) HX.out.2, rfl⟩
/-! gone through -/
section
variable {x a b : Int}
theorem isH_range (h : isH x) : -1 ≤ hS x ∧ hS x < 32 ∧ -1 ≤ hO x ∧ hO x < 16 := by
  have h' : mayH (x / 64 - 1) (x % 64 - 1) := h
  have := mayH_range h'
  unfold hS hO
  rw [if_pos h, if_pos h]
  omega
theorem h_next (h : isH x → a < hS x ∨ a = hS x ∧ b ≤ hO x) (hn : ¬ (mayH a b ∧ wdH a b = x)) : isH x → a < hS x ∨ a = hS x ∧ b + 1 ≤ hO x := by
  intro hx
  rcases h hx with h1 | ⟨h1, h2⟩
  · exact Or.inl h1
  · refine Or.inr ⟨h1, ?_⟩
    by_cases e : b = hO x
    · refine absurd ?_ hn
      rw [h1, e]
      have h' : mayH (x / 64 - 1) (x % 64 - 1) := hx
      unfold hS hO
      rw [if_pos hx, if_pos hx]
      exact ⟨h', wdH_in⟩
    · omega
theorem h_row (h : isH x → a < hS x ∨ a = hS x ∧ 16 ≤ hO x) : isH x → a + 1 ≤ hS x := by
  intro hx
  have := isH_range hx
  have := h hx
  omega
theorem h_none (h : isH x → 32 ≤ hS x) : ¬ isH x := fun hx => by
  have := isH_range hx
  have := h hx
  omega
end
theorem ret_iib {a b c d : Int} {p q : Bool} (h : a = b) (h2 : c = d) (h3 : p = q) : Ending.returned (.tuple #[.int .i64 a, .int .i64 c, .bool p]) = .returned (.tuple #[.int .i64 b, .int .i64 d, .bool q]) := by rw [h, h2, h3]
set_option maxHeartbeats 3000000 in
theorem rHeadOf (x : Int) (hx : okW x) (w : World) :
    Calls Try.prog 64 #[.int .u64 x] w fun e w' => e = .returned (.tuple #[.int .i64 (hS x), .int .i64 (hO x), .bool (decide (isH x))]) ∧ w' = w := by
  go_enter Try.func64, Try.ntmps64
  go_wp2
  go_loopw [5] (fun i wr => ∃ a : Int, -1 ≤ a ∧ a ≤ 32 ∧ i = .int .i64 a ∧ Hid (isH x → a ≤ hS x) ∧ wr = w) (fun i _ => (32 - intOf i).toNat)
  case atStart => exact ⟨-1, by omega, by omega, rfl, Lib.hid (fun h => (isH_range h).1), rfl⟩
  case round =>
    obtain ⟨a, ha0, ha1, rfl, HA, rfl⟩ := hrel
    by_cases hlt : a < 32
    · go_wp2
      try simp only [show decide (a < 32) = true from decide_eq_true (by omega)]
      go_loopw [6] (fun i wx => ∃ b : Int, -1 ≤ b ∧ b ≤ 16 ∧ i = .int .i64 b ∧ Hid (isH x → a < hS x ∨ a = hS x ∧ b ≤ hO x) ∧ wx = wr) (fun i _ => (16 - intOf i).toNat)
      case atStart => exact ⟨-1, by omega, by omega, rfl, Lib.hid (fun h => by have := HA.out h; have := isH_range h; omega), rfl⟩
      case round =>
        clear HA
        obtain ⟨b, hb0, hb1, rfl, HA, rfl⟩ := hrel
        by_cases hlb : b < 16
        · have hC := rHead a b
          by_cases hm : mayH a b
          · rw [← (hdword_good hm).1, ← (hdword_good hm).2] at hC
            by_cases hv : wdH a b = x
            · have HI := Lib.hid (isH_iff hm hv)
              rw [hv] at hC
              have HC := Lib.hid hC
              have hxx : (x == x) = true := by simp
              clear hC hm hv HA
              go_wp2_with fail
              refine (HC.out _).mono ?_
              rintro e w1 ⟨rfl, rfl⟩
              go_wp2
              try rw [Exit.noGoto_ret]
              go_ret3
              exact ⟨ret_iib HI.out.2.1.symm HI.out.2.2.symm (decide_eq_true HI.out.1).symm, rfl⟩
            · have HN := Lib.hid (h_next HA.out (fun e => hv e.2))
              have hxx : (wdH a b == x) = false := by simpa using hv
              generalize wdH a b = v at *
              have HC := Lib.hid hC
              clear hC hm hv HA
              go_wp2_with fail
              refine (HC.out _).mono ?_
              rintro e w1 ⟨rfl, rfl⟩
              go_wp2
              go_roundw
              case rel => exact ⟨b + 1, by omega, by omega, rfl, HN, trivial⟩
              case measure => simp [intOf]; omega
          · rw [← (hdword_bad hm).1, ← (hdword_bad hm).2] at hC
            have HN := Lib.hid (h_next HA.out (fun e => hm e.1))
            have HC := Lib.hid hC
            clear hC hm HA
            go_wp2_with fail
            refine (HC.out _).mono ?_
            rintro e w1 ⟨rfl, rfl⟩
            go_wp2
            go_roundw
            case rel => exact ⟨b + 1, by omega, by omega, rfl, HN, trivial⟩
            case measure => simp [intOf]; omega
        · obtain rfl : b = 16 := by omega
          have HN := Lib.hid (h_row HA.out)
          clear HA
          go_wp2
          go_roundw
          case rel => exact ⟨a + 1, by omega, by omega, rfl, HN, trivial⟩
          case measure => simp [intOf]; omega
    · obtain rfl : a = 32 := by omega
      have hn := h_none HA.out
      have HX : Hid (-1 = hS x ∧ -1 = hO x ∧ false = decide (isH x)) := Lib.hid (by unfold hS hO; rw [if_neg hn, if_neg hn, decide_eq_false hn]; exact ⟨rfl, rfl, rfl⟩)
      clear HA hn
      go_wp2
      go_ret3
      exact ⟨ret_iib HX.out.1 HX.out.2.1 HX.out.2.2, rfl⟩
set_option maxHeartbeats 3000000 in
theorem rPartOf (x : Int) (hx : okW x) (w : World) :
    Calls Try.prog 79 #[.int .u64 x] w fun e w' => e = .returned (.tuple #[.int .i64 (pS x), .int .i64 (pM x), .bool (decide (isP x))]) ∧ w' = w := by
  by_cases h0 : x = 0
  · subst h0
    have HX : Hid (-1 = pS 0 ∧ 0 = pM 0 ∧ true = decide (isP 0)) := Lib.hid (by decide)
    clear hx
    go_enter Try.func79, Try.ntmps79
    go_wp2
    go_ret3
    exact ⟨ret_iib HX.out.1 HX.out.2.1 HX.out.2.2, rfl⟩
  · have h00 : (x == 0) = false := by simpa using h0
    obtain ⟨p, hp⟩ : ∃ p, x % 64 = p := ⟨_, rfl⟩
    obtain ⟨q, hq⟩ : ∃ q, x / 64 % 64 = q := ⟨_, rfl⟩
    have hp2 : 0 ≤ p ∧ p < 64 := by omega
    have hq2 : 0 ≤ q ∧ q < 64 := by omega
    obtain ⟨p1, p2⟩ := hp2
    obtain ⟨q1, q2⟩ := hq2
    have hC := rPart (p - 1) q
    by_cases hi : isP x
    · have hi' : mayP (x % 64 - 1) (x / 64) := hi
      have hr := mayP_range hi'
      have e : x / 64 = q := by omega
      have HX : Hid (p - 1 = pS x ∧ q = pM x ∧ true = decide (isP x)) := Lib.hid (by unfold pS pM; rw [if_pos hi, if_pos hi, decide_eq_true hi, hp, e]; exact ⟨rfl, rfl, rfl⟩)
      rw [hp, e] at hi'
      rw [← (ptword_good hi').1, ← (ptword_good hi').2, show wdP (p - 1) q = x by unfold wdP; omega] at hC
      have HC := Lib.hid hC
      have hxx : (x != x) = false := by simp
      obtain ⟨x1, x2⟩ := hx
      clear hC hi hi' hr e h0
      go_enter Try.func79, Try.ntmps79
      go_wp2_with fail
      refine (HC.out _).mono ?_
      rintro e w1 ⟨rfl, rfl⟩
      go_wp2
      go_ret3
      exact ⟨ret_iib HX.out.1 HX.out.2.1 HX.out.2.2, rfl⟩
    · have HX : Hid (-1 = pS x ∧ 0 = pM x ∧ false = decide (isP x)) := Lib.hid (by unfold pS pM; rw [if_neg hi, if_neg hi, decide_eq_false hi]; exact ⟨rfl, rfl, rfl⟩)
      by_cases hm : mayP (p - 1) q
      · have hv : wdP (p - 1) q ≠ x := fun e => hi (by
          have := wdP_one hm e
          unfold isP
          rw [← this.1, ← this.2]
          exact hm)
        rw [← (ptword_good hm).1, ← (ptword_good hm).2] at hC
        have hxx : (wdP (p - 1) q != x) = true := by simpa using hv
        generalize wdP (p - 1) q = v at *
        have HC := Lib.hid hC
        obtain ⟨x1, x2⟩ := hx
        clear hC hi hm hv h0
        go_enter Try.func79, Try.ntmps79
        go_wp2_with fail
        refine (HC.out _).mono ?_
        rintro e w1 ⟨rfl, rfl⟩
        go_wp2
        go_ret3
        exact ⟨ret_iib HX.out.1 HX.out.2.1 HX.out.2.2, rfl⟩
      · rw [← (ptword_bad hm).1, ← (ptword_bad hm).2] at hC
        have HC := Lib.hid hC
        obtain ⟨x1, x2⟩ := hx
        clear hC hi hm h0
        go_enter Try.func79, Try.ntmps79
        go_wp2_with fail
        refine (HC.out _).mono ?_
        rintro e w1 ⟨rfl, rfl⟩
        go_wp2
        go_ret3
        exact ⟨ret_iib HX.out.1 HX.out.2.1 HX.out.2.2, rfl⟩
end Go.Proofs.Ytnnfmlbgoplnaaa
