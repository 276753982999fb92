/-
  The document's stocks: Has, Held, set, Drain, Take, Put.
-/
import Derived.Test.YthjonjkeaiobdaaAct
set_option linter.unusedVariables false
set_option linter.unusedSimpArgs false
namespace Go.Proofs.Ythjonjkeaiobdaa
open Go Go.RowKit

section
variable {S : Nat → Prop} {w w' : World} {T E : TypeId} {B r c k D : Nat} {t t' : Sk} {p : Option Addr} {x g n e G N : Int} {Ts : List TypeId}
set_option maxHeartbeats 1000000 in
theorem rHas (h : SV w 52 57 B r c t) (x a b : Int) (ha : hasG c t x = a) (hb : hasN c t x = b) :
    Calls Try.prog 11 #[.pointer (some ⟨B, 0, none⟩), .int .i64 x] w fun e w' => e = .returned (.tuple #[.int .i64 a, .int .i64 b]) ∧ Below w.heap.size w w' := by
  have HA := Lib.hid h
  by_cases hx : isC c x
  · obtain ⟨k, rfl, hk⟩ := hx.nat
    rw [hasG_at t hk] at ha
    rw [hasN_at t hk] at hb
    have c0 := h.c0
    have cg := h.cg hk
    have cn := h.cn hk
    rw [ha] at cg
    rw [hb] at cn
    have HC := Lib.hid (decide_eq_true hx)
    have hk2 : (k : Int) < (c : Int) := by omega
    clear h hx ha hb
    go_enter Try.func11, Try.ntmps11
    go_wp2_with (go_at_call 23; refine (rHasC HA.out _ _ HC.out).mono ?_; rintro e w1 ⟨rfl, rfl⟩)
    go_quiet (fail)
    go_wp2
    go_ret2
    exact ⟨rfl, below_drewN (Below.refl _ _) _⟩
  · rw [hasG_no t hx] at ha
    rw [hasN_no t hx] at hb
    subst ha hb
    have HC := Lib.hid (decide_eq_false hx)
    clear h hx
    go_enter Try.func11, Try.ntmps11
    go_wp2_with (go_at_call 23; refine (rHasC HA.out _ _ HC.out).mono ?_; rintro e w1 ⟨rfl, rfl⟩)
    go_ret2
    exact ⟨rfl, Below.refl _ _⟩
set_option maxHeartbeats 2000000 in
set_option maxRecDepth 100000 in
theorem rHeld (h : SV w 52 57 B r c t) (hs : SI c t) (x y : Int) (hy : held t x c = y) :
    Calls Try.prog 13 #[.pointer (some ⟨B, 0, none⟩), .int .i64 x] w fun e w' => e = .returned (.int .i64 y) ∧ Below w.heap.size w w' := by
  have HA := Lib.hid h
  have HS := Lib.hid hs
  have HY := Lib.hid hy
  have c0 := h.c0
  clear h hs hy
  go_enter Try.func13, Try.ntmps13
  go_wp2
  go_loopw [5, 6] (fun s i wr => ∃ (k : Nat) (z : Int), k ≤ c ∧ i = .int .i64 k ∧ s = .int .i64 z ∧ Hid (z = held t x k) ∧ Hid (Below w.heap.size w wr)) (fun s i _ => c - (intOf i).toNat)
  case atStart => exact ⟨0, 0, by omega, rfl, rfl, Lib.hid rfl, Lib.hid (Below.refl _ _)⟩
  case round =>
    obtain ⟨k, z, hk, rfl, rfl, HZ, HB⟩ := hrel
    have c1 := (HA.out.below HB.out).c0
    by_cases hlt : k < c
    · have cg := (HA.out.below HB.out).cg hlt
      have cn := (HA.out.below HB.out).cn hlt
      have hb1 := held_bounds HS.out x hk
      have hb2 := (HS.out k hlt).b
      have hc8 := HA.out.n2
      have HST := Lib.hid (held_step t x k)
      rw [← HZ.out] at hb1 HST
      generalize t.g k = G at cg HST
      generalize t.n k = N at cn hb2 HST
      have HB1 := HB
      have hw : IntKind.i64.wrap (z + N) = z + N := IntWalk.i64_in _ (by omega)
      clear HZ hb1 hb2
      by_cases hx : G = x
      · have hq : (G == x) = true := by simp [hx]
        have HT : Hid (held t x (k + 1) = z + N) := Lib.hid (by rw [HST.out, if_pos hx])
        clear HST hx
        go_wp2
        go_roundw
        case rel => exact ⟨k + 1, z + N, by omega, by go_num, rfl, Lib.hid HT.out.symm, HB1⟩
        case measure => simp [intOf]; omega
      · have hq : (G == x) = false := by simp [hx]
        have HT : Hid (held t x (k + 1) = z) := Lib.hid (by rw [HST.out, if_neg hx, Int.add_zero])
        clear HST hx
        go_wp2
        go_roundw
        case rel => exact ⟨k + 1, z, by omega, by go_num, rfl, Lib.hid HT.out.symm, HB1⟩
        case measure => simp [intOf]; omega
    · obtain rfl : k = c := by omega
      have HE : Hid (z = y) := Lib.hid (by rw [HZ.out, HY.out])
      go_wp2
      go_ret
      exact ⟨ret_int HE.out, HB.out⟩
set_option maxHeartbeats 2000000 in
set_option maxRecDepth 100000 in
theorem rDrain (h : SV w 52 57 B r c t) {a b : Int} (hr : DrainIs c t x a b t') :
    Calls Try.prog 21 #[.pointer (some ⟨B, 0, none⟩), .int .i64 x] w fun e w' => e = .returned (.tuple #[.int .i64 a, .int .i64 b]) ∧ SV w' 52 57 B r c t' ∧ Kept (· = r) w w' := by
  have HA := Lib.hid h
  cases hr with
  | bad hx =>
    have HC := Lib.hid (decide_eq_false hx)
    clear h hx
    go_enter Try.func21, Try.ntmps21
    go_wp2_with (go_at_call 23; refine (rHasC HA.out _ _ HC.out).mono ?_; rintro e w1 ⟨rfl, rfl⟩)
    go_ret2
    exact ⟨rfl, HA.out, Kept.refl _ _⟩
  | ok k hx hk =>
    subst hx
    have c0 := h.c0
    have cg := h.cg hk
    have cn := h.cn hk
    have f0 := h.fr (k * 2)
    have f1 := h.fr (k * 2 + 1)
    have hl := h.lt
    have HC := Lib.hid (decide_eq_true (isC.of hk))
    have hk2 : (k : Int) < (c : Int) := by omega
    have HF := Lib.hid ((h.put hk 0 0 0 rfl).alloc (.cells #[.int .i64 (t.g k), .int .i64 (t.n k)] 57))
    have HK := Lib.hid ((kept_two r (k * 2) (k * 2 + 1) (.int .i64 0) (.int .i64 0) w (Kept.refl (· = r) w)).alloc (.cells #[.int .i64 (t.g k), .int .i64 (t.n k)] 57))
    generalize t.g k = G at *
    generalize t.n k = N at *
    obtain ⟨hl1, hl2⟩ := hl
    clear h
    go_enter Try.func21, Try.ntmps21
    go_wp2_with (go_at_call 23; refine (rHasC HA.out _ _ HC.out).mono ?_; rintro e w1 ⟨rfl, rfl⟩)
    go_quiet (fail)
    go_wp2
    go_ret2
    exact ⟨rfl, HF.out.below (below_drewN (Below.refl _ _) _), HK.out.drewN _⟩
set_option maxHeartbeats 2000000 in
set_option maxRecDepth 100000 in
theorem rSet (h : SV w 52 57 B r c t) {k : Nat} (hk : k < c) (g n : Int) :
    Calls Try.prog 27 #[.pointer (some ⟨B, 0, none⟩), .int .i64 k, .int .i64 g, .int .i64 n] w fun e w' => e = .returned (.tuple #[]) ∧ SV w' 52 57 B r c (t.put k g n) ∧ Kept (· = r) w w' := by
  have c0 := h.c0
  have cg := h.cg hk
  have cn := h.cn hk
  have f0 := h.fr (k * 2)
  have f1 := h.fr (k * 2 + 1)
  have hk2 : (k : Int) < (c : Int) := by omega
  have HF := Lib.hid (h.put hk g n _ rfl)
  have HK := Lib.hid (kept_two r (k * 2) (k * 2 + 1) (.int .i64 (gOf g n)) (.int .i64 n) w (Kept.refl (· = r) w))
  generalize t.g k = G at *
  generalize t.n k = N at *
  clear h
  by_cases h0 : n = 0
  · have e : gOf g n = 0 := if_pos h0
    rw [e] at HF HK
    subst h0
    go_enter Try.func27, Try.ntmps27
    go_wp2
    go_end0
    exact ⟨rfl, HF.out, HK.out⟩
  · have e : gOf g n = g := if_neg h0
    rw [e] at HF HK
    have hq : (n == 0) = false := by simp [h0]
    go_enter Try.func27, Try.ntmps27
    go_wp2
    go_end0
    exact ⟨rfl, HF.out, HK.out⟩
set_option maxHeartbeats 4000000 in
set_option maxRecDepth 100000 in
theorem rTake (h : SV w 52 57 B r c t) (hs : SI c t) {q : Bool} (hr : TakeIs c t x g n q t') :
    Calls Try.prog 19 #[.pointer (some ⟨B, 0, none⟩), .int .i64 x, .int .i64 g, .int .i64 n] w fun e w' => e = .returned (.bool q) ∧ SV w' 52 57 B r c t' ∧ Kept (· = r) w w' := by
  have HA := Lib.hid h
  cases hr with
  | bad hx =>
    have HC := Lib.hid (decide_eq_false hx)
    clear h hx hs
    go_enter Try.func19, Try.ntmps19
    go_wp2_with (go_at_call 23; refine (rHasC HA.out _ _ HC.out).mono ?_; rintro e w1 ⟨rfl, rfl⟩)
    go_ret
    exact ⟨rfl, HA.out, Kept.refl _ _⟩
  | none k hx hk h1 =>
    subst hx
    have HC := Lib.hid (decide_eq_true (isC.of hk))
    clear h hs
    go_enter Try.func19, Try.ntmps19
    go_wp2_with (go_at_call 23; refine (rHasC HA.out _ _ HC.out).mono ?_; rintro e w1 ⟨rfl, rfl⟩)
    go_ret
    exact ⟨rfl, HA.out, Kept.refl _ _⟩
  | other k hx hk h1 hg =>
    subst hx
    have c0 := h.c0
    have cg := h.cg hk
    have cn := h.cn hk
    have HC := Lib.hid (decide_eq_true (isC.of hk))
    have hk2 : (k : Int) < (c : Int) := by omega
    have h1' : ¬ n < 1 := by omega
    have hq : (t.g k != g) = true := by simp [hg]
    generalize t.g k = G at *
    generalize t.n k = N at *
    clear h hs hg
    by_cases h3 : N < n
    · go_enter Try.func19, Try.ntmps19
      go_wp2_with (go_at_call 23; refine (rHasC HA.out _ _ HC.out).mono ?_; rintro e w1 ⟨rfl, rfl⟩)
      go_ret
      exact ⟨rfl, HA.out, Kept.refl _ _⟩
    · go_enter Try.func19, Try.ntmps19
      go_wp2_with (go_at_call 23; refine (rHasC HA.out _ _ HC.out).mono ?_; rintro e w1 ⟨rfl, rfl⟩)
      go_ret
      exact ⟨rfl, HA.out, Kept.refl _ _⟩
  | few k hx hk h1 hg hn =>
    subst hx
    have c0 := h.c0
    have cg := h.cg hk
    have cn := h.cn hk
    have HC := Lib.hid (decide_eq_true (isC.of hk))
    have hk2 : (k : Int) < (c : Int) := by omega
    have h1' : ¬ n < 1 := by omega
    generalize t.g k = G at *
    generalize t.n k = N at *
    clear h hs hg
    go_enter Try.func19, Try.ntmps19
    go_wp2_with (go_at_call 23; refine (rHasC HA.out _ _ HC.out).mono ?_; rintro e w1 ⟨rfl, rfl⟩)
    go_ret
    exact ⟨rfl, HA.out, Kept.refl _ _⟩
  | ok k hx hk h1 hg hn =>
    subst hx
    have c0 := h.c0
    have cg := h.cg hk
    have cn := h.cn hk
    have HC := Lib.hid (decide_eq_true (isC.of hk))
    have hk2 : (k : Int) < (c : Int) := by omega
    have h1' : ¬ n < 1 := by omega
    have hq : (t.g k != g) = false := by simp [hg]
    have hb := (hs k hk).b
    have hw : IntKind.i64.wrap (t.n k - n) = t.n k - n := IntWalk.i64_in _ (by omega)
    have hnf : ¬ t.n k < n := by omega
    have HS := Lib.hid (rSet h hk g (t.n k - n))
    obtain ⟨P', hP'⟩ : ∃ P', t.put k g (t.n k - n) = P' := ⟨_, rfl⟩
    rw [hP'] at HS ⊢
    generalize t.g k = G at *
    generalize t.n k = N at *
    clear h hs hg hb hP'
    go_enter Try.func19, Try.ntmps19
    go_wp2_with (first | (go_at_call 23; refine (rHasC HA.out _ _ HC.out).mono ?_; rintro e w1 ⟨rfl, rfl⟩) | (go_at_call 27; refine HS.out.mono ?_; rintro e w4 ⟨rfl, hv4, hk4⟩))
    go_ret
    exact ⟨rfl, hv4, hk4⟩
set_option maxHeartbeats 8000000 in
set_option maxRecDepth 100000 in
theorem rPut (h : SV w 52 57 B r c t) (hs : SI c t) {a b e : Int} (hr : PutIs c t x g n a b e t') :
    Calls Try.prog 20 #[.pointer (some ⟨B, 0, none⟩), .int .i64 x, .int .i64 g, .int .i64 n] w fun e' w' => e' = .returned (.tuple #[.int .i64 a, .int .i64 b, .int .i64 e]) ∧ SV w' 52 57 B r c t' ∧ Kept (· = r) w w' := by
  have HA := Lib.hid h
  cases hr with
  | bad hq =>
    rcases askE_cases c x g n with ⟨e, h1⟩ | ⟨e, h1, h2⟩ | ⟨e, h1, h2, h3⟩ | ⟨e, _⟩
    · rw [e]
      have HC := Lib.hid (decide_eq_false h1)
      clear h hs hq h1 e
      go_enter Try.func20, Try.ntmps20
      go_wp2_with (go_at_call 23; refine (rHasC HA.out _ _ HC.out).mono ?_; rintro e w1 ⟨rfl, rfl⟩)
      go_ret3
      exact ⟨rfl, HA.out, Kept.refl _ _⟩
    · rw [e]
      have HC := Lib.hid (decide_eq_true h1)
      clear h hs hq h1 e
      by_cases g1 : g < 1
      · clear h2
        go_enter Try.func20, Try.ntmps20
        go_wp2_with (go_at_call 23; refine (rHasC HA.out _ _ HC.out).mono ?_; rintro e w1 ⟨rfl, rfl⟩)
        go_ret3
        exact ⟨rfl, HA.out, Kept.refl _ _⟩
      · have g2 : 16 < g := by unfold isG at h2; omega
        clear h2
        go_enter Try.func20, Try.ntmps20
        go_wp2_with (go_at_call 23; refine (rHasC HA.out _ _ HC.out).mono ?_; rintro e w1 ⟨rfl, rfl⟩)
        go_ret3
        exact ⟨rfl, HA.out, Kept.refl _ _⟩
    · rw [e]
      have HC := Lib.hid (decide_eq_true h1)
      have g1 : ¬ g < 1 := by unfold isG at h2; omega
      have g2 : ¬ 16 < g := by unfold isG at h2; omega
      clear h hs hq h1 e h2
      by_cases m1 : n < 0
      · clear h3
        go_enter Try.func20, Try.ntmps20
        go_wp2_with (go_at_call 23; refine (rHasC HA.out _ _ HC.out).mono ?_; rintro e w1 ⟨rfl, rfl⟩)
        go_ret3
        exact ⟨rfl, HA.out, Kept.refl _ _⟩
      · have m2 : 9007199254740991 < n := by unfold isN at h3; omega
        clear h3
        go_enter Try.func20, Try.ntmps20
        go_wp2_with (go_at_call 23; refine (rHasC HA.out _ _ HC.out).mono ?_; rintro e w1 ⟨rfl, rfl⟩)
        go_ret3
        exact ⟨rfl, HA.out, Kept.refl _ _⟩
    · exact absurd e hq
  | big k hx hk h1 h2 h0 hg h3 =>
    subst hx
    have HC := Lib.hid (decide_eq_true (isC.of hk))
    have c0 := h.c0
    have cg := h.cg hk
    have cn := h.cn hk
    have hl := h.lt
    have hk2 : (k : Int) < (c : Int) := by omega
    have hb := (hs k hk).b
    have hne := h.ne
    have HV := Lib.hid (h.alloc (.cells #[.int .i64 (t.g k), .int .i64 (t.n k)] 57))
    have HK0 := Lib.hid ((Kept.refl (· = r) w).alloc (.cells #[.int .i64 (t.g k), .int .i64 (t.n k)] 57))
    obtain ⟨hl1, hl2⟩ := hl
    unfold isN at h2
    have g1 : ¬ g < 1 := by unfold isG at h1; omega
    have g2 : ¬ 16 < g := by unfold isG at h1; omega
    have m1 : ¬ n < 0 := by omega
    have m2 : ¬ 9007199254740991 < n := by omega
    have hq : (t.g k != g) = true := by simp [hg]
    have h0' : 0 < t.n k := by omega
    generalize t.g k = G at *
    generalize t.n k = N at *
    clear h hs hg h1 h0
    go_enter Try.func20, Try.ntmps20
    go_wp2_with (go_at_call 23; refine (rHasC HA.out _ _ HC.out).mono ?_; rintro e w1 ⟨rfl, rfl⟩)
    go_ret3
    exact ⟨rfl, HV.out, HK0.out⟩
  | swap k hx hk h1 h2 h0 hg h3 =>
    subst hx
    have HC := Lib.hid (decide_eq_true (isC.of hk))
    have c0 := h.c0
    have cg := h.cg hk
    have cn := h.cn hk
    have hl := h.lt
    have hk2 : (k : Int) < (c : Int) := by omega
    have hb := (hs k hk).b
    have hne := h.ne
    have HV := Lib.hid (h.alloc (.cells #[.int .i64 (t.g k), .int .i64 (t.n k)] 57))
    have HK0 := Lib.hid ((Kept.refl (· = r) w).alloc (.cells #[.int .i64 (t.g k), .int .i64 (t.n k)] 57))
    obtain ⟨hl1, hl2⟩ := hl
    unfold isN at h2
    have g1 : ¬ g < 1 := by unfold isG at h1; omega
    have g2 : ¬ 16 < g := by unfold isG at h1; omega
    have m1 : ¬ n < 0 := by omega
    have m2 : ¬ 9007199254740991 < n := by omega
    have hq : (t.g k != g) = true := by simp [hg]
    have h0' : 0 < t.n k := by omega
    have h3' : ¬ 1024 < n := by omega
    have HS := Lib.hid (fun w0 (h0 : SV w0 52 57 B r c t) => rSet h0 hk g n)
    have HD := Lib.hid (heap_new w (.cells #[.int .i64 (t.g k), .int .i64 (t.n k)] 57))
    obtain ⟨P', hP'⟩ : ∃ P', t.put k g n = P' := ⟨_, rfl⟩
    rw [hP'] at HS ⊢
    generalize t.g k = G at *
    generalize t.n k = N at *
    have hDr : w.heap.size ≠ r := by omega
    clear h hs hg h1 h0 hP' h3
    go_enter Try.func20, Try.ntmps20
    go_wp2_with (first | (go_at_call 23; refine (rHasC HA.out _ _ HC.out).mono ?_; rintro e w1 ⟨rfl, rfl⟩) | (go_at_call 27; refine (HS.out _ HV.out).mono ?_; rintro e w4 ⟨rfl, hv4, hk4⟩; have d4 := (hk4.block _ (lt_of_block HD.out) hDr).trans HD.out; have e0 := self_cell d4 0 _ rfl; have e1 := self_cell d4 1 _ rfl))
    go_quiet (fail)
    go_wp2
    go_ret3
    exact ⟨rfl, hv4.below (below_drewN (Below.refl _ _) _), (HK0.out.trans hk4).drewN _⟩
  | fits k hx hk h1 h2 h0 h3 =>
    by_cases h4 : t.n k = 0
    · subst hx
      have HC := Lib.hid (decide_eq_true (isC.of hk))
      have c0 := h.c0
      have cg := h.cg hk
      have cn := h.cn hk
      have hl := h.lt
      have hk2 : (k : Int) < (c : Int) := by omega
      have hb := (hs k hk).b
      have hne := h.ne
      have HV := Lib.hid (h.alloc (.cells #[.int .i64 (t.g k), .int .i64 (t.n k)] 57))
      have HK0 := Lib.hid ((Kept.refl (· = r) w).alloc (.cells #[.int .i64 (t.g k), .int .i64 (t.n k)] 57))
      obtain ⟨hl1, hl2⟩ := hl
      unfold isN at h2
      have g1 : ¬ g < 1 := by unfold isG at h1; omega
      have g2 : ¬ 16 < g := by unfold isG at h1; omega
      have m1 : ¬ n < 0 := by omega
      have m2 : ¬ 9007199254740991 < n := by omega
      have h0' : ¬ 0 < t.n k := by omega
      have hlim : t.n k + n ≤ 1024 := h3
      have hw : IntKind.i64.wrap (t.n k + n) = t.n k + n := IntWalk.i64_in _ (by omega)
      have HS := Lib.hid (fun w0 (h0 : SV w0 52 57 B r c t) => rSet h0 hk g (t.n k + n))
      obtain ⟨P', hP'⟩ : ∃ P', t.put k g (t.n k + n) = P' := ⟨_, rfl⟩
      rw [hP'] at HS ⊢
      generalize t.g k = G at *
      generalize t.n k = N at *
      clear h hs h1 hP' h0 h4
      go_enter Try.func20, Try.ntmps20
      go_wp2_with (first | (go_at_call 23; refine (rHasC HA.out _ _ HC.out).mono ?_; rintro e w1 ⟨rfl, rfl⟩) | (go_at_call 27; refine (HS.out _ HV.out).mono ?_; rintro e w4 ⟨rfl, hv4, hk4⟩))
      go_ret3
      exact ⟨rfl, hv4, HK0.out.trans hk4⟩
    · have h4' := h0.resolve_left h4
      subst hx
      have HC := Lib.hid (decide_eq_true (isC.of hk))
      have c0 := h.c0
      have cg := h.cg hk
      have cn := h.cn hk
      have hl := h.lt
      have hk2 : (k : Int) < (c : Int) := by omega
      have hb := (hs k hk).b
      have hne := h.ne
      have HV := Lib.hid (h.alloc (.cells #[.int .i64 (t.g k), .int .i64 (t.n k)] 57))
      have HK0 := Lib.hid ((Kept.refl (· = r) w).alloc (.cells #[.int .i64 (t.g k), .int .i64 (t.n k)] 57))
      obtain ⟨hl1, hl2⟩ := hl
      unfold isN at h2
      have g1 : ¬ g < 1 := by unfold isG at h1; omega
      have g2 : ¬ 16 < g := by unfold isG at h1; omega
      have m1 : ¬ n < 0 := by omega
      have m2 : ¬ 9007199254740991 < n := by omega
      have h0' : 0 < t.n k := by omega
      have hq : (t.g k != g) = false := by simp [h4']
      have hlim : t.n k + n ≤ 1024 := h3
      have hw : IntKind.i64.wrap (t.n k + n) = t.n k + n := IntWalk.i64_in _ (by omega)
      have HS := Lib.hid (fun w0 (h0 : SV w0 52 57 B r c t) => rSet h0 hk g (t.n k + n))
      obtain ⟨P', hP'⟩ : ∃ P', t.put k g (t.n k + n) = P' := ⟨_, rfl⟩
      rw [hP'] at HS ⊢
      generalize t.g k = G at *
      generalize t.n k = N at *
      clear h hs h1 hP' h0 h4'
      go_enter Try.func20, Try.ntmps20
      go_wp2_with (first | (go_at_call 23; refine (rHasC HA.out _ _ HC.out).mono ?_; rintro e w1 ⟨rfl, rfl⟩) | (go_at_call 27; refine (HS.out _ HV.out).mono ?_; rintro e w4 ⟨rfl, hv4, hk4⟩))
      go_ret3
      exact ⟨rfl, hv4, HK0.out.trans hk4⟩
  | over k hx hk h1 h2 h0 h3 =>
    by_cases h4 : t.n k = 0
    · subst hx
      have HC := Lib.hid (decide_eq_true (isC.of hk))
      have c0 := h.c0
      have cg := h.cg hk
      have cn := h.cn hk
      have hl := h.lt
      have hk2 : (k : Int) < (c : Int) := by omega
      have hb := (hs k hk).b
      have hne := h.ne
      have HV := Lib.hid (h.alloc (.cells #[.int .i64 (t.g k), .int .i64 (t.n k)] 57))
      have HK0 := Lib.hid ((Kept.refl (· = r) w).alloc (.cells #[.int .i64 (t.g k), .int .i64 (t.n k)] 57))
      obtain ⟨hl1, hl2⟩ := hl
      unfold isN at h2
      have g1 : ¬ g < 1 := by unfold isG at h1; omega
      have g2 : ¬ 16 < g := by unfold isG at h1; omega
      have m1 : ¬ n < 0 := by omega
      have m2 : ¬ 9007199254740991 < n := by omega
      have h0' : ¬ 0 < t.n k := by omega
      have hlim : ¬ t.n k + n ≤ 1024 := by omega
      have hw2 : IntKind.i64.wrap (t.n k + n - 512) = t.n k + n - 512 := IntWalk.i64_in _ (by omega)
      have hw : IntKind.i64.wrap (t.n k + n) = t.n k + n := IntWalk.i64_in _ (by omega)
      have HS := Lib.hid (fun w0 (h0 : SV w0 52 57 B r c t) => rSet h0 hk g 512)
      obtain ⟨P', hP'⟩ : ∃ P', t.put k g 512 = P' := ⟨_, rfl⟩
      rw [hP'] at HS ⊢
      generalize t.g k = G at *
      generalize t.n k = N at *
      clear h hs h1 hP' h0 h4
      go_enter Try.func20, Try.ntmps20
      go_wp2_with (first | (go_at_call 23; refine (rHasC HA.out _ _ HC.out).mono ?_; rintro e w1 ⟨rfl, rfl⟩) | (go_at_call 27; refine (HS.out _ HV.out).mono ?_; rintro e w4 ⟨rfl, hv4, hk4⟩))
      go_ret3
      exact ⟨rfl, hv4, HK0.out.trans hk4⟩
    · have h4' := h0.resolve_left h4
      subst hx
      have HC := Lib.hid (decide_eq_true (isC.of hk))
      have c0 := h.c0
      have cg := h.cg hk
      have cn := h.cn hk
      have hl := h.lt
      have hk2 : (k : Int) < (c : Int) := by omega
      have hb := (hs k hk).b
      have hne := h.ne
      have HV := Lib.hid (h.alloc (.cells #[.int .i64 (t.g k), .int .i64 (t.n k)] 57))
      have HK0 := Lib.hid ((Kept.refl (· = r) w).alloc (.cells #[.int .i64 (t.g k), .int .i64 (t.n k)] 57))
      obtain ⟨hl1, hl2⟩ := hl
      unfold isN at h2
      have g1 : ¬ g < 1 := by unfold isG at h1; omega
      have g2 : ¬ 16 < g := by unfold isG at h1; omega
      have m1 : ¬ n < 0 := by omega
      have m2 : ¬ 9007199254740991 < n := by omega
      have h0' : 0 < t.n k := by omega
      have hq : (t.g k != g) = false := by simp [h4']
      have hlim : ¬ t.n k + n ≤ 1024 := by omega
      have hw2 : IntKind.i64.wrap (t.n k + n - 512) = t.n k + n - 512 := IntWalk.i64_in _ (by omega)
      have hw : IntKind.i64.wrap (t.n k + n) = t.n k + n := IntWalk.i64_in _ (by omega)
      have HS := Lib.hid (fun w0 (h0 : SV w0 52 57 B r c t) => rSet h0 hk g 512)
      obtain ⟨P', hP'⟩ : ∃ P', t.put k g 512 = P' := ⟨_, rfl⟩
      rw [hP'] at HS ⊢
      generalize t.g k = G at *
      generalize t.n k = N at *
      clear h hs h1 hP' h0 h4'
      go_enter Try.func20, Try.ntmps20
      go_wp2_with (first | (go_at_call 23; refine (rHasC HA.out _ _ HC.out).mono ?_; rintro e w1 ⟨rfl, rfl⟩) | (go_at_call 27; refine (HS.out _ HV.out).mono ?_; rintro e w4 ⟨rfl, hv4, hk4⟩))
      go_ret3
      exact ⟨rfl, hv4, HK0.out.trans hk4⟩
end
end Go.Proofs.Ythjonjkeaiobdaa
