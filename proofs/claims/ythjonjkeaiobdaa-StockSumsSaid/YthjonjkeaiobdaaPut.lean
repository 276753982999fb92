/-
  replace, Put of the program.
-/
import Derived.Test.YthjonjkeaiobdaaAct
set_option linter.unusedVariables false
set_option linter.unusedSimpArgs false
namespace Go.Proofs.Ythjonjkeaiobdaa
open Go Go.RowKit

/-! two stocks are compared -/
theorem fieldsK : Try.prog.underlying 55 = some (.struct (Try.prog.fieldsOf 55)) := by kernel_rfl
theorem heldK : Try.prog.stoodInHeld 55 = false := by kernel_rfl
theorem guardK : Try.prog.eqGuardType Try.prog.depth 55 = false := by kernel_rfl
theorem fieldsOfK : Try.prog.fieldsOf 55 = #[⟨"group", 3, 0, false, "", "wainscot/stock", 0⟩, ⟨"n", 3, 1, false, "", "wainscot/stock", 8⟩] := by kernel_rfl
theorem eqinK (w : World) (a b a' b' : Int) : (Op.equalIn 10000 55 (.agg #[.int .i64 a, .int .i64 b]) (.agg #[.int .i64 a', .int .i64 b'])).run Try.prog w = .ok (a == a' && b == b') w := by
  rw [show (10000 : Nat) = 9999 + 1 from rfl, run_equalIn_agg _ _ _ _ _ fieldsK heldK, fieldsOfK]
  have e0 : ∀ x y w, (Op.equalIn 9999 3 (.int .i64 x) (.int .i64 y)).run Try.prog w = .ok (x == y) w := fun x y w => run_equalIn_int w 9998 3 .i64 .i64 x y Try.underlying3
  simp [Op.eqFields, go_sem, e0, part]
  by_cases h1 : a = a' <;> by_cases h2 : b = b' <;> simp [h1, h2]
theorem fy_keep2 {w : World} {B r c k : Nat} {G N : Int} (h1 : B ≠ r) (h : Fy w B r c k G N) {a b : Nat} {u v : Value} : ((w.setCell ⟨r, a, none⟩ u).setCell ⟨r, b, none⟩ v).cell? ⟨B, 0, none⟩ = some (.slice (some ⟨r, 0, none⟩) c c) := cell_set2 h1 h.1
section
variable {S : Nat → Prop} {w w' : World} {T E : TypeId} {B r c k D : Nat} {t t' : Sk} {p : Option Addr} {x g n e G N : Int} {Ts : List TypeId}
set_option maxHeartbeats 2000000 in
theorem cReplaceBig (h : 1024 < n) (v x g : Value) : Calls Try.prog 26 #[v, x, g, .int .i64 n] w fun e w' => e = .returned (.tuple #[.int .i64 0, .int .i64 0, .int .i64 2]) ∧ w' = w := by
  go_enter Try.func26, Try.ntmps26
  go_wp2
  go_ret3
  exact ⟨rfl, rfl⟩
set_option maxHeartbeats 4000000 in
set_option maxRecDepth 100000 in
theorem cReplace (h : SV w 48 55 B r c t) {k : Nat} (hk : k < c) (h1 : n ≤ 1024) :
    Calls Try.prog 26 #[.pointer (some ⟨B, 0, none⟩), .int .i64 k, .int .i64 g, .int .i64 n] w fun e w' => e = .returned (.tuple #[.int .i64 (t.g k), .int .i64 (t.n k), .int .i64 0]) ∧ SV w' 48 55 B r c (t.put k g n) ∧ Kept (· = r) w w' := by
  have HA := Lib.hid h
  have h1' : ¬ 1024 < n := by omega
  have hk2 : (k : Int) < (c : Int) := by omega
  have hne := h.ne
  obtain ⟨P', hP'⟩ : ∃ P', t.put k g n = P' := ⟨_, rfl⟩
  have HP : Hid (∀ w0, SV w0 48 55 B r c (t.put k 0 0) → SV ((w0.setCell ⟨r, k * 2, none⟩ (.int .i64 (gOf g n))).setCell ⟨r, k * 2 + 1, none⟩ (.int .i64 n)) 48 55 B r c P') := Lib.hid (fun w0 h0 => by rw [← hP', ← put_put t k 0 0 g n]; exact h0.put hk _ _ _ rfl)
  rw [hP']
  have HD : Hid (DrainIs c t k (t.g k) (t.n k) (t.put k 0 0)) := Lib.hid (.ok k rfl hk)
  generalize t.g k = G at *
  generalize t.n k = N at *
  clear h hP' h1
  go_enter Try.func26, Try.ntmps26
  go_wp2_with fail
  refine (cDrain HA.out HD.out).mono ?_
  rintro e w2 ⟨rfl, hv, hkk⟩
  have HV := Lib.hid hv
  have HK0 := Lib.hid hkk
  have HFX := Lib.hid (hv.fy hk)
  have c0 := hv.c0
  generalize (t.put k 0 0).g k = G2 at HFX
  generalize (t.put k 0 0).n k = N2 at HFX
  clear hv hkk HA HD
  go_wp2
  go_region_held3 (fun W => W.cell? ⟨B, 0, none⟩ = some (.slice (some ⟨r, 0, none⟩) c c))
    (first | exact (HFX.out.below (Below.drew (Below.refl _ _))).1 | exact (HFX.out.below (show Below w2.heap.size w2 _ from by assumption)).1 | exact fy_keep2 hne (HFX.out.below (show Below w2.heap.size w2 _ from by assumption)))
    (first
      | (go_at_call 24; refine (cKeptOf _ _ _).mono ?_; rintro e w3 ⟨rfl, h3⟩; have hb4 : Below w2.heap.size w2 w3 := below_then (Below.drew (Below.refl _ _)) h3; obtain ⟨q0, q1, q2, q3, q4⟩ := HFX.out.below hb4))
  go_wp2
  go_ret3
  exact ⟨rfl, HP.out _ (HV.out.below hb4), kept_two _ _ _ _ _ _ (HK0.out.trans (Kept.ofBelow hb4))⟩
set_option maxHeartbeats 8000000 in
set_option maxRecDepth 100000 in
theorem cPut (h : SV w 48 55 B r c t) (hs : SI c t) {a b e : Int} (hr : PutIs c t x g n a b e t') :
    Calls Try.prog 17 #[.pointer (some ⟨B, 0, none⟩), .int .i64 x, .int .i64 g, .int .i64 n] w fun e' w' => e' = .returned (.tuple #[.int .i64 a, .int .i64 b, .int .i64 e]) ∧ SV w' 48 55 B r c t' ∧ Kept (· = r) w w' := by
  have HA := Lib.hid h
  cases hr with
  | bad hq =>
    obtain ⟨q, hq2⟩ : ∃ q, askE c x g n = q := ⟨_, rfl⟩
    rw [hq2] at hq ⊢
    have hne : (q != 0) = true := by simp [hq]
    have HC := Lib.hid hq2
    clear h hq hq2 hs
    go_enter Try.func17, Try.ntmps17
    go_wp2_with (go_at_call 25; refine (cCheck HA.out _ _ _ _ HC.out).mono ?_; rintro e w1 ⟨rfl, rfl⟩)
    go_ret3
    exact ⟨rfl, HA.out, Kept.refl _ _⟩
  | big k hx hk h1 h2 h0 hg h3 =>
    subst hx
    have hask : askE c k g n = 0 := by simp [askE, isC.of hk, h1, h2]
    have HC := Lib.hid hask
    have c0 := h.c0
    have cg := h.cg hk
    have cn := h.cn hk
    have hl := h.lt
    have hk2 : (k : Int) < (c : Int) := by omega
    have hb := (hs k hk).b
    have hok := hs k hk
    have hgd := guardK
    have hne := h.ne
    have HFX := Lib.hid (h.fx hk 55)
    have HV := Lib.hid (h.alloc (.cells #[.int .i64 (t.g k), .int .i64 (t.n k)] 55))
    have HK0 := Lib.hid ((Kept.refl (· = r) w).alloc (.cells #[.int .i64 (t.g k), .int .i64 (t.n k)] 55))
    obtain ⟨hl1, hl2⟩ := hl
    have hDr : w.heap.size ≠ r := by omega
    unfold isN at h2
    have heq : ∀ w', (Op.equalIn 10000 55 (.agg #[.int .i64 (t.g k), .int .i64 (t.n k)]) (.agg #[.int .i64 0, .int .i64 0])).run Try.prog w' = .ok false w' := fun w' => by rw [eqinK, show (t.n k == 0) = false by simp; omega, Bool.and_false]
    have hq : (t.g k != g) = true := by simp [hg]
    generalize t.g k = G at *
    generalize t.n k = N at *
    clear h hs hg hask hok h1
    go_enter Try.func17, Try.ntmps17
    go_wp2_with (first | (go_at_call 25; refine (cCheck HA.out _ _ _ _ HC.out).mono ?_; rintro e w1 ⟨rfl, rfl⟩) | (go_at_call 26; refine (cReplaceBig h3 _ _ _).mono ?_; rintro e w4 ⟨rfl, rfl⟩))
    go_ret3
    exact ⟨rfl, HV.out, HK0.out⟩
  | swap k hx hk h1 h2 h0 hg h3 =>
    subst hx
    have hask : askE c k g n = 0 := by simp [askE, isC.of hk, h1, h2]
    have HC := Lib.hid hask
    have c0 := h.c0
    have cg := h.cg hk
    have cn := h.cn hk
    have hl := h.lt
    have hk2 : (k : Int) < (c : Int) := by omega
    have hb := (hs k hk).b
    have hok := hs k hk
    have hgd := guardK
    have hne := h.ne
    have HFX := Lib.hid (h.fx hk 55)
    have HV := Lib.hid (h.alloc (.cells #[.int .i64 (t.g k), .int .i64 (t.n k)] 55))
    have HK0 := Lib.hid ((Kept.refl (· = r) w).alloc (.cells #[.int .i64 (t.g k), .int .i64 (t.n k)] 55))
    obtain ⟨hl1, hl2⟩ := hl
    have hDr : w.heap.size ≠ r := by omega
    unfold isN at h2
    have heq : ∀ w', (Op.equalIn 10000 55 (.agg #[.int .i64 (t.g k), .int .i64 (t.n k)]) (.agg #[.int .i64 0, .int .i64 0])).run Try.prog w' = .ok false w' := fun w' => by rw [eqinK, show (t.n k == 0) = false by simp; omega, Bool.and_false]
    have hq : (t.g k != g) = true := by simp [hg]
    have HR := Lib.hid (fun w0 (h0 : SV w0 48 55 B r c t) => cReplace (g := g) h0 hk h3)
    generalize t.g k = G at *
    generalize t.n k = N at *
    clear h hs hg hask hok h1
    go_enter Try.func17, Try.ntmps17
    go_wp2_with (first | (go_at_call 25; refine (cCheck HA.out _ _ _ _ HC.out).mono ?_; rintro e w1 ⟨rfl, rfl⟩) | (go_at_call 26; refine (HR.out _ HV.out).mono ?_; rintro e w4 ⟨rfl, hv4, hk4⟩))
    go_ret3
    exact ⟨rfl, hv4, HK0.out.trans hk4⟩
  | fits k hx hk h1 h2 h0 h3 =>
    by_cases h4 : t.n k = 0
    · subst hx
      have hask : askE c k g n = 0 := by simp [askE, isC.of hk, h1, h2]
      have HC := Lib.hid hask
      have c0 := h.c0
      have cg := h.cg hk
      have cn := h.cn hk
      have hl := h.lt
      have hk2 : (k : Int) < (c : Int) := by omega
      have hb := (hs k hk).b
      have hok := hs k hk
      have hgd := guardK
      have hne := h.ne
      have HFX := Lib.hid (h.fx hk 55)
      have HV := Lib.hid (h.alloc (.cells #[.int .i64 (t.g k), .int .i64 (t.n k)] 55))
      have HK0 := Lib.hid ((Kept.refl (· = r) w).alloc (.cells #[.int .i64 (t.g k), .int .i64 (t.n k)] 55))
      obtain ⟨hl1, hl2⟩ := hl
      have hDr : w.heap.size ≠ r := by omega
      unfold isN at h2
      have heq : ∀ w', (Op.equalIn 10000 55 (.agg #[.int .i64 (t.g k), .int .i64 (t.n k)]) (.agg #[.int .i64 0, .int .i64 0])).run Try.prog w' = .ok true w' := fun w' => by rw [eqinK, show (t.n k == 0) = true by simp; omega, show (t.g k == 0) = true by simp; unfold okS at hok; omega, Bool.and_self]
      have hlim : ¬ 1024 < t.n k + n := by omega
      have hw : IntKind.i64.wrap (t.n k + n) = t.n k + n := IntWalk.i64_in _ (by omega)
      obtain ⟨P', hP'⟩ : ∃ P', t.put k g (t.n k + n) = P' := ⟨_, rfl⟩
      have HP : Hid (∀ w0, SV w0 48 55 B r c t → SV ((w0.setCell ⟨r, k * 2, none⟩ (.int .i64 (gOf g (t.n k + n)))).setCell ⟨r, k * 2 + 1, none⟩ (.int .i64 (t.n k + n))) 48 55 B r c P') := Lib.hid (fun w0 h0 => by rw [← hP']; exact h0.put hk _ _ _ rfl)
      rw [hP']
      generalize t.g k = G at *
      generalize t.n k = N at *
      clear h hs hask hok h1 hP' h0 h4
      go_enter Try.func17, Try.ntmps17
      go_wp2_with (go_at_call 25; refine (cCheck HA.out _ _ _ _ HC.out).mono ?_; rintro e w1 ⟨rfl, rfl⟩)
      obtain ⟨w2, hw2'⟩ : ∃ w2, w1.alloc (.cells #[.int .i64 G, .int .i64 N] 55) = w2 := ⟨_, rfl⟩
      rw [hw2'] at HFX HV HK0 ⊢
      obtain ⟨D, hD⟩ : ∃ D, w1.heap.size = D := ⟨_, rfl⟩
      rw [hD] at HFX hDr ⊢
      clear hw2' hD c0 cg cn hl1 hl2 HA
      go_region_held3 (fun W => W.cell? ⟨B, 0, none⟩ = some (.slice (some ⟨r, 0, none⟩) c c) ∧ W.cell? ⟨D, 1, none⟩ = some (.int .i64 N))
        (first | exact fx_keep (HFX.out.below (Below.drew (Below.refl _ _))) | exact fx_keep (HFX.out.below (show Below w2.heap.size w2 _ from by assumption)) | exact fx_keep2 hne hDr (HFX.out.below (show Below w2.heap.size w2 _ from by assumption)))
        (first
          | (go_at_call 24; refine (cKeptOf _ _ _).mono ?_; rintro e w3 ⟨rfl, h3⟩; have hb4 : Below w2.heap.size w2 w3 := below_then (Below.drew (Below.refl _ _)) h3; obtain ⟨q0, q1, q2, q3, q4, q5, q6⟩ := HFX.out.below hb4))
      go_wp2
      go_ret3
      exact ⟨rfl, HP.out _ (HV.out.below hb4), kept_two _ _ _ _ _ _ (HK0.out.trans (Kept.ofBelow hb4))⟩
    · have h4' := h0.resolve_left h4
      subst hx
      have hask : askE c k g n = 0 := by simp [askE, isC.of hk, h1, h2]
      have HC := Lib.hid hask
      have c0 := h.c0
      have cg := h.cg hk
      have cn := h.cn hk
      have hl := h.lt
      have hk2 : (k : Int) < (c : Int) := by omega
      have hb := (hs k hk).b
      have hok := hs k hk
      have hgd := guardK
      have hne := h.ne
      have HFX := Lib.hid (h.fx hk 55)
      have HV := Lib.hid (h.alloc (.cells #[.int .i64 (t.g k), .int .i64 (t.n k)] 55))
      have HK0 := Lib.hid ((Kept.refl (· = r) w).alloc (.cells #[.int .i64 (t.g k), .int .i64 (t.n k)] 55))
      obtain ⟨hl1, hl2⟩ := hl
      have hDr : w.heap.size ≠ r := by omega
      unfold isN at h2
      have heq : ∀ w', (Op.equalIn 10000 55 (.agg #[.int .i64 (t.g k), .int .i64 (t.n k)]) (.agg #[.int .i64 0, .int .i64 0])).run Try.prog w' = .ok false w' := fun w' => by rw [eqinK, show (t.n k == 0) = false by simp; omega, Bool.and_false]
      have hq : (t.g k != g) = false := by simp [h4']
      have hlim : ¬ 1024 < t.n k + n := by omega
      have hw : IntKind.i64.wrap (t.n k + n) = t.n k + n := IntWalk.i64_in _ (by omega)
      obtain ⟨P', hP'⟩ : ∃ P', t.put k g (t.n k + n) = P' := ⟨_, rfl⟩
      have HP : Hid (∀ w0, SV w0 48 55 B r c t → SV ((w0.setCell ⟨r, k * 2, none⟩ (.int .i64 (gOf g (t.n k + n)))).setCell ⟨r, k * 2 + 1, none⟩ (.int .i64 (t.n k + n))) 48 55 B r c P') := Lib.hid (fun w0 h0 => by rw [← hP']; exact h0.put hk _ _ _ rfl)
      rw [hP']
      generalize t.g k = G at *
      generalize t.n k = N at *
      clear h hs hask hok h1 hP' h0 h4'
      go_enter Try.func17, Try.ntmps17
      go_wp2_with (go_at_call 25; refine (cCheck HA.out _ _ _ _ HC.out).mono ?_; rintro e w1 ⟨rfl, rfl⟩)
      obtain ⟨w2, hw2'⟩ : ∃ w2, w1.alloc (.cells #[.int .i64 G, .int .i64 N] 55) = w2 := ⟨_, rfl⟩
      rw [hw2'] at HFX HV HK0 ⊢
      obtain ⟨D, hD⟩ : ∃ D, w1.heap.size = D := ⟨_, rfl⟩
      rw [hD] at HFX hDr ⊢
      clear hw2' hD c0 cg cn hl1 hl2 HA
      go_region_held3 (fun W => W.cell? ⟨B, 0, none⟩ = some (.slice (some ⟨r, 0, none⟩) c c) ∧ W.cell? ⟨D, 1, none⟩ = some (.int .i64 N))
        (first | exact fx_keep (HFX.out.below (Below.drew (Below.refl _ _))) | exact fx_keep (HFX.out.below (show Below w2.heap.size w2 _ from by assumption)) | exact fx_keep2 hne hDr (HFX.out.below (show Below w2.heap.size w2 _ from by assumption)))
        (first
          | (go_at_call 24; refine (cKeptOf _ _ _).mono ?_; rintro e w3 ⟨rfl, h3⟩; have hb4 : Below w2.heap.size w2 w3 := below_then (Below.drew (Below.refl _ _)) h3; obtain ⟨q0, q1, q2, q3, q4, q5, q6⟩ := HFX.out.below hb4))
      go_wp2
      go_ret3
      exact ⟨rfl, HP.out _ (HV.out.below hb4), kept_two _ _ _ _ _ _ (HK0.out.trans (Kept.ofBelow hb4))⟩
  | over k hx hk h1 h2 h0 h3 =>
    by_cases h4 : t.n k = 0
    · subst hx
      have hask : askE c k g n = 0 := by simp [askE, isC.of hk, h1, h2]
      have HC := Lib.hid hask
      have c0 := h.c0
      have cg := h.cg hk
      have cn := h.cn hk
      have hl := h.lt
      have hk2 : (k : Int) < (c : Int) := by omega
      have hb := (hs k hk).b
      have hok := hs k hk
      have hgd := guardK
      have hne := h.ne
      have HFX := Lib.hid (h.fx hk 55)
      have HV := Lib.hid (h.alloc (.cells #[.int .i64 (t.g k), .int .i64 (t.n k)] 55))
      have HK0 := Lib.hid ((Kept.refl (· = r) w).alloc (.cells #[.int .i64 (t.g k), .int .i64 (t.n k)] 55))
      obtain ⟨hl1, hl2⟩ := hl
      have hDr : w.heap.size ≠ r := by omega
      unfold isN at h2
      have heq : ∀ w', (Op.equalIn 10000 55 (.agg #[.int .i64 (t.g k), .int .i64 (t.n k)]) (.agg #[.int .i64 0, .int .i64 0])).run Try.prog w' = .ok true w' := fun w' => by rw [eqinK, show (t.n k == 0) = true by simp; omega, show (t.g k == 0) = true by simp; unfold okS at hok; omega, Bool.and_self]
      have hw2 : IntKind.i64.wrap (t.n k + n - 512) = t.n k + n - 512 := IntWalk.i64_in _ (by omega)
      have hw : IntKind.i64.wrap (t.n k + n) = t.n k + n := IntWalk.i64_in _ (by omega)
      obtain ⟨P', hP'⟩ : ∃ P', t.put k g 512 = P' := ⟨_, rfl⟩
      have HP : Hid (∀ w0, SV w0 48 55 B r c t → SV ((w0.setCell ⟨r, k * 2, none⟩ (.int .i64 (gOf g 512))).setCell ⟨r, k * 2 + 1, none⟩ (.int .i64 512)) 48 55 B r c P') := Lib.hid (fun w0 h0 => by rw [← hP']; exact h0.put hk _ _ _ rfl)
      rw [hP']
      generalize t.g k = G at *
      generalize t.n k = N at *
      clear h hs hask hok h1 hP' h0 h4
      go_enter Try.func17, Try.ntmps17
      go_wp2_with (go_at_call 25; refine (cCheck HA.out _ _ _ _ HC.out).mono ?_; rintro e w1 ⟨rfl, rfl⟩)
      obtain ⟨w2, hw2'⟩ : ∃ w2, w1.alloc (.cells #[.int .i64 G, .int .i64 N] 55) = w2 := ⟨_, rfl⟩
      rw [hw2'] at HFX HV HK0 ⊢
      obtain ⟨D, hD⟩ : ∃ D, w1.heap.size = D := ⟨_, rfl⟩
      rw [hD] at HFX hDr ⊢
      clear hw2' hD c0 cg cn hl1 hl2 HA
      go_region_held3 (fun W => W.cell? ⟨B, 0, none⟩ = some (.slice (some ⟨r, 0, none⟩) c c) ∧ W.cell? ⟨D, 1, none⟩ = some (.int .i64 N))
        (first | exact fx_keep (HFX.out.below (Below.drew (Below.refl _ _))) | exact fx_keep (HFX.out.below (show Below w2.heap.size w2 _ from by assumption)) | exact fx_keep2 hne hDr (HFX.out.below (show Below w2.heap.size w2 _ from by assumption)))
        (first
          | (go_at_call 24; refine (cKeptOf _ _ _).mono ?_; rintro e w3 ⟨rfl, h3⟩; have hb4 : Below w2.heap.size w2 w3 := below_then (Below.drew (Below.refl _ _)) h3; obtain ⟨q0, q1, q2, q3, q4, q5, q6⟩ := HFX.out.below hb4))
      go_wp2
      go_ret3
      exact ⟨rfl, HP.out _ (HV.out.below hb4), kept_two _ _ _ _ _ _ (HK0.out.trans (Kept.ofBelow hb4))⟩
    · have h4' := h0.resolve_left h4
      subst hx
      have hask : askE c k g n = 0 := by simp [askE, isC.of hk, h1, h2]
      have HC := Lib.hid hask
      have c0 := h.c0
      have cg := h.cg hk
      have cn := h.cn hk
      have hl := h.lt
      have hk2 : (k : Int) < (c : Int) := by omega
      have hb := (hs k hk).b
      have hok := hs k hk
      have hgd := guardK
      have hne := h.ne
      have HFX := Lib.hid (h.fx hk 55)
      have HV := Lib.hid (h.alloc (.cells #[.int .i64 (t.g k), .int .i64 (t.n k)] 55))
      have HK0 := Lib.hid ((Kept.refl (· = r) w).alloc (.cells #[.int .i64 (t.g k), .int .i64 (t.n k)] 55))
      obtain ⟨hl1, hl2⟩ := hl
      have hDr : w.heap.size ≠ r := by omega
      unfold isN at h2
      have heq : ∀ w', (Op.equalIn 10000 55 (.agg #[.int .i64 (t.g k), .int .i64 (t.n k)]) (.agg #[.int .i64 0, .int .i64 0])).run Try.prog w' = .ok false w' := fun w' => by rw [eqinK, show (t.n k == 0) = false by simp; omega, Bool.and_false]
      have hq : (t.g k != g) = false := by simp [h4']
      have hw2 : IntKind.i64.wrap (t.n k + n - 512) = t.n k + n - 512 := IntWalk.i64_in _ (by omega)
      have hw : IntKind.i64.wrap (t.n k + n) = t.n k + n := IntWalk.i64_in _ (by omega)
      obtain ⟨P', hP'⟩ : ∃ P', t.put k g 512 = P' := ⟨_, rfl⟩
      have HP : Hid (∀ w0, SV w0 48 55 B r c t → SV ((w0.setCell ⟨r, k * 2, none⟩ (.int .i64 (gOf g 512))).setCell ⟨r, k * 2 + 1, none⟩ (.int .i64 512)) 48 55 B r c P') := Lib.hid (fun w0 h0 => by rw [← hP']; exact h0.put hk _ _ _ rfl)
      rw [hP']
      generalize t.g k = G at *
      generalize t.n k = N at *
      clear h hs hask hok h1 hP' h0 h4'
      go_enter Try.func17, Try.ntmps17
      go_wp2_with (go_at_call 25; refine (cCheck HA.out _ _ _ _ HC.out).mono ?_; rintro e w1 ⟨rfl, rfl⟩)
      obtain ⟨w2, hw2'⟩ : ∃ w2, w1.alloc (.cells #[.int .i64 G, .int .i64 N] 55) = w2 := ⟨_, rfl⟩
      rw [hw2'] at HFX HV HK0 ⊢
      obtain ⟨D, hD⟩ : ∃ D, w1.heap.size = D := ⟨_, rfl⟩
      rw [hD] at HFX hDr ⊢
      clear hw2' hD c0 cg cn hl1 hl2 HA
      go_region_held3 (fun W => W.cell? ⟨B, 0, none⟩ = some (.slice (some ⟨r, 0, none⟩) c c) ∧ W.cell? ⟨D, 1, none⟩ = some (.int .i64 N))
        (first | exact fx_keep (HFX.out.below (Below.drew (Below.refl _ _))) | exact fx_keep (HFX.out.below (show Below w2.heap.size w2 _ from by assumption)) | exact fx_keep2 hne hDr (HFX.out.below (show Below w2.heap.size w2 _ from by assumption)))
        (first
          | (go_at_call 24; refine (cKeptOf _ _ _).mono ?_; rintro e w3 ⟨rfl, h3⟩; have hb4 : Below w2.heap.size w2 w3 := below_then (Below.drew (Below.refl _ _)) h3; obtain ⟨q0, q1, q2, q3, q4, q5, q6⟩ := HFX.out.below hb4))
      go_wp2
      go_ret3
      exact ⟨rfl, HP.out _ (HV.out.below hb4), kept_two _ _ _ _ _ _ (HK0.out.trans (Kept.ofBelow hb4))⟩
end
end Go.Proofs.Ythjonjkeaiobdaa
