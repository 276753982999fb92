/-
  Heir, Below, New, Add, Offline of the document's answer.
-/
import Derived.Test.YtbdlkglngjjpjaaRt
set_option linter.unusedVariables false
set_option linter.unusedSimpArgs false
namespace Go.Proofs.Ytbdlkglngjjpjaa
open Go Go.RowKit

section
variable {S : Nat → Prop} {w w' w1 : World} {B g1 c1 n1 g2 c2 n2 g c n p : Nat} {f1 f2 f : Nat → Value} {t t' : Tr} {x y a er : Int}
theorem nu_up (hI : TI t) {k : Nat} (hk : 1 ≤ k ∧ k ≤ t.n) : nu t.n ((t.up k : Nat) : Int) = t.up k := by
  have h2 := hI.up_lt hk.1 hk.2
  by_cases e : t.up k = 0
  · rw [e, nu_nat0]
  · rw [nu_yes (by omega)]
set_option maxHeartbeats 2000000 in
set_option maxRecDepth 100000 in
theorem rHeir (h : RT w B g1 c1 g2 c2 t) (hI : TI t) {q : Nat} (hq : heir t (nu t.n x) = q) :
    Calls Try.prog 32 #[.pointer (some ⟨B, 0, none⟩), .int .i64 x] w fun e w' => e = .returned (.int .i64 q) ∧ w' = w := by
  have HA := Lib.hid h
  have HI := Lib.hid hI
  have HQ := Lib.hid hq
  clear h hI hq
  go_enter Try.func32, Try.ntmps32
  go_wp2
  go_loopw [1] (fun i wr => ∃ (y : Int), i = .int .i64 y ∧ Hid (heir t (nu t.n y) = q) ∧ wr = w) (fun i _ => nu t.n (intOf i))
  case atStart => exact ⟨x, rfl, HQ, rfl⟩
  case round =>
    obtain ⟨y, rfl, HP, rfl⟩ := hrel
    rcases nu_is t.n y with ⟨k, hk, rfl, hny⟩ | ⟨hx, hny⟩
    · have HK := Lib.hid hk
      have c0 := RX.c0 HA.out
      have cc1 := RX.cc1 HA.out
      have cu := HA.out.cu hk.2
      have co := HA.out.co hk.2
      have hkn : k < t.n + 1 := by omega
      obtain ⟨o, ho⟩ : ∃ o, t.on k = o := ⟨_, rfl⟩
      have HO := Lib.hid ho
      rw [ho] at co
      have HNY := Lib.hid hny
      have HU := Lib.hid (nu_up HI.out hk)
      obtain ⟨M, hM⟩ : ∃ M, t.n + 1 = M := ⟨_, rfl⟩
      rw [hM] at c0 cc1 hkn
      clear hk hny ho hM
      cases o
      · have HN : Hid (heir t (nu t.n ((t.up k : Nat) : Int)) = q) := Lib.hid (by rw [HU.out, ← HP.out, HNY.out, heir_off HI.out HK.out.1 HK.out.2 HO.out])
        have HM : Hid (nu t.n ((t.up k : Nat) : Int) < nu t.n ((k : Nat) : Int)) := Lib.hid (by rw [HU.out, HNY.out]; exact HI.out.up_lt HK.out.1 HK.out.2)
        go_wp2_with fail
        refine (rHasYes HA.out k HK.out).mono ?_
        rintro e w1 ⟨rfl, rfl⟩
        go_wp2
        go_roundw
        case rel => exact ⟨_, rfl, HN, by trivial⟩
        case measure =>
          simp only [intOf]
          exact HM.out
      · have HE : Hid ((k : Int) = q) := Lib.hid (by rw [← HP.out, HNY.out, heir_on HI.out HK.out.1 HK.out.2 HO.out])
        go_wp2_with fail
        refine (rHasYes HA.out k HK.out).mono ?_
        rintro e w1 ⟨rfl, rfl⟩
        go_wp2_with fail
        refine (rHasYes HA.out k HK.out).mono ?_
        rintro e w1 ⟨rfl, rfl⟩
        go_wp2
        go_ret
        exact ⟨ret_int HE.out, rfl⟩
    · have HE : Hid (0 = q) := Lib.hid (by rw [← HP.out, hny]; rfl)
      clear hny
      go_wp2_with fail
      refine (rHasNo HA.out y hx).mono ?_
      rintro e w1 ⟨rfl, rfl⟩
      go_wp2_with fail
      refine (rHasNo HA.out y hx).mono ?_
      rintro e w1 ⟨rfl, rfl⟩
      go_wp2
      go_ret
      exact ⟨ret_int (by rw [← HE.out]; rfl), rfl⟩
theorem mem_step {l : List Int} {j : Nat} {y : Int} (h : j < l.length) (hn : y ∉ l.take j) (hne : pk l j ≠ y) : y ∉ l.take (j + 1) := by
  rw [List.take_succ_eq_append_getElem h, pk_at l j h]
  intro e
  rcases List.mem_append.1 e with e | e
  · exact hn e
  · exact hne (List.mem_singleton.1 e).symm
set_option maxHeartbeats 2000000 in
set_option maxRecDepth 100000 in
theorem rBelow (h : RT w B g1 c1 g2 c2 t) (hI : TI t) {q : Bool} (hq : belowF t x y = q) :
    Calls Try.prog 35 #[.pointer (some ⟨B, 0, none⟩), .int .i64 x, .int .i64 y] w fun e w' => e = .returned (.bool q) ∧ Below w.heap.size w w' := by
  have HA := Lib.hid h
  have HI := Lib.hid hI
  obtain ⟨l, hl⟩ : ∃ l, ints (path t (nu t.n x)) = l := ⟨_, rfl⟩
  have HL := Lib.hid hl
  have HQ : Hid (decide (y ∈ l) = q) := Lib.hid (by rw [← hl]; exact hq)
  clear h hI hl hq
  go_enter Try.func35, Try.ntmps35
  go_wp2_with fail
  refine (rPath HA.out HI.out HL.out).mono ?_
  rintro e w1 ⟨ao, cap, rfl, hown, hb⟩
  obtain ⟨ao', cap', e, hcap, hat⟩ := hown.shows.form
  cases e
  have HAT := Lib.hid hat
  clear hown hat
  go_wp2
  go_loopw [8] (fun i wr => ∃ j : Nat, j ≤ l.length ∧ i = .int .i64 j ∧ wr = w1 ∧ Hid (y ∉ l.take j)) (fun i _ => l.length - (intOf i).toNat)
  case atStart => exact ⟨0, Nat.zero_le _, rfl, rfl, Lib.hid (by simp)⟩
  case round =>
    obtain ⟨j, hj, rfl, rfl, HN⟩ := hrel
    by_cases hlt : j < l.length
    · obtain ⟨b, o, rfl, hc⟩ := HAT.out j hlt
      have HS := Lib.hid (fun hne => mem_step hlt HN.out hne)
      have HM : Hid (pk l j = y → y ∈ l) := Lib.hid (fun e => by rw [← e, ← pk_at l j hlt]; exact List.getElem_mem _)
      generalize pk l j = z at hc HS HM
      by_cases hzy : z = y
      · have heq : (z == y) = true := by simpa using hzy
        have HE : Hid (true = q) := Lib.hid (by rw [← HQ.out, decide_eq_true (HM.out hzy)])
        clear hzy HS HM
        go_wp2
        go_ret
        exact ⟨ret_bool HE.out, hb⟩
      · have heq : (z == y) = false := by simpa using hzy
        have HE := Lib.hid (HS.out hzy)
        clear hzy HS HM
        go_wp2
        go_roundw
        case rel => exact ⟨j + 1, by omega, by go_num, by trivial, HE⟩
        case measure => simp [intOf]; omega
    · have HE : Hid (false = q) := Lib.hid (by
        rw [← HQ.out]
        have h1 := HN.out
        rw [List.take_of_length_le (by omega)] at h1
        exact (decide_eq_false h1).symm)
      go_wp2
      go_ret
      exact ⟨ret_bool HE.out, hb⟩
theorem RX.neB (h : RX w B g1 c1 n1 f1 g2 c2 n2 f2) : B ≠ g1 ∧ B ≠ g2 ∧ g1 ≠ g2 := by
  obtain ⟨cur, h2, _⟩ := h.ups.block
  obtain ⟨cur', h3, _⟩ := h.ons.block
  refine ⟨?_, ?_, ?_⟩
  · rintro rfl
    rw [h.box] at h2
    cases h2
  · rintro rfl
    rw [h.box] at h3
    cases h3
  · rintro rfl
    rw [h2] at h3
    cases h3
theorem RX.grown0 {o : Obj} {g' c' n' : Nat} {f' : Nat → Value} (h : RX w B g1 c1 n1 f1 g2 c2 n2 f2) (hg : (w.alloc o).grownBy w1 (some g1)) (hr : RowF w1 3 1 g' c' n' f') :
    w1.heap[B]? = some (.cells #[.slice (some ⟨g1, 0, none⟩) n1 c1, .slice (some ⟨g2, 0, none⟩) n2 c2] 54 (0, 0)) ∧
    RX (w1.setCell ⟨B, 0, none⟩ (.slice (some ⟨g', 0, none⟩) n' c')) B g' c' n' f' g2 c2 n2 f2 ∧ Kept (fun k => k = B ∨ k = g1) w (w1.setCell ⟨B, 0, none⟩ (.slice (some ⟨g', 0, none⟩) n' c')) := by
  have hk0 : Kept (· = g1) w w1 := by
    refine ⟨hg.os, hg.tape, hg.output, ?_, fun k hk hn => ?_⟩
    · have := hg.size
      rw [size_alloc] at this
      omega
    · exact (hg.block k (by rw [size_alloc]; omega) (fun e => hn (by cases e; rfl))).trans (Below.heap_alloc _ _ _ hk)
  have ht : ∀ k, k = g1 → Typ w [3] k := fun k e => by subst e; exact h.ups.typ (by simp)
  have hb1 := box_kept h.box hk0 ht (by decide)
  have hk1 : Kept (· = B) w1 (w1.setCell ⟨B, 0, none⟩ (.slice (some ⟨g', 0, none⟩) n' c')) := Kept.setCell (S := (· = B)) (p := ⟨B, 0, none⟩) (Kept.refl _ _) rfl _
  have ht1 : ∀ k, k = B → Typ w1 [54] k := fun k e => by subst e; exact ⟨_, _, _, hb1, by simp⟩
  refine ⟨hb1, ⟨cells_set hb1 0 _, hr.kept hk1 ht1 (by decide), (h.ons.kept hk0 ht (by decide)).kept hk1 ht1 (by decide)⟩, (hk0.mono fun k e => .inr e).trans (hk1.mono fun k e => .inl e)⟩
theorem RX.grown1 {o : Obj} {g' c' n' : Nat} {f' : Nat → Value} (h : RX w B g1 c1 n1 f1 g2 c2 n2 f2) (hg : (w.alloc o).grownBy w1 (some g2)) (hr : RowF w1 4 1 g' c' n' f') :
    w1.heap[B]? = some (.cells #[.slice (some ⟨g1, 0, none⟩) n1 c1, .slice (some ⟨g2, 0, none⟩) n2 c2] 54 (0, 0)) ∧
    RX (w1.setCell ⟨B, 1, none⟩ (.slice (some ⟨g', 0, none⟩) n' c')) B g1 c1 n1 f1 g' c' n' f' ∧ Kept (fun k => k = B ∨ k = g2) w (w1.setCell ⟨B, 1, none⟩ (.slice (some ⟨g', 0, none⟩) n' c')) := by
  have hk0 : Kept (· = g2) w w1 := by
    refine ⟨hg.os, hg.tape, hg.output, ?_, fun k hk hn => ?_⟩
    · have := hg.size
      rw [size_alloc] at this
      omega
    · exact (hg.block k (by rw [size_alloc]; omega) (fun e => hn (by cases e; rfl))).trans (Below.heap_alloc _ _ _ hk)
  have ht : ∀ k, k = g2 → Typ w [4] k := fun k e => by subst e; exact h.ons.typ (by simp)
  have hb1 := box_kept h.box hk0 ht (by decide)
  have hk1 : Kept (· = B) w1 (w1.setCell ⟨B, 1, none⟩ (.slice (some ⟨g', 0, none⟩) n' c')) := Kept.setCell (S := (· = B)) (p := ⟨B, 1, none⟩) (Kept.refl _ _) rfl _
  have ht1 : ∀ k, k = B → Typ w1 [54] k := fun k e => by subst e; exact ⟨_, _, _, hb1, by simp⟩
  refine ⟨hb1, ⟨cells_set hb1 1 _, (h.ups.kept hk0 ht (by decide)).kept hk1 ht1 (by decide), hr.kept hk1 ht1 (by decide)⟩, (hk0.mono fun k e => .inr e).trans (hk1.mono fun k e => .inl e)⟩
theorem ups_more (t : Tr) (p : Nat) : (∀ j, j < (t.n + 1) * 1 → upF (t.add p) j = upF t j) ∧ ∀ i, i < 1 → [Value.int .i64 (p : Int)][i]? = some (upF (t.add p) ((t.n + 1) * 1 + i)) := by
  refine ⟨fun j hj => ?_, fun i hi => ?_⟩
  · unfold upF
    rw [add_up (by omega)]
  · obtain rfl : i = 0 := by omega
    unfold upF
    rw [Nat.mul_one, Nat.add_zero, add_up_new]
    rfl
theorem ons_more (t : Tr) (p : Nat) : (∀ j, j < (t.n + 1) * 1 → onF (t.add p) j = onF t j) ∧ ∀ i, i < 1 → [Value.bool true][i]? = some (onF (t.add p) ((t.n + 1) * 1 + i)) := by
  refine ⟨fun j hj => ?_, fun i hi => ?_⟩
  · unfold onF
    rw [add_on (by omega)]
  · obtain rfl : i = 0 := by omega
    unfold onF
    rw [Nat.mul_one, Nat.add_zero, add_on_new]
    rfl
theorem infoB : (Try.prog.info? 4).map (fun i => (i.zero, i.size, i.bytes)) = some (some (.bool false), 1, 1) := by kernel_rfl
set_option maxHeartbeats 1000000 in
theorem rNew (w : World) : Calls Try.prog 9 #[] w fun e w' => ∃ B g1 c1 g2 c2, e = .returned (.pointer (some ⟨B, 0, none⟩)) ∧ RT w' B g1 c1 g2 c2 noT ∧ Below w.heap.size w w' ∧ w.heap.size ≤ B ∧ w.heap.size ≤ g1 ∧ w.heap.size ≤ g2 := by
  have hr1 := RowF.lit w 3 1 2 #[.int .i64 0, .int .i64 0] (upF noT) rfl (by decide) rfl
  have hr2 := RowF.lit (w.alloc (.cells #[.int .i64 0, .int .i64 0] 3)) 4 1 2 #[.bool false, .bool true] (onF noT) rfl (by decide) rfl
  rw [size_alloc] at hr2
  have H := Lib.hid (And.intro hr1 hr2)
  clear hr1 hr2
  go_enter Try.func9, Try.ntmps9
  go_wp2
  go_ret
  have e2 : ((w.alloc (.cells #[.int .i64 0, .int .i64 0] 3)).alloc (.cells #[.bool false, .bool true] 4)).heap.size = w.heap.size + 2 := by simp
  refine ⟨w.heap.size + 2, w.heap.size, 2, w.heap.size + 1, 2, rfl, ⟨?_, own_below (own_below H.out.1 (below_one (Below.refl _ _) _)) (below_one (Below.refl _ _) _), own_below H.out.2 (below_one (Below.refl _ _) _)⟩, below_one (below_one (below_one (Below.refl _ _) _) _) _, by omega, Nat.le_refl _, by omega⟩
  rw [← e2]
  exact heap_new _ _
set_option maxHeartbeats 4000000 in
set_option maxRecDepth 100000 in
theorem rAdd (h : RT w B g1 c1 g2 c2 t) (hI : TI t) (hr : AddIs t x a er t') :
    Calls Try.prog 12 #[.pointer (some ⟨B, 0, none⟩), .int .i64 x] w fun e w' => ∃ g1' c1' g2' c2', e = .returned (.tuple #[.int .i64 a, .int .i64 er]) ∧ RT w' B g1' c1' g2' c2' t' ∧ Kept (OwnR B g1 g2) w w' ∧ (g1' = g1 ∨ w.heap.size ≤ g1') ∧ (g2' = g2 ∨ w.heap.size ≤ g2') := by
  have HA := Lib.hid h
  have HI := Lib.hid hI
  cases hr with
  | no ho =>
    rcases nu_is t.n x with ⟨k, hk, rfl, hn⟩ | ⟨hx, hn⟩
    · have HK := Lib.hid hk
      have cc1 := RX.cc1 h
      have co := h.co hk.2
      rw [hn] at ho
      rw [ho] at co
      have hkn : k < t.n + 1 := by omega
      obtain ⟨M, hM⟩ : ∃ M, t.n + 1 = M := ⟨_, rfl⟩
      rw [hM] at cc1 hkn
      clear h hI ho hk hn hM
      go_enter Try.func12, Try.ntmps12
      go_wp2_with fail
      refine (rHasYes HA.out k HK.out).mono ?_
      rintro e w1 ⟨rfl, rfl⟩
      go_wp2
      go_ret2
      exact ⟨_, _, _, _, rfl, HA.out, Kept.refl _ _, .inl rfl, .inl rfl⟩
    · clear h hI ho hn
      go_enter Try.func12, Try.ntmps12
      go_wp2_with fail
      refine (rHasNo HA.out x hx).mono ?_
      rintro e w1 ⟨rfl, rfl⟩
      go_wp2
      go_ret2
      exact ⟨_, _, _, _, rfl, HA.out, Kept.refl _ _, .inl rfl, .inl rfl⟩
  | many k hx h1 ho hn =>
    subst x
    have HK := Lib.hid h1
    have cc1 := RX.cc1 h
    have co := h.co h1.2
    rw [ho] at co
    have hkn : k < t.n + 1 := by omega
    have HN : Hid ((t.n : Int) = 16) := Lib.hid (by omega)
    obtain ⟨M, hM⟩ : ∃ M, t.n + 1 = M := ⟨_, rfl⟩
    rw [hM] at cc1 hkn
    clear h hI ho h1 hn hM
    go_enter Try.func12, Try.ntmps12
    go_wp2_with fail
    refine (rHasYes HA.out k HK.out).mono ?_
    rintro e w1 ⟨rfl, rfl⟩
    go_wp2_with fail
    refine (rMany HA.out).mono ?_
    rintro e w1 ⟨rfl, rfl⟩
    rw [HN.out]
    go_wp2
    go_ret2
    exact ⟨_, _, _, _, rfl, HA.out, Kept.refl _ _, .inl rfl, .inl rfl⟩
  | deep k hx h1 ho hn hd =>
    subst x
    have HK := Lib.hid h1
    have HD : Hid ((path t (nu t.n (k : Int))).length = 8) := Lib.hid (by rw [nu_yes h1]; exact hd)
    have cc1 := RX.cc1 h
    have co := h.co h1.2
    rw [ho] at co
    have hkn : k < t.n + 1 := by omega
    have hne : ((t.n : Int) == 16) = false := by simp; omega
    obtain ⟨M, hM⟩ : ∃ M, t.n + 1 = M := ⟨_, rfl⟩
    rw [hM] at cc1 hkn
    obtain ⟨N, hN⟩ : ∃ N, t.n = N := ⟨_, rfl⟩
    have HN := Lib.hid hN
    rw [hN] at hne
    clear h hI ho h1 hn hM hd hN
    go_enter Try.func12, Try.ntmps12
    go_wp2_with fail
    refine (rHasYes HA.out k HK.out).mono ?_
    rintro e w1 ⟨rfl, rfl⟩
    go_wp2_with fail
    refine (rMany HA.out).mono ?_
    rintro e w1 ⟨rfl, rfl⟩
    rw [HN.out]
    go_wp2_with fail
    refine (rDepth HA.out HI.out HD.out).mono ?_
    rintro e w2 ⟨rfl, hb⟩
    have HB := Lib.hid hb
    clear hb
    go_wp2
    go_ret2
    exact ⟨_, _, _, _, rfl, HA.out.below HB.out, Kept.ofBelow HB.out, .inl rfl, .inl rfl⟩
  | ok k hx h1 ho hn hd =>
    subst x
    have HK := Lib.hid h1
    obtain ⟨d, hdd⟩ : ∃ d, (path t k).length = d := ⟨_, rfl⟩
    have HD : Hid ((path t (nu t.n (k : Int))).length = d) := Lib.hid (by rw [nu_yes h1]; exact hdd)
    have cc1 := RX.cc1 h
    have co := h.co h1.2
    rw [ho] at co
    rw [hdd] at hd
    have hkn : k < t.n + 1 := by omega
    have hne : ((t.n : Int) == 16) = false := by simp; omega
    have hne8 : ((d : Int) == 8) = false := by simp; omega
    have HN16 := Lib.hid hI.n1.2
    obtain ⟨i0, hi, hz0, hz1, hz2⟩ := info_parts infoI
    obtain ⟨i1, hj, hy0, hy1, hy2⟩ := info_parts infoB
    obtain ⟨M, hM⟩ : ∃ M, t.n + 1 = M := ⟨_, rfl⟩
    have HM := Lib.hid hM
    rw [hM] at cc1 hkn
    obtain ⟨N, hN⟩ : ∃ N, t.n = N := ⟨_, rfl⟩
    have HN := Lib.hid hN
    rw [hN] at hne
    clear h hI ho h1 hn hM hd hN hdd
    go_enter Try.func12, Try.ntmps12
    go_wp2_with fail
    refine (rHasYes HA.out k HK.out).mono ?_
    rintro e w1 ⟨rfl, rfl⟩
    go_wp2_with fail
    refine (rMany HA.out).mono ?_
    rintro e w1 ⟨rfl, rfl⟩
    rw [HN.out]
    go_wp2_with fail
    refine (rDepth HA.out HI.out HD.out).mono ?_
    rintro e w2 ⟨rfl, hb⟩
    have HB := Lib.hid hb
    have HA2 := Lib.hid (HA.out.below hb)
    have hsz := hb.size
    have cz2 := RX.c0 HA2.out
    have hBlt := HA2.out.lt.1
    rw [HM.out] at cz2
    clear hb cc1 co
    go_wp2_with (at_builtin; refine wpList_append_own_at _ (by rfl) _ _ 39 (by rfl) 0 3 i0 _ 1 8 Try.underlying39 hi hz0 hz1 hz2 (by rfl) (by decide) _ M ((List.range (M * 1)).map (upF t)) (by rfl) ((show w2.ownsRow 0 3 1 (.slice (some ⟨g1, 0, none⟩) M c1) M ((List.range (M * 1)).map (upF t)) from HM.out ▸ RX.ups HA2.out).alloc _) ⟨_, 0, none⟩ 1 1 [.int .i64 (k : Int)] (by rfl) (by rfl) (cell_one_new _ _ _) (by intro u hu; simp at hu; subst hu; rfl) (by unfold maxLen; have := HN16.out; have := HM.out; omega) (by have := HN16.out; have := HM.out; omega) (Nat.zero_le _) ?_)
    intro v3 w3 hown3 hgrow3 hnil3 hwhere3
    rw [← HM.out] at hown3
    have hown3' : w3.ownsRow 0 3 1 v3 (t.n + 1 + 1) ((List.range ((t.n + 1) * 1)).map (upF t) ++ [.int .i64 (k : Int)]) := by rw [Nat.mul_one]; exact hown3
    obtain ⟨ga, ca, rfl, hrow3⟩ := RowF.more (f' := upF (t.add k)) hown3' rfl (ups_more t k).1 (ups_more t k).2
    obtain ⟨hb3, hx3, hk3⟩ := RX.grown0 HA2.out hgrow3 hrow3
    have H3 := Lib.hid (And.intro hx3 hk3)
    have f3 := self_free hb3 0
    have c3 : w3.cell? ⟨B, 0, none⟩ = some (.slice (some ⟨g1, 0, none⟩) (t.n + 1) c1) := self_cell hb3 0 _ rfl
    have c31 : w3.cell? ⟨B, 1, none⟩ = some (.slice (some ⟨g2, 0, none⟩) M c2) := by rw [← HM.out]; exact self_cell hb3 1 _ rfl
    have hb3lt := lt_of_block hb3
    have HON : Hid ((w3.setCell ⟨B, 0, none⟩ (.slice (some ⟨ga, 0, none⟩) (t.n + 1 + 1) ca)).ownsRow 0 4 1 (.slice (some ⟨g2, 0, none⟩) M c2) M ((List.range (M * 1)).map (onF t))) := Lib.hid (HM.out ▸ hx3.ons)
    have HW3 : Hid (ga = g1 ∨ ga = w2.heap.size + 1) := Lib.hid (by
      rcases hwhere3 with e | e
      · left; simpa [Value.ownBlock] using e
      · right; simpa [Value.ownBlock] using e)
    have HZ3 : Hid (w2.heap.size ≤ w3.heap.size) := Lib.hid (by have := hgrow3.size; rw [size_alloc] at this; omega)
    have HC1 : Hid (∀ j u, [Value.bool true][j]? = some u → ((w3.setCell ⟨B, 0, none⟩ (.slice (some ⟨ga, 0, none⟩) (t.n + 1 + 1) ca)).alloc (.cells #[.bool true] 4)).cell? ((⟨w3.heap.size, 0, none⟩ : Addr).add j) = some u) := Lib.hid (by
      have e : (w3.setCell ⟨B, 0, none⟩ (.slice (some ⟨ga, 0, none⟩) (t.n + 1 + 1) ca)).heap.size = w3.heap.size := by simp
      rw [← e]
      exact cell_one_new _ _ _)
    clear hown3 hown3' hgrow3 hnil3 hwhere3 hrow3 hb3 hx3 hk3 cz2
    go_wp2_with (at_builtin; refine wpList_append_own_at _ (by rfl) _ _ 52 (by rfl) 0 4 i1 _ 1 1 Try.underlying52 hj hy0 hy1 hy2 (by rfl) (by decide) _ M ((List.range (M * 1)).map (onF t)) (by rfl) (HON.out.alloc _) ⟨_, 0, none⟩ 1 1 [.bool true] (by rfl) (by rfl) HC1.out (by intro u hu; simp at hu; subst hu; rfl) (by unfold maxLen; have := HN16.out; have := HM.out; omega) (by have := HN16.out; have := HM.out; omega) (Nat.zero_le _) ?_)
    intro v5 w5 hown5 hgrow5 hnil5 hwhere5
    rw [← HM.out] at hown5
    have hown5' : w5.ownsRow 0 4 1 v5 (t.n + 1 + 1) ((List.range ((t.n + 1) * 1)).map (onF t) ++ [.bool true]) := by rw [Nat.mul_one]; exact hown5
    obtain ⟨gb, cb, rfl, hrow5⟩ := RowF.more (f' := onF (t.add k)) hown5' rfl (ons_more t k).1 (ons_more t k).2
    obtain ⟨hb5, hx5, hk5⟩ := RX.grown1 H3.out.1 hgrow5 hrow5
    have H5 : Hid (RT (w5.setCell ⟨B, 1, none⟩ (.slice (some ⟨gb, 0, none⟩) (t.n + 1 + 1) cb)) B ga ca gb cb (t.add k) ∧ Kept (OwnR B g1 g2) w2 (w5.setCell ⟨B, 1, none⟩ (.slice (some ⟨gb, 0, none⟩) (t.n + 1 + 1) cb))) := Lib.hid ⟨hx5, (H3.out.2.mono (fun j e => e.elim .inl (fun e => .inr (.inl e)))).trans (hk5.mono (fun j e => e.elim .inl (fun e => .inr (.inr e))))⟩
    have f5 := self_free hb5 1
    have c51 : w5.cell? ⟨B, 1, none⟩ = some (.slice (some ⟨g2, 0, none⟩) (t.n + 1) c2) := self_cell hb5 1 _ rfl
    have HW5 : Hid (gb = g2 ∨ w2.heap.size ≤ gb) := Lib.hid (by
      rcases hwhere5 with e | e
      · left; simpa [Value.ownBlock] using e
      · right
        have h1 : gb = (w3.setCell ⟨B, 0, none⟩ (.slice (some ⟨ga, 0, none⟩) (t.n + 1 + 1) ca)).heap.size + 1 := by simpa [Value.ownBlock] using e
        have h2 := (Kept.setCell (S := (· = B)) (p := ⟨B, 0, none⟩) (Kept.refl _ w3) rfl (.slice (some ⟨ga, 0, none⟩) (t.n + 1 + 1) ca)).size
        have := HZ3.out
        omega)
    clear hown5 hown5' hgrow5 hnil5 hwhere5 hrow5 hb5 hx5 hk5 c3 c31 f3
    go_wp2_with fail
    refine (rMany H5.out.1).mono ?_
    rintro e w6 ⟨rfl, rfl⟩
    go_wp2
    go_ret2
    refine ⟨ga, ca, gb, cb, rfl, H5.out.1, (Kept.ofBelow HB.out).trans H5.out.2, ?_, ?_⟩
    · rcases HW3.out with e | e
      · exact .inl e
      · right; omega
    · rcases HW5.out with e | e
      · exact .inl e
      · right; omega
theorem offR_mem {k : Nat} : ∀ j, (if j = k then Value.bool false else onF t j) = onF (t.off k) j := by
  intro j
  unfold onF
  by_cases e : j = k
  · subst e
    rw [if_pos rfl]
    show _ = Value.bool (upd t.on j false j)
    rw [upd_same]
  · rw [if_neg e]
    show _ = Value.bool (upd t.on k false j)
    rw [upd_other _ _ e]
theorem RT.setOff (h : RT w B g1 c1 g2 c2 t) (k : Nat) : RT (w.setCell ⟨g2, k, none⟩ (.bool false)) B g1 c1 g2 c2 (t.off k) ∧ Kept (OwnR B g1 g2) w (w.setCell ⟨g2, k, none⟩ (.bool false)) := by
  have hk' : Kept (· = g2) w (w.setCell ⟨g2, k, none⟩ (.bool false)) := Kept.setCell (S := (· = g2)) (p := ⟨g2, k, none⟩) (Kept.refl _ w) rfl _
  have ht : ∀ k, k = g2 → Typ w [4] k := fun k e => by subst e; exact RowF.typ (RX.ons h) (by simp)
  exact ⟨⟨box_kept (RX.box h) hk' ht (by decide), RowF.kept (RX.ups h) hk' ht (by decide), (RowF.set (RX.ons h) k _).congr fun j _ => offR_mem j⟩, hk'.mono (fun k e => .inr (.inr e))⟩
set_option maxHeartbeats 2000000 in
set_option maxRecDepth 100000 in
theorem rOffline (h : RT w B g1 c1 g2 c2 t) (hI : TI t) (hr : OffIs t x er t') :
    Calls Try.prog 14 #[.pointer (some ⟨B, 0, none⟩), .int .i64 x] w fun e w' => e = .returned (.int .i64 er) ∧ RT w' B g1 c1 g2 c2 t' ∧ Kept (OwnR B g1 g2) w w' := by
  have HA := Lib.hid h
  have HI := Lib.hid hI
  cases hr with
  | no ho =>
    have HO := Lib.hid (nu_zero ho)
    clear h hI ho
    go_enter Try.func14, Try.ntmps14
    go_wp2_with fail
    refine (rHasNo HA.out x HO.out).mono ?_
    rintro e w1 ⟨rfl, rfl⟩
    go_wp2
    go_ret
    exact ⟨rfl, HA.out, Kept.refl _ _⟩
  | root hx =>
    subst hx
    have HH : Hid (decide ((1 : Int) ≤ 1 ∧ (1 : Int) ≤ t.n) = true) := Lib.hid (decide_eq_true (by have := hI.n1; omega))
    clear h hI
    go_enter Try.func14, Try.ntmps14
    go_wp2_with fail
    refine (rHasD HA.out 1 true HH.out).mono ?_
    rintro e w1 ⟨rfl, rfl⟩
    go_wp2
    go_ret
    exact ⟨rfl, HA.out, Kept.refl _ _⟩
  | off k hx h1 ho =>
    subst x
    have HK : Hid (1 ≤ k ∧ k ≤ t.n) := Lib.hid (by omega)
    have hne : ((k : Int) == 1) = false := by simp; omega
    have cc1 := RX.cc1 h
    have co := h.co h1.2
    rw [ho] at co
    have hkn : k < t.n + 1 := by omega
    obtain ⟨M, hM⟩ : ∃ M, t.n + 1 = M := ⟨_, rfl⟩
    rw [hM] at cc1 hkn
    clear h hI ho h1 hM
    go_enter Try.func14, Try.ntmps14
    go_wp2_with fail
    refine (rHasYes HA.out k HK.out).mono ?_
    rintro e w1 ⟨rfl, rfl⟩
    go_wp2
    go_ret
    exact ⟨rfl, HA.out, Kept.refl _ _⟩
  | ok k hx h1 ho =>
    subst x
    have HK : Hid (1 ≤ k ∧ k ≤ t.n) := Lib.hid (by omega)
    have hne : ((k : Int) == 1) = false := by simp; omega
    have cc1 := RX.cc1 h
    have co := h.co h1.2
    have fo := RowF.frozen (RX.ons h) k
    rw [ho] at co
    have HS := Lib.hid (h.setOff k)
    have hkn : k < t.n + 1 := by omega
    obtain ⟨M, hM⟩ : ∃ M, t.n + 1 = M := ⟨_, rfl⟩
    rw [hM] at cc1 hkn
    clear h hI ho h1 hM
    go_enter Try.func14, Try.ntmps14
    go_wp2_with fail
    refine (rHasYes HA.out k HK.out).mono ?_
    rintro e w1 ⟨rfl, rfl⟩
    go_wp2
    go_ret
    exact ⟨rfl, HS.out.1, HS.out.2⟩
end
end Go.Proofs.Ytbdlkglngjjpjaa
