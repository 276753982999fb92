/-
  New, Add, Offline of the program.
-/
import Derived.Test.YtbdlkglngjjpjaaColl
set_option linter.unusedVariables false
set_option linter.unusedSimpArgs false
namespace Go.Proofs.Ytbdlkglngjjpjaa
open Go Go.RowKit

theorem infoM : (Try.prog.info? 51).map (fun i => (i.zero, i.size, i.bytes)) = some (some (.agg #[.int .i64 0, .bool false]), 2, 16) := by kernel_rfl
theorem new2 (w : World) (a b : Value) (t : TypeId) : ∀ j u, [a, b][j]? = some u → (w.alloc (.cells #[a, b] t)).cell? ((⟨w.heap.size, 0, none⟩ : Addr).add j) = some u := by
  intro j u hj
  rw [plain_add, Nat.zero_add]
  exact self_cell (heap_new w _) j u (by
    have : (#[a, b] : Array Value)[j]? = [a, b][j]? := by simp
    rw [this]; exact hj)
/-- a row that a literal makes -/
theorem RowF.lit (w : World) (T : TypeId) (k n : Nat) (cs : Array Value) (f : Nat → Value) (hs : cs.size = n * k) (hn : n ≤ 1000) (hf : cs.toList = (List.range (n * k)).map f) : RowF (w.alloc (.cells cs T)) T k w.heap.size n n f := by
  have := World.ownsRow_lit (base := 0) (e := T) (size := k) w cs n (Nat.zero_le _) (by unfold maxLen; omega) hs
  unfold RowF
  rw [← hf]
  exact this
section
variable {S : Nat → Prop} {w w' w1 : World} {B g g' cap cap' p : Nat} {t t' : Tr} {x a er : Int}
theorem mem_more (t : Tr) (p : Nat) : (∀ j, j < t.n * 2 → memF (t.add p) j = memF t j) ∧ ∀ i, i < 2 → [Value.int .i64 (p : Int), .bool false][i]? = some (memF (t.add p) (t.n * 2 + i)) := by
  refine ⟨fun j hj => ?_, fun i hi => ?_⟩
  · unfold memF
    rw [add_up (t := t) (p := p) (show j / 2 + 1 ≤ t.n by omega), add_on (t := t) (p := p) (show j / 2 + 1 ≤ t.n by omega)]
  · have h2 : i = 0 ∨ i = 1 := by omega
    unfold memF
    rcases h2 with rfl | rfl
    · rw [if_pos (by omega), show (t.n * 2 + 0) / 2 + 1 = t.n + 1 by omega, add_up_new]
      rfl
    · rw [if_neg (by omega), show (t.n * 2 + 1) / 2 + 1 = t.n + 1 by omega, add_on_new]
      rfl
theorem TV.grown (h : TV w B g cap t) {o : Obj} (hg : (w.alloc o).grownBy w1 (some g)) (hr : RowF w1 51 2 g' cap' (t.n + 1) (memF (t.add p))) :
    TV (w1.setCell ⟨B, 0, none⟩ (.slice (some ⟨g', 0, none⟩) (t.n + 1) cap')) B g' cap' (t.add p) ∧ Kept (OwnT B g) w (w1.setCell ⟨B, 0, none⟩ (.slice (some ⟨g', 0, none⟩) (t.n + 1) cap')) := by
  have hne : B ≠ g := by
    rintro rfl
    obtain ⟨cur, h2, _⟩ := h.row.block
    rw [h.box] at h2
    cases h2
  have hb1 : w1.heap[B]? = some (.cells #[.slice (some ⟨g, 0, none⟩) t.n cap] 49 (0, 0)) :=
    (hg.block B (by rw [size_alloc]; have := h.lt.1; omega) (fun e => hne (by cases e; rfl))).trans ((Below.heap_alloc _ _ _ h.lt.1).trans h.box)
  refine ⟨⟨cells_set hb1 0 _, hr.kept (S := (· = B)) (Ts := [49]) (Kept.setCell (S := (· = B)) (p := ⟨B, 0, none⟩) (Kept.refl _ _) rfl _) (fun k e => by subst e; exact ⟨_, _, _, hb1, by simp⟩) (by decide)⟩, ?_⟩
  have hk1 : Kept (OwnT B g) w w1 := by
    refine ⟨hg.os, hg.tape, hg.output, ?_, fun k hk hn => ?_⟩
    · have := hg.size
      rw [size_alloc] at this
      omega
    · exact (hg.block k (by rw [size_alloc]; omega) (fun e => hn (.inr (by cases e; rfl)))).trans (Below.heap_alloc _ _ _ hk)
  exact hk1.setCell (p := ⟨B, 0, none⟩) (show OwnT B g B from Or.inl rfl) _
set_option maxHeartbeats 1000000 in
theorem cNew (w : World) : Calls Try.prog 8 #[] w fun e w' => ∃ B g cap, e = .returned (.pointer (some ⟨B, 0, none⟩)) ∧ TV w' B g cap noT ∧ Below w.heap.size w w' ∧ w.heap.size ≤ B ∧ w.heap.size ≤ g := by
  go_enter Try.func8, Try.ntmps8
  go_wp2
  go_ret
  refine ⟨w.heap.size + 1, w.heap.size, 1, rfl, ⟨heap_new2 _ _ _, own_below (RowF.lit w 51 2 1 #[.int .i64 0, .bool false] (memF noT) rfl (by decide) rfl) (below_one (Below.refl _ _) _)⟩, below_one (below_one (Below.refl _ _) _) _, by omega, Nat.le_refl _⟩
set_option maxHeartbeats 2000000 in
set_option maxRecDepth 100000 in
theorem cAdd (h : TV w B g cap t) (hI : TI t) (hr : AddIs t x a er t') :
    Calls Try.prog 11 #[.pointer (some ⟨B, 0, none⟩), .int .i64 x] w fun e w' => ∃ g' cap', e = .returned (.tuple #[.int .i64 a, .int .i64 er]) ∧ TV w' B g' cap' t' ∧ Kept (OwnT B g) w w' ∧ (g' = g ∨ w.heap.size ≤ g') := by
  have HA := Lib.hid h
  have HI := Lib.hid hI
  have HQ : Hid (TQ w (some ⟨B, 0, none⟩) t) := Lib.hid (.inl ⟨B, g, cap, rfl, h, hI⟩)
  cases hr with
  | no ho =>
    have HO := Lib.hid ho
    clear h hI ho
    go_enter Try.func11, Try.ntmps11
    go_wp2_with fail
    refine (cNoneNo HA.out HI.out.n1.1).mono ?_
    rintro e w1 ⟨rfl, rfl⟩
    go_wp2_with fail
    refine (cOnline HQ.out x _ HO.out).mono ?_
    rintro e w1 ⟨rfl, rfl⟩
    go_wp2
    go_ret2
    exact ⟨_, _, rfl, HA.out, Kept.refl _ _, .inl rfl⟩
  | many k hx h1 ho hn =>
    have HO : Hid (t.on (nu t.n x) = true) := Lib.hid (by rw [hx, nu_yes h1]; exact ho)
    have c0 := h.c0
    have hcap := h.caps
    rw [hn] at c0 hcap
    clear h hI ho hx h1 hn
    go_enter Try.func11, Try.ntmps11
    go_wp2_with fail
    refine (cNoneNo HA.out HI.out.n1.1).mono ?_
    rintro e w1 ⟨rfl, rfl⟩
    go_wp2_with fail
    refine (cOnline HQ.out x _ HO.out).mono ?_
    rintro e w1 ⟨rfl, rfl⟩
    go_wp2
    go_ret2
    exact ⟨_, _, rfl, HA.out, Kept.refl _ _, .inl rfl⟩
  | deep k hx h1 ho hn hd =>
    have HO : Hid (t.on (nu t.n x) = true) := Lib.hid (by rw [hx, nu_yes h1]; exact ho)
    have HD : Hid ((path t (nu t.n x)).length = 8) := Lib.hid (by rw [hx, nu_yes h1]; exact hd)
    have c0 := h.c0
    have hcap := h.caps
    have hne : ((t.n : Int) == 16) = false := by simp; omega
    obtain ⟨N, hN⟩ : ∃ N, t.n = N := ⟨_, rfl⟩
    rw [hN] at c0 hcap hne
    clear h hI ho hx h1 hn hd hN
    go_enter Try.func11, Try.ntmps11
    go_wp2_with fail
    refine (cNoneNo HA.out HI.out.n1.1).mono ?_
    rintro e w1 ⟨rfl, rfl⟩
    go_wp2_with fail
    refine (cOnline HQ.out x _ HO.out).mono ?_
    rintro e w1 ⟨rfl, rfl⟩
    go_wp2_with fail
    refine (cDepth HD.out HQ.out).mono ?_
    rintro e w2 ⟨rfl, hb⟩
    have HB := Lib.hid hb
    clear hb
    go_wp2
    go_ret2
    exact ⟨_, _, rfl, HA.out.below HB.out, Kept.ofBelow HB.out, .inl rfl⟩
  | ok k hx h1 ho hn hd =>
    have HO : Hid (t.on (nu t.n x) = true) := Lib.hid (by rw [hx, nu_yes h1]; exact ho)
    obtain ⟨d, hdd⟩ : ∃ d, (path t k).length = d := ⟨_, rfl⟩
    have HD : Hid ((path t (nu t.n x)).length = d) := Lib.hid (by rw [hx, nu_yes h1]; exact hdd)
    have c0 := h.c0
    have hcap := h.caps
    have hne : ((t.n : Int) == 16) = false := by simp; omega
    rw [hdd] at hd
    have hne8 : ((d : Int) == 8) = false := by simp; omega
    have HN16 := Lib.hid hI.n1.2
    obtain ⟨i0, hi, hz0, hz1, hz2⟩ := info_parts infoM
    obtain ⟨N, hN⟩ : ∃ N, t.n = N := ⟨_, rfl⟩
    have HN := Lib.hid hN
    rw [hN] at c0 hcap hne HN16
    subst x
    clear h hI ho h1 hn hd hN hdd
    go_enter Try.func11, Try.ntmps11
    go_wp2_with fail
    refine (cNoneNo HA.out HI.out.n1.1).mono ?_
    rintro e w1 ⟨rfl, rfl⟩
    go_wp2_with fail
    refine (cOnline HQ.out k _ HO.out).mono ?_
    rintro e w1 ⟨rfl, rfl⟩
    go_wp2_with fail
    refine (cDepth HD.out HQ.out).mono ?_
    rintro e w2 ⟨rfl, hb⟩
    have HB := Lib.hid hb
    have HA2 := Lib.hid (HA.out.below hb)
    have hsz := hb.size
    have c2 := HA2.out.c0
    have f2 := HA2.out.f0
    have hBlt := HA2.out.lt.1
    rw [HN.out] at c2
    clear hb c0
    go_wp2_with (at_builtin; refine wpList_append_own_at _ (by rfl) _ _ 47 (by rfl) 0 51 i0 _ 2 16 Try.underlying47 hi hz0 hz1 hz2 (by rfl) (by decide) _ N ((List.range (N * 2)).map (memF t)) (by rfl) ((show w2.ownsRow 0 51 2 (.slice (some ⟨g, 0, none⟩) N cap) N ((List.range (N * 2)).map (memF t)) from HN.out ▸ HA2.out.row).alloc _) ⟨_, 0, none⟩ 1 1 [.int .i64 (k : Int), .bool false] (by rfl) (by rfl) (new2 _ _ _ _) (by intro u hu; simp at hu; rcases hu with rfl | rfl <;> rfl) (by unfold maxLen; have := HN16.out; omega) (by have := HN16.out; omega) (Nat.zero_le _) ?_)
    intro v' w3 hown' hgrow hnil hwhere
    rw [← HN.out] at hown'
    obtain ⟨g3, cap3, rfl, hrow⟩ := RowF.more hown' rfl (mem_more t k).1 (mem_more t k).2
    have H3 := Lib.hid (HA2.out.grown hgrow hrow)
    have hb3 : w3.heap[B]? = some (.cells #[.slice (some ⟨g, 0, none⟩) t.n cap] 49 (0, 0)) := by
      refine (hgrow.block B (by rw [size_alloc]; omega) (fun e => ?_)).trans ((Below.heap_alloc _ _ _ hBlt).trans HA2.out.box)
      obtain ⟨cur, h2, _⟩ := HA2.out.row.block
      obtain rfl : B = g := by simpa [Value.ownBlock] using e
      rw [HA2.out.box] at h2
      cases h2
    have c3 := self_cell hb3 0 _ rfl
    have f3 := self_free hb3 0
    have HW : Hid (g3 = g ∨ g3 = w2.heap.size + 1) := Lib.hid (by
      rcases hwhere with e | e
      · left; simpa [Value.ownBlock] using e
      · right; simpa [Value.ownBlock] using e)
    clear hown' hgrow hnil hwhere hrow hb3 c2 f2
    rw [HN.out] at c3
    go_wp2
    go_ret2
    refine ⟨g3, cap3, ?_, H3.out.1, (Kept.ofBelow HB.out).trans H3.out.2, ?_⟩
    · rw [HN.out]; rfl
    · rcases HW.out with e | e
      · exact .inl e
      · right; omega
theorem off_mem {k : Nat} (hk : 1 ≤ k) : ∀ j, (if j = (k - 1) * 2 + 1 then Value.bool true else memF t j) = memF (t.off k) j := by
  intro j
  unfold memF
  by_cases e : j = (k - 1) * 2 + 1
  · subst e
    rw [if_pos rfl, if_neg (by omega), show ((k - 1) * 2 + 1) / 2 + 1 = k by omega]
    show _ = Value.bool (!(upd t.on k false k))
    rw [upd_same]
    rfl
  · rw [if_neg e]
    by_cases e2 : j % 2 = 0
    · rw [if_pos e2, if_pos e2]
      rfl
    · rw [if_neg e2, if_neg e2]
      show _ = Value.bool (!(upd t.on k false (j / 2 + 1)))
      rw [upd_other _ _ (by omega)]
theorem TV.setOff (h : TV w B g cap t) {k : Nat} (hk : 1 ≤ k) : TV (w.setCell ⟨g, (k - 1) * 2 + 1, none⟩ (.bool true)) B g cap (t.off k) ∧ Kept (OwnT B g) w (w.setCell ⟨g, (k - 1) * 2 + 1, none⟩ (.bool true)) := by
  have hk' : Kept (· = g) w (w.setCell ⟨g, (k - 1) * 2 + 1, none⟩ (.bool true)) := Kept.setCell (S := (· = g)) (p := ⟨g, (k - 1) * 2 + 1, none⟩) (Kept.refl _ w) rfl _
  exact ⟨⟨box_kept (Ts := [51]) h.box hk' (fun k e => by subst e; exact h.row.typ (by simp)) (by decide), (h.row.set _ _).congr fun j _ => off_mem hk j⟩, hk'.mono (fun k e => .inr e)⟩
set_option maxHeartbeats 2000000 in
set_option maxRecDepth 100000 in
theorem cOffline (h : TV w B g cap t) (hI : TI t) (hr : OffIs t x er t') :
    Calls Try.prog 13 #[.pointer (some ⟨B, 0, none⟩), .int .i64 x] w fun e w' => e = .returned (.int .i64 er) ∧ TV w' B g cap t' ∧ Kept (OwnT B g) w w' := by
  have HA := Lib.hid h
  have HI := Lib.hid hI
  have HQ : Hid (TQ w (some ⟨B, 0, none⟩) t) := Lib.hid (.inl ⟨B, g, cap, rfl, h, hI⟩)
  cases hr with
  | no ho =>
    have HO := Lib.hid (nu_zero ho)
    clear h hI ho
    go_enter Try.func13, Try.ntmps13
    go_wp2_with fail
    refine (cNoneNo HA.out HI.out.n1.1).mono ?_
    rintro e w1 ⟨rfl, rfl⟩
    go_wp2_with fail
    refine (cHasNo HQ.out x HO.out).mono ?_
    rintro e w1 ⟨rfl, rfl⟩
    go_wp2
    go_ret
    exact ⟨rfl, HA.out, Kept.refl _ _⟩
  | root hx =>
    subst hx
    have HH : Hid (decide ((1 : Int) ≤ 1 ∧ (1 : Int) ≤ t.n) = true) := Lib.hid (decide_eq_true (by have := hI.n1; omega))
    clear h hI
    go_enter Try.func13, Try.ntmps13
    go_wp2_with fail
    refine (cNoneNo HA.out HI.out.n1.1).mono ?_
    rintro e w1 ⟨rfl, rfl⟩
    go_wp2_with fail
    refine (cHasD HQ.out 1 true HH.out).mono ?_
    rintro e w1 ⟨rfl, rfl⟩
    go_wp2
    go_ret
    exact ⟨rfl, HA.out, Kept.refl _ _⟩
  | off k hx h1 ho =>
    obtain ⟨j, rfl⟩ : ∃ j, k = j + 1 := ⟨k - 1, by omega⟩
    obtain rfl : x = (j : Int) + 1 := by omega
    have HO : Hid (t.on (nu t.n ((j : Int) + 1)) = false) := Lib.hid (by rw [show ((j : Int) + 1) = ((j + 1 : Nat) : Int) by omega, nu_yes (by omega)]; exact ho)
    have HJ : Hid (j < t.n) := Lib.hid (by omega)
    have hne : ((j : Int) + 1 == 1) = false := by simp; omega
    have hj0 : 1 ≤ j := by omega
    clear h hI ho h1 hx
    go_enter Try.func13, Try.ntmps13
    go_wp2_with fail
    refine (cNoneNo HA.out HI.out.n1.1).mono ?_
    rintro e w1 ⟨rfl, rfl⟩
    go_wp2_with fail
    refine (cHasYes HQ.out j HJ.out).mono ?_
    rintro e w1 ⟨rfl, rfl⟩
    go_wp2_with fail
    refine (cOnline HQ.out _ _ HO.out).mono ?_
    rintro e w1 ⟨rfl, rfl⟩
    go_wp2
    go_ret
    exact ⟨rfl, HA.out, Kept.refl _ _⟩
  | ok k hx h1 ho =>
    obtain ⟨j, rfl⟩ : ∃ j, k = j + 1 := ⟨k - 1, by omega⟩
    obtain rfl : x = (j : Int) + 1 := by omega
    have HO : Hid (t.on (nu t.n ((j : Int) + 1)) = true) := Lib.hid (by rw [show ((j : Int) + 1) = ((j + 1 : Nat) : Int) by omega, nu_yes (by omega)]; exact ho)
    have HJ : Hid (j < t.n) := Lib.hid (by omega)
    have hne : ((j : Int) + 1 == 1) = false := by simp; omega
    have hj0 : 1 ≤ j := by omega
    have c0 := h.c0
    have co := h.co HJ.out
    have fo := h.row.frozen (j * 2 + 1)
    have hcap := h.caps
    have HS : Hid (TV (w.setCell ⟨g, j * 2 + 1, none⟩ (.bool true)) B g cap (t.off (j + 1)) ∧ Kept (OwnT B g) w (w.setCell ⟨g, j * 2 + 1, none⟩ (.bool true))) := Lib.hid (h.setOff (k := j + 1) (by omega))
    have hjn : (j : Int) < t.n := by have := HJ.out; omega
    rw [ho] at co
    obtain ⟨N, hN⟩ : ∃ N, t.n = N := ⟨_, rfl⟩
    rw [hN] at c0 hcap hjn
    have hjn2 : j < N := by omega
    clear h hI ho h1 hx hN
    go_enter Try.func13, Try.ntmps13
    go_wp2_with fail
    refine (cNoneNo HA.out HI.out.n1.1).mono ?_
    rintro e w1 ⟨rfl, rfl⟩
    go_wp2_with fail
    refine (cHasYes HQ.out j HJ.out).mono ?_
    rintro e w1 ⟨rfl, rfl⟩
    go_wp2_with fail
    refine (cOnline HQ.out _ _ HO.out).mono ?_
    rintro e w1 ⟨rfl, rfl⟩
    go_wp2
    go_ret
    exact ⟨rfl, HS.out.1, HS.out.2⟩
/-! ### trees that are none -/
variable {q : Option Addr}
set_option maxHeartbeats 1000000 in
theorem zAdd (h : q = none ∨ ∃ B, q = some ⟨B, 0, none⟩ ∧ w.heap[B]? = some (.cells #[.slice none 0 0] 49 (0, 0))) (x : Int) :
    Calls Try.prog 11 #[.pointer q, .int .i64 x] w fun e w' => e = .returned (.tuple #[.int .i64 0, .int .i64 1]) ∧ w' = w := by
  have HA := Lib.hid h
  clear h
  go_enter Try.func11, Try.ntmps11
  go_wp2_with fail
  refine (cNoneYes HA.out).mono ?_
  rintro e w1 ⟨rfl, rfl⟩
  go_wp2
  go_ret2
  exact ⟨rfl, rfl⟩
set_option maxHeartbeats 1000000 in
theorem zOffline (h : q = none ∨ ∃ B, q = some ⟨B, 0, none⟩ ∧ w.heap[B]? = some (.cells #[.slice none 0 0] 49 (0, 0))) (x : Int) :
    Calls Try.prog 13 #[.pointer q, .int .i64 x] w fun e w' => e = .returned (.int .i64 1) ∧ w' = w := by
  have HA := Lib.hid h
  clear h
  go_enter Try.func13, Try.ntmps13
  go_wp2_with fail
  refine (cNoneYes HA.out).mono ?_
  rintro e w1 ⟨rfl, rfl⟩
  go_wp2
  go_ret
  exact ⟨rfl, rfl⟩
end
end Go.Proofs.Ytbdlkglngjjpjaa
