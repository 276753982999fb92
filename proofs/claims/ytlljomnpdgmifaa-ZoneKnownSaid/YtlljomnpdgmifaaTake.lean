/-
  Take of both, Drain of the document's answer, New, Has of it.
-/
import Derived.Test.YtlljomnpdgmifaaCut

set_option linter.unusedVariables false
set_option linter.unusedSimpArgs false
namespace Go.Proofs.Ytlljomnpdgmifaa
open Go Go.RowKit

section
variable {w w' w1 : World} {T : TypeId} {B g n lim : Nat} {vs vs1 vs' : Nat → Value} {f : F}
theorem NearG.drew (h : NearG w T B g vs n lim f) : NearG w.drew T B g vs n lim f := h.below ((Below.refl _ w).drew)
theorem Goes.drew (h : Goes w w' n B g vs vs') : Goes w w'.drew n B g vs vs' := ⟨h.1.drew, h.2⟩
/-- the last one of a list that is not empty -/
theorem NearG.last {c : Nat} {l : List Int} {x : Int} (h : NearG w T B g vs n lim f) (hc : c < n) (hl : f c = l ++ [x]) : ∃ b cap M, l.length = M ∧ M ≤ 64 ∧ vs c = .slice (some ⟨b, 0, none⟩) (M + 1) cap ∧ M + 1 ≤ cap ∧ cap ≤ 9223372036854775807 ∧ b ≠ g ∧
    w.cell? ⟨b, M, none⟩ = some (.int .i64 x) ∧
    NearG (w.setCell ⟨g, c, none⟩ (.slice (some ⟨b, 0, none⟩) M cap)) T B g (updV vs c (.slice (some ⟨b, 0, none⟩) M cap)) n lim (nUpd f c l) ∧
    Goes w (w.setCell ⟨g, c, none⟩ (.slice (some ⟨b, 0, none⟩) M cap)) n B g vs (updV vs c (.slice (some ⟨b, 0, none⟩) M cap)) := by
  have hrow := h.row c hc
  have hlen := h.len c hc
  have hL : (f c).length = l.length + 1 := by rw [hl]; simp
  rcases hrow.2 with ⟨_, e⟩ | ⟨b, cap, cur, e, _, hb, h1, h2, hs, ht⟩
  · omega
  · rw [hL] at e h1 hlen
    rw [e] at hrow
    have hbg : b ≠ g := fun e2 => h.ownG hc (by rw [e, e2]; rfl)
    have hcut := own_cut (cap' := cap) (m := l.length) hrow (by omega) (by simp)
    rw [hl, List.take_left] at hcut
    obtain ⟨w1, w2⟩ := h.write (S := fun _ => False) (l := l) (v' := .slice (some ⟨b, 0, none⟩) l.length cap) (Kept.refl _ _) (fun _ e => e.elim) hc hcut (by omega) (fun k e2 => .inl (by rw [e]; exact e2))
    refine ⟨b, cap, l.length, rfl, by omega, e, h1, by unfold maxLen at h2; omega, hbg, ?_, w1, w2⟩
    have h3 := (h.shows hc).form
    obtain ⟨_, _, e3, _, hat⟩ := h3
    obtain ⟨b', o', e4, h5⟩ := hat l.length (by omega)
    rw [e, hL] at e3
    cases e4
    cases e3
    rw [Nat.zero_add] at h5
    rw [h5, ← pk_at (f c) l.length (by omega)]
    simp [hl]
set_option maxHeartbeats 4000000 in
set_option maxRecDepth 100000 in
theorem cTake (h : NearG w 89 B g vs n lim f) {cpu x : Int} {q : Bool} {f' : F} (hr : TakeIs n f cpu x q f') :
    Calls Try.prog 71 #[.pointer (some ⟨B, 0, none⟩), .int .i64 cpu] w (Take2 w 89 B g n lim vs f' x q) := by
  have HA := Lib.hid h
  obtain ⟨c0, c1⟩ := h.self
  have hn := h.n1
  cases hr with
  | no _ hno =>
    have HQ := Lib.hid (decide_eq_false hno)
    clear h hno
    go_enter Try.func71, Try.ntmps71
    go_wp2_with fail
    refine (cIsCpu HA.out cpu false HQ.out).mono ?_
    rintro e w1 ⟨rfl, rfl⟩
    go_wp2
    go_ret2
    exact ⟨_, rfl, HA.out, Goes.of_below (Below.refl _ _)⟩
  | none c hc he =>
    have HQ := Lib.hid (decide_eq_true (show (0 : Int) ≤ (c : Int) ∧ (c : Int) < (n : Int) by omega))
    have c2 := h.tab.cell hc
    have hrow := h.row c hc
    rw [he] at hrow
    obtain ⟨a, cap, hv, hcap1, hcap2⟩ := own_shape hrow
    rw [hv] at c2
    rw [List.length_nil] at c2
    clear h hrow hv he
    go_enter Try.func71, Try.ntmps71
    go_wp2_with fail
    refine (cIsCpu HA.out c true HQ.out).mono ?_
    rintro e w1 ⟨rfl, rfl⟩
    go_wp2
    go_ret2
    exact ⟨_, rfl, HA.out, Goes.of_below (Below.refl _ _)⟩
  | yes c l _ hc he =>
    have HQ := Lib.hid (decide_eq_true (show (0 : Int) ≤ (c : Int) ∧ (c : Int) < (n : Int) by omega))
    have c2 := h.tab.cell hc
    have cf := h.tab.frozen c
    obtain ⟨b, cap, M, hM, hM64, hv, hcap1, hcap2, hbg, hx, w1, w2⟩ := h.last hc he
    have hgb : ¬ g = b := fun e => hbg e.symm
    rw [hv] at c2
    have H5 := Lib.hid (And.intro w1 w2)
    clear h hv he w1 w2 hM
    go_enter Try.func71, Try.ntmps71
    go_wp2_with fail
    refine (cIsCpu HA.out c true HQ.out).mono ?_
    rintro e w1 ⟨rfl, rfl⟩
    go_wp2
    go_region
    all_goals
      go_wp2
      go_ret2
      exact ⟨_, rfl, H5.out.1.drew, H5.out.2.drew⟩
set_option maxHeartbeats 4000000 in
set_option maxRecDepth 100000 in
theorem rTake (h : NearG w 94 B g vs n lim f) {cpu x : Int} {q : Bool} {f' : F} (hr : TakeIs n f cpu x q f') :
    Calls Try.prog 50 #[.pointer (some ⟨B, 0, none⟩), .int .i64 cpu] w (Take2 w 94 B g n lim vs f' x q) := by
  have HA := Lib.hid h
  obtain ⟨c0, c1⟩ := h.self
  have hn := h.n1
  cases hr with
  | no _ hno =>
    have HQ := Lib.hid (decide_eq_false hno)
    clear h hno
    go_enter Try.func50, Try.ntmps50
    go_wp2_with fail
    refine (rHasCpu HA.out cpu false HQ.out).mono ?_
    rintro e w1 ⟨rfl, rfl⟩
    go_wp2
    go_ret2
    exact ⟨_, rfl, HA.out, Goes.of_below (Below.refl _ _)⟩
  | none c hc he =>
    have HQ := Lib.hid (decide_eq_true (show (0 : Int) ≤ (c : Int) ∧ (c : Int) < (n : Int) by omega))
    have c2 := h.tab.cell hc
    have hrow := h.row c hc
    rw [he] at hrow
    obtain ⟨a, cap, hv, hcap1, hcap2⟩ := own_shape hrow
    rw [hv] at c2
    rw [List.length_nil] at c2
    clear h hrow hv he
    go_enter Try.func50, Try.ntmps50
    go_wp2_with fail
    refine (rHasCpu HA.out c true HQ.out).mono ?_
    rintro e w1 ⟨rfl, rfl⟩
    go_wp2
    go_ret2
    exact ⟨_, rfl, HA.out, Goes.of_below (Below.refl _ _)⟩
  | yes c l _ hc he =>
    have HQ := Lib.hid (decide_eq_true (show (0 : Int) ≤ (c : Int) ∧ (c : Int) < (n : Int) by omega))
    have c2 := h.tab.cell hc
    have cf := h.tab.frozen c
    obtain ⟨b, cap, M, hM, hM64, hv, hcap1, hcap2, hbg, hx, w1, w2⟩ := h.last hc he
    have hgb : ¬ g = b := fun e => hbg e.symm
    rw [hv] at c2
    have H5 := Lib.hid (And.intro w1 w2)
    clear h hv he w1 w2 hM
    go_enter Try.func50, Try.ntmps50
    go_wp2_with fail
    refine (rHasCpu HA.out c true HQ.out).mono ?_
    rintro e w1 ⟨rfl, rfl⟩
    go_wp2
    go_region
    all_goals
      go_wp2
      go_ret2
      exact ⟨_, rfl, H5.out.1.drew, H5.out.2.drew⟩
/-- a list is put away -/
theorem NearG.emptied {c : Nat} (h : NearG w T B g vs n lim f) (hc : c < n) : NearG (w.setCell ⟨g, c, none⟩ (.slice none 0 0)) T B g (updV vs c (.slice none 0 0)) n lim (nUpd f c []) ∧ Goes w (w.setCell ⟨g, c, none⟩ (.slice none 0 0)) n B g vs (updV vs c (.slice none 0 0)) ∧
    Out w (w.setCell ⟨g, c, none⟩ (.slice none 0 0)) n B g vs (updV vs c (.slice none 0 0)) (vs c) (f c) := by
  obtain ⟨w1, w2⟩ := h.write (S := fun _ => False) (l := []) (v' := .slice none 0 0) (Kept.refl _ _) (fun _ e => e.elim) hc (World.ownsRow_nil _ _ _ _) (by simp) (fun k e2 => by simp [Value.ownBlock] at e2)
  refine ⟨w1, w2, ?_⟩
  have hres := Res.ofOwn (h.row c hc)
  have hset : Kept (· = g) w (w.setCell ⟨g, c, none⟩ (.slice none 0 0)) := Kept.setCell (S := (· = g)) (p := ⟨g, c, none⟩) (Kept.refl _ w) rfl _
  exact (hres.kept hset (fun k e1 e2 => h.ownG hc (by rw [e1, e2]))).mono (fun k e => ⟨h.freed hc e (by simp [Value.ownBlock]), .inl (.inr (.inr ⟨c, hc, e⟩))⟩)
set_option maxHeartbeats 4000000 in
set_option maxRecDepth 100000 in
theorem rDrain (h : NearG w 94 B g vs n lim f) {cpu : Int} {l : List Int} {f' : F} (hr : DrainIs n f cpu l f') :
    Calls Try.prog 54 #[.pointer (some ⟨B, 0, none⟩), .int .i64 cpu] w fun e w' => ∃ v vs', e = .returned v ∧ NearG w' 94 B g vs' n lim f' ∧ Goes w w' n B g vs vs' ∧ Out w w' n B g vs vs' v l := by
  have HA := Lib.hid h
  cases hr with
  | no _ hno =>
    go_enter Try.func54, Try.ntmps54
    go_wp2_with fail
    refine (rHasCpu h cpu false (decide_eq_false hno)).mono ?_
    rintro e w1 ⟨rfl, rfl⟩
    clear h
    go_wp2
    go_ret
    exact ⟨_, _, rfl, HA.out, Goes.of_below (Below.refl _ _), Out.nil _ _ _ _ _ _ _⟩
  | yes c hc =>
    obtain ⟨c0, c1⟩ := h.self
    have c2 := h.tab.cell hc
    have cf := h.tab.frozen c
    have hn := h.n1
    have HQ := Lib.hid (decide_eq_true (show (0 : Int) ≤ (c : Int) ∧ (c : Int) < (n : Int) by omega))
    have H5 := Lib.hid (h.emptied hc)
    obtain ⟨v, hv⟩ : ∃ v, vs c = v := ⟨_, rfl⟩
    rw [hv] at c2
    have HV := Lib.hid hv
    clear h hv
    go_enter Try.func54, Try.ntmps54
    go_wp2_with fail
    refine (rHasCpu HA.out c true HQ.out).mono ?_
    rintro e w1 ⟨rfl, rfl⟩
    go_wp2
    go_ret
    exact ⟨_, _, rfl, H5.out.1, H5.out.2.1, by rw [← HV.out]; exact H5.out.2.2⟩
end

theorem makeL (n : Nat) (hn : n ≤ 10000) : ∃ O : Obj, (∀ w : World, (Instr.makeSlice 87 (.int .i64 (n : Int)) (.int .i64 (n : Int))).run Try.prog w = .ok (.slice (some ⟨w.heap.size, 0, none⟩) n n) (w.alloc O)) ∧ ∀ w : World, (w.alloc O).rowIs w.heap.size 73 n (fun _ => .slice none 0 0) :=
  ⟨_, fun w => run_make_row' (P := Try.prog) 87 73 (.slice none 0 0) 24 Try.underlying87 (by kernel_rfl) rfl .i64 .i64 n (by omega) (by omega) w, fun w => World.rowIs_made w _ n _⟩
def noF : F := fun _ => []
def noV : Nat → Value := fun _ => .slice none 0 0
theorem near_new (w : World) (T : TypeId) (n lim : Nat) (O : Obj) (h1 : 1 ≤ n ∧ n ≤ 8) (h2 : lim ≤ 64) (hT : 3 ≠ T ∧ 73 ≠ T) (hr : ∀ w : World, (w.alloc O).rowIs w.heap.size 73 n (fun _ => .slice none 0 0)) :
    NearG ((w.alloc O).alloc (.cells #[.slice (some ⟨w.heap.size, 0, none⟩) n n, .int .i64 lim] T)) T (w.heap.size + 1) w.heap.size noV n lim noF := by
  refine ⟨heap_new2 _ _ _, (hr w).alloc _, fun i hi => World.ownsRow_nil _ _ _ _, fun i j _ _ _ k e => by simp [noV, Value.ownBlock] at e, hT, h1, h2, fun i hi => by simp [noF]⟩
def nArgOk (cpus limit : Int) : Prop := (1 ≤ cpus ∧ cpus ≤ 8) ∧ 0 ≤ limit ∧ limit ≤ 64
instance (cpus limit : Int) : Decidable (nArgOk cpus limit) := by unfold nArgOk; infer_instance
def NewOk (w : World) (T : TypeId) (n lim : Nat) (e : Ending) (w' : World) : Prop :=
  ∃ B g, e = .returned (.tuple #[.pointer (some ⟨B, 0, none⟩), .int .i64 0]) ∧ NearG w' T B g noV n lim noF ∧ Below w.heap.size w w' ∧ ∀ k, Own n B g noV k → w.heap.size ≤ k
theorem own_none {w : World} {n : Nat} : ∀ k, Own n (w.heap.size + 1) w.heap.size noV k → w.heap.size ≤ k := by
  rintro k (e | e | ⟨i, _, e⟩)
  · omega
  · omega
  · simp [noV, Value.ownBlock] at e
set_option maxHeartbeats 2000000 in
set_option maxRecDepth 100000 in
theorem nCNewBad (cpus limit : Int) (w : World) (h : ¬ nArgOk cpus limit) : Calls Try.prog 22 #[.int .i64 cpus, .int .i64 limit] w fun e w' => e = .returned (.tuple #[.pointer none, .int .i64 2]) ∧ w' = w := by
  by_cases h1 : cpus < 1
  · go_enter Try.func22, Try.ntmps22
    go_wp2
    go_ret2
    exact ⟨rfl, rfl⟩
  · by_cases h2 : 8 < cpus
    · go_enter Try.func22, Try.ntmps22
      go_wp2
      go_ret2
      exact ⟨rfl, rfl⟩
    · by_cases h3 : limit < 0
      · go_enter Try.func22, Try.ntmps22
        go_wp2
        go_ret2
        exact ⟨rfl, rfl⟩
      · have h4 : 64 < limit := by unfold nArgOk at h; omega
        go_enter Try.func22, Try.ntmps22
        go_wp2
        go_ret2
        exact ⟨rfl, rfl⟩
set_option maxHeartbeats 2000000 in
set_option maxRecDepth 100000 in
theorem nRNewBad (cpus limit : Int) (w : World) (h : ¬ nArgOk cpus limit) : Calls Try.prog 24 #[.int .i64 cpus, .int .i64 limit] w fun e w' => e = .returned (.tuple #[.pointer none, .int .i64 2]) ∧ w' = w := by
  by_cases h1 : cpus < 1
  · go_enter Try.func24, Try.ntmps24
    go_wp2
    go_ret2
    exact ⟨rfl, rfl⟩
  · by_cases h2 : 8 < cpus
    · go_enter Try.func24, Try.ntmps24
      go_wp2
      go_ret2
      exact ⟨rfl, rfl⟩
    · by_cases h3 : limit < 0
      · go_enter Try.func24, Try.ntmps24
        go_wp2
        go_ret2
        exact ⟨rfl, rfl⟩
      · have h4 : 64 < limit := by unfold nArgOk at h; omega
        go_enter Try.func24, Try.ntmps24
        go_wp2
        go_ret2
        exact ⟨rfl, rfl⟩
set_option maxHeartbeats 2000000 in
set_option maxRecDepth 100000 in
theorem nCNew (n lim : Nat) (w : World) (h1 : 1 ≤ n ∧ n ≤ 8) (h2 : lim ≤ 64) : Calls Try.prog 22 #[.int .i64 n, .int .i64 lim] w (NewOk w 89 n lim) := by
  obtain ⟨O, hO, hr⟩ := makeL n (by omega)
  have HR := Lib.hid (near_new w 89 n lim O h1 h2 (by decide) hr)
  clear hr
  go_enter Try.func22, Try.ntmps22
  go_wp2
  go_ret2
  exact ⟨_, _, rfl, HR.out, below_one (below_one (Below.refl _ _) _) _, own_none⟩
set_option maxHeartbeats 2000000 in
set_option maxRecDepth 100000 in
theorem nRNew (n lim : Nat) (w : World) (h1 : 1 ≤ n ∧ n ≤ 8) (h2 : lim ≤ 64) : Calls Try.prog 24 #[.int .i64 n, .int .i64 lim] w (NewOk w 94 n lim) := by
  obtain ⟨O, hO, hr⟩ := makeL n (by omega)
  have HR := Lib.hid (near_new w 94 n lim O h1 h2 (by decide) hr)
  clear hr
  go_enter Try.func24, Try.ntmps24
  go_wp2
  go_ret2
  exact ⟨_, _, rfl, HR.out, below_one (below_one (Below.refl _ _) _) _, own_none⟩
section
variable {w w' w1 : World} {T : TypeId} {B g n lim : Nat} {vs vs1 vs' : Nat → Value} {f : F}
set_option maxHeartbeats 8000000 in
set_option maxRecDepth 100000 in
theorem rHas (h : NearG w 94 B g vs n lim f) (x : Int) (q : Bool) (hq : hasB f n x = q) :
    Calls Try.prog 78 #[.pointer (some ⟨B, 0, none⟩), .int .i64 x] w fun e w' => e = .returned (.bool q) ∧ w' = w := by
  have HA := Lib.hid h
  obtain ⟨c0, c1⟩ := h.self
  have hn := h.n1
  have HQ := Lib.hid hq
  clear h hq
  go_enter Try.func78, Try.ntmps78
  go_wp2
  go_loopw [5] (fun i wr => ∃ k : Nat, k ≤ n ∧ i = .int .i64 k ∧ Hid (∀ j, j < k → x ∉ f j) ∧ wr = w) (fun i _ => n - (intOf i).toNat)
  case atStart => exact ⟨0, by omega, rfl, Lib.hid (fun j hj => by omega), rfl⟩
  case round =>
    obtain ⟨k, hk, rfl, HN, rfl⟩ := hrel
    by_cases hlt : k < n
    · have c2 := HA.out.tab.cell hlt
      have hs := HA.out.shows hlt
      have hlen := HA.out.len k hlt
      have HT : Hid (x ∈ f k → q = true) := Lib.hid (fun e => by rw [← HQ.out]; exact hasB_iff.2 ⟨k, hlt, e⟩)
      have HF : Hid (x ∉ f k → ∀ j, j < k + 1 → x ∉ f j) := Lib.hid (fun e j hj => by
        by_cases ej : j = k
        · subst ej; exact e
        · exact HN.out j (by omega))
      obtain ⟨ao, cap, hv, hcap, hat⟩ := hs.form
      rw [hv] at c2
      generalize f k = l at *
      clear hs hv HN
      go_wp2
      go_loopw [6] (fun i wx => ∃ m : Nat, m ≤ l.length ∧ i = .int .i64 m ∧ Hid (x ∉ l.take m) ∧ wx = wr) (fun i _ => l.length - (intOf i).toNat)
      case atStart => exact ⟨0, by omega, rfl, Lib.hid (by simp), rfl⟩
      case round =>
        obtain ⟨m, hm, rfl, HM, rfl⟩ := hrel
        by_cases hml : m < l.length
        · obtain ⟨b1, o1, rfl, d1⟩ := hat m hml
          rw [← pk_at l m hml] at d1
          have HT2 : Hid (l[m] = x → q = true) := Lib.hid (fun e => HT.out (e ▸ List.getElem_mem hml))
          have HF2 : Hid (l[m] ≠ x → x ∉ l.take (m + 1)) := Lib.hid (fun e => not_take_succ hml HM.out e)
          generalize l[m] = y at d1 HT2 HF2
          by_cases hxy : y = x
          · have HT3 := Lib.hid (HT2.out hxy)
            subst hxy
            clear HT HF HT2 HF2 HM
            go_wp2
            go_ret
            exact ⟨ret_bool HT3.out.symm, rfl⟩
          · have HF3 := Lib.hid (HF2.out hxy)
            have hq : (y == x) = false := by rw [beq_eq_false_iff_ne]; exact hxy
            clear HT2 HF2 HM
            go_wp2
            go_roundw
            case rel => exact ⟨m + 1, by omega, by go_num, HF3, trivial⟩
            case measure => simp [intOf]; omega
        · obtain rfl : m = l.length := by omega
          have HF3 := Lib.hid (HF.out (by have := HM.out; rwa [List.take_length] at this))
          clear HT HF HM
          go_wp2
          go_roundw
          case rel => exact ⟨k + 1, by omega, by go_num, HF3, trivial⟩
          case measure => simp [intOf]; omega
    · obtain rfl : k = n := by omega
      have HQ2 : Hid (false = q) := Lib.hid (by rw [← HQ.out]; exact (hasB_no.2 HN.out).symm)
      go_wp2
      go_ret
      exact ⟨ret_bool HQ2.out, rfl⟩
end
end Go.Proofs.Ytlljomnpdgmifaa
