/-
  polled of what is noted.
-/
import Derived.Test.YtnnpclknlccmiaaRep
set_option linter.unusedVariables false
set_option linter.unusedSimpArgs false
namespace Go.Proofs.Ytnnpclknlccmiaa
open Go Go.RowKit

theorem infoR17 : (Try.prog.info? 68).map (·.size) = some 17 := by kernel_rfl
theorem rc_drop (l : List Rc) (i j : Nat) : rc (l.drop i) j = rc l (i + j) := by simp [rc, List.getD_eq_getElem?_getD, List.getElem?_drop]
theorem below_setRow {w0 w : World} (h : Below w0.heap.size w0 w) {g : Nat} (hg : w0.heap.size ≤ g) (cs : Array Value) : Below w0.heap.size w0 (w.setRow g cs) :=
  ⟨h.os, h.tape, h.output, by simpa using h.size, fun k hk => (setRow_other w g k cs (by omega)).trans (h.block k hk)⟩
/-- the rows lie in no block that they did not lie in -/
def SubB (vs' vs : Nat → Value) : Prop := ∀ i, i < 3 → ∀ b, (vs' i).ownBlock = some b → (vs i).ownBlock = some b
theorem SubB.sb {vs' vs : Nat → Value} {K : Nat} (h : SubB vs' vs) : ∀ b, SB K vs' b → SB K vs b := by
  rintro b (e | ⟨i, hi, e⟩)
  · exact .inl e
  · exact .inr ⟨i, hi, h i hi b e⟩
/-- what has been polled so far has nobody to wait for -/
def Free (k : Bk) (c : Nat) (l : List Int) : Prop := ∀ i, i < l.length → i < (k.cs c).length ∧ (rc (k.cs c) i).id = pk l i ∧ ∀ p, p < 3 → (rc (k.cs c) i).ins p = false ∧ (rc (k.cs c) i).sil p = false
/-- how far it is -/
def Far (w : World) (K : Nat) (vs : Nat → Value) (k : Bk) (c i : Nat) (u : Value) (l : List Int) (wr : World) : Prop :=
  ∃ vs', KV wr K vs' (k.row c ((k.cs c).drop i)) ∧ Kept (SB K vs) w wr ∧ SubB vs' vs ∧ OwnI 0 wr u l
section
variable {w w' : World} {K : Nat} {vs : Nat → Value} {k : Bk} {c : Nat} {u : Value} {l : List Int}
theorem Far.below {i : Nat} {wr wx : World} (h : Far w K vs k c i u l wr) (hb : Below wr.heap.size wr wx) : Far w K vs k c i u l wx := by
  obtain ⟨vs', h1, h2, h3, h4⟩ := h
  exact ⟨vs', h1.below hb, h2.trans (Kept.ofBelow hb), h3, h4.below hb⟩
/-- the first one leaves -/
theorem Far.cut {i N b O cap : Nat} {wr : World} {vs' : Nat → Value} {v' : Value} (hc : c < 3) (h1 : KV wr K vs' (k.row c ((k.cs c).drop i))) (h2 : Kept (SB K vs) w wr) (h3 : SubB vs' vs) (h4 : OwnI 0 wr u l) (hv : vs' c = .slice (some ⟨b, O, none⟩) (N + 1) cap) (hN : ((k.cs c).drop i).length = N + 1)
    (hr : RowR wr v' ((k.cs c).drop (i + 1))) (hb : v'.ownBlock = some b) : Far w K vs k c (i + 1) u l (wr.setCell ⟨K, 3 + c, none⟩ v') := by
  obtain ⟨x, hx⟩ := h1.typ c hc b (by rw [hv]; rfl)
  obtain ⟨s1, s2⟩ := h1.put2 (S := fun _ => False) (l' := (k.cs c).drop (i + 1)) hc (Kept.refl _ wr) (fun _ e => e.elim) hr (fun b' e => by
    rw [hb] at e
    obtain rfl : b = b' := by simpa using e
    exact ⟨⟨x, hx⟩, .inl (by rw [hv]; rfl)⟩)
  rw [row_row] at s1
  refine ⟨_, s1, h2.trans (s2.mono h3.sb), fun j hj b' e => ?_, own_kept2 h4 s2 h1.tys (by decide)⟩
  by_cases ej : j = c
  · subst ej
    rw [upd_same, hb] at e
    obtain rfl : b = b' := by simpa using e
    exact h3 j hj b (by rw [hv]; rfl)
  · rw [upd_other _ _ ej] at e
    exact h3 j hj b' e
set_option maxHeartbeats 8000000 in
set_option maxRecDepth 100000 in
theorem cPolled (h : KV w K vs k) (hc : c < 3) (hu : OwnI 0 w u l) (hf : Free k c l) :
    Calls Try.prog 37 #[.pointer (some ⟨K, 0, none⟩), .int .i64 c, u] w fun e w' => e = .returned (.bool true) ∧ Far w K vs k c l.length u l w' := by
  have HF := Lib.hid hf
  have H0 : Hid (Far w K vs k c 0 u l w) := Lib.hid ⟨vs, by rw [List.drop_zero, row_self]; exact h, Kept.refl _ _, fun _ _ _ e => e, hu⟩
  obtain ⟨ua, uc, hus, hu1, hu2⟩ := own_shape hu
  subst hus
  have hci : (c : Int) < 3 := by omega
  clear h hu hf
  go_enter Try.func37, Try.ntmps37
  go_wp2
  go_loopw [7, 9] (fun x y wr => ∃ i : Nat, i ≤ l.length ∧ x = .int .i64 i ∧ Hid (Far w K vs k c i (.slice ua l.length uc) l wr)) (fun x _ _ => l.length - (intOf x).toNat)
  case atStart => exact ⟨0, by omega, rfl, H0⟩
  case round =>
    clear H0
    obtain ⟨i, hi, rfl, HX⟩ := hrel
    by_cases hlt : i < l.length
    · obtain ⟨vs', h1, h2, h3, h4⟩ := HX.out
      obtain ⟨f1, f2, f3⟩ := HF.out i hlt
      have cc := h1.cc hc
      have cf := h1.fr (3 + c)
      have hrow := h1.row c hc
      rw [show (k.row c ((k.cs c).drop i)).cs c = (k.cs c).drop i from upd_same _ _ _] at hrow
      obtain ⟨N, hN⟩ : ∃ N, ((k.cs c).drop i).length = N + 1 := ⟨(k.cs c).length - i - 1, by rw [List.length_drop]; omega⟩
      obtain ⟨b, O, cap, cur, hv, hc1, hc2, hb, _, hat⟩ := hrow.some (by omega)
      have hr0 : rc ((k.cs c).drop i) 0 = rc (k.cs c) i := by rw [rc_drop]; rfl
      have h0 := hat 0 (by omega)
      rw [hr0, Nat.zero_mul, Nat.add_zero] at h0
      rw [hN] at hv hc1
      obtain ⟨_, _, hus, _, hus2⟩ := (own_i h4).form
      cases hus
      obtain ⟨ub, uo, rfl, du⟩ := hus2 i hlt
      have hz := h0 0 (by omega)
      rw [rc_id, f2, Nat.add_zero] at hz
      have HP : Hid (∀ p, p < 3 → (rc (k.cs c) i).ins p = false ∧ (rc (k.cs c) i).sil p = false) := Lib.hid f3
      generalize rc (k.cs c) i = x at *
      have HRANGE : Hid (∀ m, (wr.drewN m).rangeAt b O [.int .i64 x.id, .bool (x.ins 0), .bool (x.ins 1), .bool (x.ins 2), .bool (x.ins 3), .bool (x.ins 4), .bool (x.ins 5), .bool (x.ins 6), .bool (x.ins 7), .bool (x.sil 0), .bool (x.sil 1), .bool (x.sil 2), .bool (x.sil 3), .bool (x.sil 4), .bool (x.sil 5), .bool (x.sil 6), .bool (x.sil 7)]) := Lib.hid (fun m j v hj => by
        have hj17 : j < 17 := (List.getElem?_eq_some_iff.1 hj).1
        have := h0 j hj17
        show wr.cell? _ = _
        rw [this]
        exact hj)
      have HV := Lib.hid (And.intro h1 (And.intro h2 (And.intro h3 h4)))
      have HR := Lib.hid hrow
      have HE := Lib.hid (And.intro hv hN)
      rw [hv] at cc
      have hne : (((N : Int) + 1) == 0) = false := by simp; omega
      have hyy : (pk l i != pk l i) = false := by simp
      generalize pk l i = y at *
      clear h1 h2 h3 h4 hrow hat h0 hr0 f1 f2 f3 hv hN HX hus2 hb
      go_wp2
      go_quiet (fail)
      go_wp2_with (first
        | (refine wpList_load_mid (by rfl) _ _ (by rfl) b O (by rfl) _ _ (HRANGE.out _) Try.underlying68 (by rfl) infoR17 ?_)
        | (refine wpList_store_row (by rfl) _ _ _ (by rfl) wr.heap.size _ (by rfl) (by rfl) 68 _ (heap_new' _ _ _ rfl) infoR17 (by rfl) (all_oneCell_toArray (cs := x.cells) (rcells_one x)) ?_))
      have hB : Hid ((((wr.drewN nq).alloc (.cells #[.int .i64 0, .bool false, .bool false, .bool false, .bool false, .bool false, .bool false, .bool false, .bool false, .bool false, .bool false, .bool false, .bool false, .bool false, .bool false, .bool false, .bool false] 68)).setRow wr.heap.size x.cells.toArray).heap[wr.heap.size]? = some (.cells x.cells.toArray 68)) := Lib.hid (setRow_heap _ _ _ _ _ _ (heap_new' _ _ _ rfl))
      have hbel : Below wr.heap.size wr (((wr.drewN nq).alloc (.cells #[.int .i64 0, .bool false, .bool false, .bool false, .bool false, .bool false, .bool false, .bool false, .bool false, .bool false, .bool false, .bool false, .bool false, .bool false, .bool false, .bool false, .bool false] 68)).setRow wr.heap.size x.cells.toArray) := below_setRow (below_one (below_drewN (Below.refl _ wr) nq) _) (Nat.le_refl _) _
      have HBEL := Lib.hid hbel
      have ccB := cell_keep hbel cc
      have cfB := (HV.out.1.below hbel).fr (3 + c)
      generalize ((wr.drewN nq).alloc (.cells #[.int .i64 0, .bool false, .bool false, .bool false, .bool false, .bool false, .bool false, .bool false, .bool false, .bool false, .bool false, .bool false, .bool false, .bool false, .bool false, .bool false, .bool false] 68)).setRow wr.heap.size x.cells.toArray = w2 at *
      clear hbel HRANGE cc cf hz du
      go_loop [9] (fun y => ∃ m : Nat, m ≤ 3 ∧ y = .int .i64 m) (fun y => 3 - (intOf y).toNat)
      case atStart => exact ⟨0, by omega, rfl⟩
      case round =>
        obtain ⟨m, hm, rfl⟩ := hrel
        by_cases hm3 : m < 3
        · have q1 : w2.cell? ⟨wr.heap.size, 1 + m, none⟩ = some (.bool false) := self_cell hB.out _ _ (by
            have := rc_ins x (show m < 8 by omega)
            rw [(HP.out m hm3).1] at this
            simpa using this)
          have q2 : w2.cell? ⟨wr.heap.size, 9 + m, none⟩ = some (.bool false) := self_cell hB.out _ _ (by
            have := rc_sil x (show m < 8 by omega)
            rw [(HP.out m hm3).2] at this
            simpa using this)
          have hmd : decide ((m : Int) < 3) = true := decide_eq_true (by omega)
          have hm8 : m < 8 := by omega
          go_wp2
          go_round
          case rel => exact ⟨m + 1, by omega, by go_num⟩
          case measure => simp [intOf]; omega
        · obtain rfl : m = 3 := by omega
          rw [show ((3 : Nat) : Int) = 3 from rfl]
          have HVB := Lib.hid (Far.below ⟨vs', HV.out.1, HV.out.2.1, HV.out.2.2.1, HV.out.2.2.2⟩ HBEL.out)
          have HRB := Lib.hid (HR.out.of_block (w' := w2) (fun bb _ ⟨_, hbb⟩ => HBEL.out.block bb (lt_of_block hbb)))
          have HKB := Lib.hid (And.intro (HV.out.1.below HBEL.out) (And.intro (HV.out.2.1.trans (Kept.ofBelow HBEL.out)) (HV.out.2.2.2.below HBEL.out)))
          by_cases hc1' : cap = 1
          · subst hc1'
            have hN0 : N = 0 := by omega
            subst hN0
            have HC : Hid (Far w K vs k c (i + 1) (.slice (some ⟨ub, uo, none⟩) l.length uc) l (w2.setCell ⟨K, 3 + c, none⟩ (.slice (some ⟨b, O, none⟩) 0 0))) := Lib.hid (Far.cut hc HKB.out.1 HKB.out.2.1 HV.out.2.2.1 HKB.out.2.2 HE.out.1 HE.out.2 (.inl ⟨_, rfl, List.eq_nil_of_length_eq_zero (by have := HE.out.2; simp at this ⊢; omega)⟩) rfl)
            clear HVB HRB HKB
            go_wp2
            go_region
            all_goals
              go_wp2
              go_roundw
              case rel => exact ⟨i + 1, by omega, by go_num, Lib.hid (HC.out.below (Below.refl _ _).drew)⟩
              case measure => simp [intOf]; omega
          · have HT := RowR.tail (w := w2) (b := b) (O := O) (cap := cap) (l := (k.cs c).drop i) (by have := HRB.out; rw [HE.out.1] at this; rw [HE.out.2]; exact this) (by rw [HE.out.2]; omega) hc1'
            rw [HE.out.2, List.drop_drop] at HT
            have HC : Hid (Far w K vs k c (i + 1) (.slice (some ⟨ub, uo, none⟩) l.length uc) l (w2.setCell ⟨K, 3 + c, none⟩ (.slice (some ⟨b, O + 17, none⟩) N (cap - 1)))) := Lib.hid (Far.cut hc HKB.out.1 HKB.out.2.1 HV.out.2.2.1 HKB.out.2.2 HE.out.1 HE.out.2 HT rfl)
            clear HVB HRB HKB HT
            go_wp2
            go_region
            all_goals
              go_wp2
              go_roundw
              case rel => exact ⟨i + 1, by omega, by go_num, Lib.hid (HC.out.below (Below.refl _ _).drew)⟩
              case measure => simp [intOf]; omega
    · obtain rfl : i = l.length := by omega
      go_wp2
      go_ret
      exact ⟨rfl, HX.out⟩
end
end Go.Proofs.Ytnnpclknlccmiaa
