/-
  The program's view of words: in a world; kept, the shelf's closure, oneLess; a list of objects.
-/
import Derived.Test.YtnnfmlbgoplnaaaRse
import Derived.Test.YtnnfmlbgoplnaaaPpl
set_option linter.unusedVariables false
set_option linter.unusedSimpArgs false
namespace Go.Proofs.Ytnnfmlbgoplnaaa
open Go Go.RowKit

abbrev Ch.vw (c : Ch) (u : Value) : Array Value := #[u, .int .i64 c.cpus, .int .i64 c.slabs, .int .i64 c.objs, .int .i64 c.min, .int .i64 c.cap, .int .u64 c.key]
abbrev vwO (u : Value) (c : Ch) : Obj := .cells #[u, .int .i64 c.cpus, .int .i64 c.slabs, .int .i64 c.objs, .int .i64 c.min, .int .i64 c.cap, .int .u64 c.key] 65
abbrev VwAt (w : World) (K : Nat) (u : Value) (c : Ch) : Prop := BlkAt 65 w K (c.vw u)
theorem rtView : RT 65 7 := ⟨by kernel_rfl, Try.prog.fieldsOf 65, by kernel_rfl⟩
/-- a view at a block, in a world above another one -/
structure Vw (W : World) (i : Nat) (u : Value) (c : Ch) (w : World) : Prop where
  at1 : VwAt w i u c
  low : Below W.heap.size W w
section
variable {W w w' : World} {i : Nat} {u : Value} {c : Ch}
theorem Vw.next (h : Vw W i u c w) (hb : Below w.heap.size w w') : Vw W i u c w' := ⟨BlkAt.below h.at1 hb, below_then h.low hb⟩
theorem Vw.drew (h : Vw W i u c w) : Vw W i u c w.drew := ⟨h.at1, ⟨h.low.os, h.low.tape, h.low.output, h.low.size, h.low.block⟩⟩
theorem vw_new (w : World) (u : Value) (c : Ch) : Vw w w.heap.size u c (w.alloc (vwO u c)) := ⟨heap_new _ _, below_one (Below.refl _ _) _⟩
theorem Vw.eight (h : Vw W i u c w) : w.cell? ⟨i, 0, none⟩ = some u ∧ w.cell? ⟨i, 1, none⟩ = some (.int .i64 c.cpus) ∧ w.cell? ⟨i, 2, none⟩ = some (.int .i64 c.slabs) ∧ w.cell? ⟨i, 3, none⟩ = some (.int .i64 c.objs) ∧
    w.cell? ⟨i, 4, none⟩ = some (.int .i64 c.min) ∧ w.cell? ⟨i, 5, none⟩ = some (.int .i64 c.cap) ∧ w.cell? ⟨i, 6, none⟩ = some (.int .u64 c.key) ∧ Vw W i u c w :=
  ⟨h.at1.cell rfl, h.at1.cell rfl, h.at1.cell rfl, h.at1.cell rfl, h.at1.cell rfl, h.at1.cell rfl, h.at1.cell rfl, h⟩
end
/-- a list that is answered, and whether it is one -/
def Gives2 (w : World) (r : List Int × Int) (e : Ending) (w' : World) : Prop := ∃ ao cp, e = .returned (.tuple #[.slice ao r.1.length cp, .bool (decide (r.2 = 0))]) ∧ OwnI w.heap.size w' (.slice ao r.1.length cp) r.1 ∧ Below w.heap.size w w'
theorem gives2_nil {w w' : World} (hb : Below w.heap.size w w') {x : Int} {q : Bool} (hq : decide (x = 0) = q) : Gives2 w ([], x) (.returned (.tuple #[.slice none 0 0, .bool q])) w' := by
  subst hq
  exact ⟨none, 0, rfl, OwnI.nil _ _, hb⟩
theorem ret_tb {u : Value} {a b : Bool} (h : a = b) : Ending.returned (.tuple #[u, .bool a]) = .returned (.tuple #[u, .bool b]) := by rw [h]
/-! oneLess, kept, the shelf's closure -/
def oneV (v b : Int) : Int × Bool := if b < v then (0, false) else (v - 1, true)
set_option maxHeartbeats 1000000 in
theorem pOne (v b : Int) (hv : okW v) (hb : 0 ≤ b ∧ b ≤ 1000) (w : World) :
    Calls Try.prog 62 #[.int .u64 v, .int .i64 b] w fun e w' => e = .returned (.tuple #[.int .i64 (oneV v b).1, .bool (oneV v b).2]) ∧ w' = w := by
  obtain ⟨hb1, hb2⟩ := hb
  obtain ⟨hv1, hv2⟩ := hv
  have hwb : IntKind.u64.wrap b = b := by rw [IntKind.wrap_u64]; omega
  by_cases h : b < v
  · rw [show oneV v b = (0, false) from if_pos h]
    go_enter Try.func62, Try.ntmps62
    go_wp2
    go_ret2
    exact ⟨rfl, rfl⟩
  · rw [show oneV v b = (v - 1, true) from if_neg h]
    have hwi : IntKind.i64.wrap v = v := IntWalk.i64_in _ (by omega)
    have hwm : wrap64 (v - 1) = v - 1 := by unfold wrap64; omega
    have hwm2 : IntKind.i64.wrap (v - 1) = v - 1 := IntWalk.i64_in _ (by omega)
    go_enter Try.func62, Try.ntmps62
    go_wp2
    go_ret2
    exact ⟨rfl, rfl⟩
def fK (v : Int) : Int × Bool := (pS v, decide (isP v))
set_option maxHeartbeats 1000000 in
theorem pKept (v : Int) (hv : okW v) (w : World) :
    Calls Try.prog 60 #[.int .u64 v] w fun e w' => e = .returned (.tuple #[.int .i64 (fK v).1, .bool (fK v).2]) ∧ Below w.heap.size w w' := by
  have HP := Lib.hid (fun w => cOfP v hv w)
  unfold fK
  dsimp only
  generalize pS v = s at *
  generalize pM v = m at *
  generalize decide (isP v) = b at *
  clear hv
  go_enter Try.func60, Try.ntmps60
  go_wp2_with fail
  refine (HP.out _).mono ?_
  rintro e w1 ⟨rfl, hb1⟩
  have HB := Lib.hid hb1
  clear hb1
  go_wp2
  go_ret2
  exact ⟨rfl, HB.out⟩
set_option maxHeartbeats 1000000 in
theorem pShf (v b : Int) (hv : okW v) (hb : 0 ≤ b ∧ b ≤ 1000) (K : Nat) (w : World) (hc : w.cell? ⟨K, 2, none⟩ = some (.int .i64 b)) :
    Calls Try.prog 61 #[.int .u64 v, .pointer (some ⟨K, 0, none⟩)] w fun e w' => e = .returned (.tuple #[.int .i64 (oneV v b).1, .bool (oneV v b).2]) ∧ Below w.heap.size w w' := by
  have HP := Lib.hid (fun w => pOne v b hv hb w)
  generalize oneV v b = r at *
  obtain ⟨r1, r2⟩ := r
  dsimp only at HP ⊢
  clear hv hb
  go_enter Try.func61, Try.ntmps61
  go_wp2_with fail
  refine (HP.out _).mono ?_
  rintro e w1 ⟨rfl, rfl⟩
  go_wp2
  go_ret2
  exact ⟨rfl, Below.refl _ _⟩
/-! a list of objects -/
def objF (l : List Int) (c : Ch) (s a : Int) : List Int × Int := if s < 0 then ([], 0) else listF l c s a
theorem objF_err (l : List Int) (c : Ch) (s a : Int) : (objF l c s a).2 = 0 ∨ objF l c s a = ([], 150) := by
  unfold objF
  split
  · exact .inl rfl
  · exact listF_err _ _ _ _
theorem sub_len {l : List Int} {F N : Nat} (h : F + N ≤ l.length) : (sub l F N).length = N := by unfold sub; rw [List.length_take, List.length_drop]; omega
theorem link_out {c : Ch} {s : Int} (h : ¬ (0 ≤ s ∧ s < c.slabs)) : c.link s 0 = -1 := by
  unfold Ch.link
  rw [show inB s c.slabs = false from decide_eq_false h, Bool.false_and, Ch.at_false]
set_option maxHeartbeats 4000000 in
set_option maxRecDepth 100000 in
theorem pObjs (u : Value) (l : List Int) (c : Ch) (hw : c.wf) (ho : c.ok) (hl : (l.length : Int) = c.n) (s a : Int) (hs : -1 ≤ s) (w : World) (hu : ShowU w u l) :
    Calls Try.prog 58 #[.agg (c.vw u), .int .i64 s, .int .i64 a] w (Gives2 w (objF l c s a)) := by
  obtain ⟨ao, cap, rfl, ⟨hc1, hc2⟩, hat⟩ := hu.form
  by_cases h1 : s < 0
  · rw [show objF l c s a = ([], 0) from if_pos h1]
    obtain rfl : s = -1 := by omega
    clear hw ho hl hu hat hs
    go_enter Try.func58, Try.ntmps58
    go_wp2
    go_ret2
    exact gives2_nil (below_one (Below.refl _ _) _) rfl
  · have hsn : (s == -1) = false := by simp; omega
    rw [show objF l c s a = listF l c s a from if_neg h1]
    by_cases h2 : c.slabs ≤ s
    · rw [listF_bad (.inr (.inl h2))]
      have hL := fun w => pLink c hw s 0 w
      rw [link_out (by omega)] at hL
      have HL := Lib.hid hL
      have HT := Lib.hid (vw_new w (.slice ao l.length cap) c)
      clear hw ho hl hu hat hs h1 h2 hL
      go_enter Try.func58, Try.ntmps58
      go_wp2_with fail
      refine (HL.out _).mono ?_
      rintro e w1 ⟨rfl, hb1⟩
      have HB := Lib.hid (HT.out.next hb1)
      clear hb1
      go_wp2
      go_ret2
      exact gives2_nil HB.out.low rfl
    · have hp := Ch.prod_at ho (s := s) (by omega) (by omega)
      have hlk := link_in ho (s := s) (by omega) (by omega)
      have hL := fun w => pLink c hw s 0 w
      rw [hlk] at hL
      have hk := keyOf_range c s
      have hoo := ho
      obtain ⟨⟨o1, o2⟩, ⟨o3, o4⟩, ⟨o5, o6⟩, o7⟩ := ho
      obtain ⟨N, hN⟩ : ∃ N : Nat, c.objs = N := ⟨c.objs.toNat, by omega⟩
      obtain ⟨F, hF⟩ : ∃ F : Nat, c.l0 + s * c.objs = F := ⟨(c.l0 + s * c.objs).toNat, by unfold Ch.l0; omega⟩
      have hfit : F + N ≤ l.length := by
        unfold Ch.n at hl
        unfold Ch.l0 at hF
        omega
      obtain ⟨out, err, hr⟩ : ∃ out err, lst (Go.Proofs.Ytnnfmlbgoplnaaa.sub l F N) (c.keyOf s) a = (out, err) := ⟨_, _, rfl⟩
      have hR : (listF l c s a).2 = 0 ↔ err = 0 := by
        by_cases h3 : c.objs ≤ a
        · rw [listF_bad (.inr (.inr h3))]
          have := lst_bad (l := Go.Proofs.Ytnnfmlbgoplnaaa.sub l F N) (k := c.keyOf s) (a := a) (fun h => by unfold okL at h; rw [sub_len hfit] at h; omega)
          rw [this] at hr
          cases hr
          decide
        · rw [listF_ok (by omega), hF, hN, Int.toNat_natCast, Int.toNat_natCast, hr]
          by_cases he : err = 0 <;> simp [he]
      have hR1 : (listF l c s a).1 = out := by
        by_cases h3 : c.objs ≤ a
        · rw [listF_bad (.inr (.inr h3))]
          have := lst_bad (l := Go.Proofs.Ytnnfmlbgoplnaaa.sub l F N) (k := c.keyOf s) (a := a) (fun h => by unfold okL at h; rw [sub_len hfit] at h; omega)
          rw [this] at hr
          cases hr
          rfl
        · rw [listF_ok (by omega), hF, hN, Int.toNat_natCast, Int.toNat_natCast, hr]
          by_cases he : err = 0
          · simp [he]
          · rw [if_neg he]
            have hee : lst (Go.Proofs.Ytnnfmlbgoplnaaa.sub l F N) (c.keyOf s) a = ([], err) := by
              by_cases hok : okL (Go.Proofs.Ytnnfmlbgoplnaaa.sub l F N) a
              · rcases lst_err (k := c.keyOf s) hok with e | e
                · rw [hr] at e
                  exact absurd e he
                · rw [e] at hr
                  cases hr
                  exact e
              · have := lst_bad (k := c.keyOf s) hok
                rw [this] at hr
                cases hr
                exact this
            rw [hee] at hr
            cases hr
            rfl
      obtain ⟨R, hRR⟩ : ∃ R, listF l c s a = R := ⟨_, rfl⟩
      rw [hRR] at hR hR1 ⊢
      have HRE := Lib.hid hR
      obtain ⟨Ro, Re⟩ := R
      dsimp only at hR1 HRE
      subst hR1
      rw [hF] at hL
      obtain ⟨b, o, rfl, _⟩ := hat 0 (by omega)
      have hsub := hu.sub rfl F N hfit (cap - F) (by omega) (by omega)
      have HR : Hid (∀ w1, Below w.heap.size w w1 → Calls Try.prog 72 #[.slice (some ⟨b, o + F, none⟩) N (cap - F), .int .u64 (c.keyOf s), .int .i64 a] w1 fun e w' => ∃ ao cp, e = .returned (.tuple #[.slice ao Ro.length cp, .int .i64 err]) ∧ OwnI w.heap.size w' (.slice ao Ro.length cp) Ro ∧ Below w1.heap.size w1 w') := Lib.hid (fun w1 hb => (cList _ _ _ _ Ro err w1 (hsub.below hb) hk hr).mono (fun e w' ⟨ao, cp, h1, h2, h3⟩ => ⟨ao, cp, h1, h2.le hb.size, h3⟩))
      have HL := Lib.hid hL
      have HK := Lib.hid (fun w => pKey c s w)
      generalize c.keyOf s = key at *
      obtain ⟨p1, p2, p3, p4, p5, p6⟩ := c
      dsimp only at hN h2 o1 o2 o3 o4 o5 o6 o7
      subst hN
      have h00 := vw_new w (.slice (some ⟨b, o, none⟩) l.length cap) ⟨p1, p2, N, p4, p5, p6⟩
      have hFn : ((F : Int) == -1) = false := by simp
      clear hRR hR hu hat hsub hr hL hk hp hlk hl hF hoo hw o7 hs
      go_enter Try.func58, Try.ntmps58
      go_wp2_with fail
      refine (HL.out _).mono ?_
      rintro e w1 ⟨rfl, hb1⟩
      have hT1 := h00.next hb1
      have hT2 := hT1.drew
      clear hb1 HL h00
      go_wp2
      have hfn : ((F : Int) + (N : Int)).toNat - F = N := by omega
      have hcf : ¬ cap = F := by omega
      have hf0 : (0 : Int) ≤ (F : Int) := by omega
      have hf1 : (F : Int) ≤ (F : Int) + (N : Int) := by omega
      have hfc : ((F : Int) + (N : Int)) ≤ (cap : Int) := by omega
      have hw1 : IntKind.i64.wrap ((F : Int) + (N : Int)) = (F : Int) + (N : Int) := IntWalk.i64_in _ (by omega)
      go_region_held3 (fun w' => w'.cell? ⟨w.heap.size, 0, none⟩ = some (.slice (some ⟨b, o, none⟩) l.length cap) ∧ w'.cell? ⟨w.heap.size, 1, none⟩ = some (.int .i64 p1) ∧ w'.cell? ⟨w.heap.size, 2, none⟩ = some (.int .i64 p2) ∧ w'.cell? ⟨w.heap.size, 3, none⟩ = some (.int .i64 N) ∧ w'.cell? ⟨w.heap.size, 4, none⟩ = some (.int .i64 p4) ∧ w'.cell? ⟨w.heap.size, 5, none⟩ = some (.int .i64 p5) ∧ w'.cell? ⟨w.heap.size, 6, none⟩ = some (.int .u64 p6) ∧ Vw w w.heap.size (.slice (some ⟨b, o, none⟩) l.length cap) ⟨p1, p2, N, p4, p5, p6⟩ w')
        (first | exact Vw.eight (by assumption))
        (first
          | (go_at_call 29; refine (HK.out _).mono ?_; rintro e w3 ⟨rfl, hb3⟩; have hT3 := Vw.next (show Vw w w.heap.size _ _ _ from by assumption) hb3; clear hb3)
          | (go_at_call 72; refine (HR.out _ (Vw.low (show Vw w w.heap.size (.slice (some ⟨b, o, none⟩) l.length cap) ⟨p1, p2, N, p4, p5, p6⟩ _ from by assumption))).mono ?_; rintro e w4 ⟨ao4, cp4, rfl, ho4, hb4⟩; have hT4 := Vw.next (show Vw w w.heap.size _ _ _ from by assumption) hb4; have HO4 := Lib.hid ho4; clear ho4 hb4))
      all_goals
        have ho9 := HO4.out
        by_cases he : err = 0
        · have HE := Lib.hid (HRE.out.2 he)
          clear HRE
          subst he
          go_wp2
          go_ret2
          exact ⟨_, _, ret_tb (decide_eq_true HE.out).symm, ho9, hT4.low⟩
        · have HE : Hid (¬ Re = 0) := Lib.hid (fun e => he (HRE.out.1 e))
          have he2 : (err == 0) = false := by simpa using he
          have he3 : decide (err = 0) = false := decide_eq_false he
          clear HRE he
          go_wp2
          go_ret2
          exact ⟨_, _, ret_tb (decide_eq_false HE.out).symm, ho9, hT4.low⟩
end Go.Proofs.Ytnnfmlbgoplnaaa
