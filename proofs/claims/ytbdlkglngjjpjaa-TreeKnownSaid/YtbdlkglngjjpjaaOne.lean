/-
  A tree that is the call's own; the laws' helpers works and grown.
-/
import Derived.Test.YtbdlkglngjjpjaaRa
set_option linter.unusedVariables false
set_option linter.unusedSimpArgs false
namespace Go.Proofs.Ytbdlkglngjjpjaa
open Go Go.RowKit

/-- only blocks of these types change -/
def KT (Ts : List TypeId) (w w' : World) : Prop := ∃ S : Nat → Prop, Kept S w w' ∧ ∀ k, S k → Typ w Ts k
/-- the types of what a tree's calls change -/
def tysT : List TypeId := [49, 51]
structure T1 (W w : World) (B : Nat) (t : Tr) : Prop where
  tv : ∃ g cap, TV w B g cap t ∧ W.heap.size ≤ g
  ti : TI t
  low : Below W.heap.size W w
  ge : W.heap.size ≤ B
section
variable {W w w' : World} {B : Nat} {t t' : Tr} {x y a er : Int}
theorem KT.ofBelow {Ts : List TypeId} (h : Below w.heap.size w w') : KT Ts w w' := ⟨fun _ => False, Kept.ofBelow h, fun _ e => e.elim⟩
theorem KT.row {Ts : List TypeId} (h : KT Ts w w') {b n : Nat} {T : TypeId} {f : Nat → Value} (hr : w.rowIs b T n f) (hT : T ∉ Ts) : w'.rowIs b T n f := by
  obtain ⟨S, hk, hS⟩ := h
  exact row_kept2 hr hk hS hT
theorem T1.tq (h : T1 W w B t) : TQ w (some ⟨B, 0, none⟩) t := by
  obtain ⟨g, cap, h1, _⟩ := h.tv
  exact .inl ⟨B, g, cap, rfl, h1, h.ti⟩
theorem T1.kt {Ts : List TypeId} (h : T1 W w B t) (hk : KT Ts w w') (hb : Below W.heap.size W w') (hT : 49 ∉ Ts ∧ 51 ∉ Ts) : T1 W w' B t := by
  obtain ⟨g, cap, h1, h2⟩ := h.tv
  obtain ⟨S, hk, hS⟩ := hk
  exact ⟨⟨g, cap, h1.kept hk hS hT, h2⟩, h.ti, hb, h.ge⟩
theorem T1.below (h : T1 W w B t) (hb : Below w.heap.size w w') : T1 W w' B t := by
  obtain ⟨g, cap, h1, h2⟩ := h.tv
  exact ⟨⟨g, cap, h1.below hb, h2⟩, h.ti, below_then h.low hb, h.ge⟩
theorem T1.alloc (h : T1 W w B t) (o : Obj) : T1 W (w.alloc o) B t := h.below (below_one (Below.refl _ _) _)
theorem T1.drew (h : T1 W w B t) : T1 W w.drew B t := h.below (Below.refl _ w).drew
theorem tNew (W : World) : Calls Try.prog 8 #[] W fun e w' => ∃ B, e = .returned (.pointer (some ⟨B, 0, none⟩)) ∧ T1 W w' B noT := by
  refine (cNew W).mono ?_
  rintro e w' ⟨B, g, cap, rfl, h1, h2, h3, h4⟩
  exact ⟨B, rfl, ⟨g, cap, h1, h4⟩, TI.new, h2, h3⟩
theorem tAdd (h : T1 W w B t) (hr : AddIs t x a er t') :
    Calls Try.prog 11 #[.pointer (some ⟨B, 0, none⟩), .int .i64 x] w fun e w' => e = .returned (.tuple #[.int .i64 a, .int .i64 er]) ∧ T1 W w' B t' ∧ KT tysT w w' := by
  obtain ⟨g, cap, h1, h2⟩ := h.tv
  refine (cAdd h1 h.ti hr).mono ?_
  rintro e w' ⟨g', cap', rfl, h3, h4, h5⟩
  have hge : ∀ k, OwnT B g k → W.heap.size ≤ k := by
    rintro k (rfl | rfl)
    · exact h.ge
    · exact h2
  refine ⟨rfl, ⟨⟨g', cap', h3, ?_⟩, hr.ti h.ti, below_kept h.low h4 hge, h.ge⟩, _, h4, h1.typ⟩
  have := h.low.size
  rcases h5 with rfl | h5 <;> omega
theorem tOff (h : T1 W w B t) (hr : OffIs t x er t') :
    Calls Try.prog 13 #[.pointer (some ⟨B, 0, none⟩), .int .i64 x] w fun e w' => e = .returned (.int .i64 er) ∧ T1 W w' B t' ∧ KT tysT w w' := by
  obtain ⟨g, cap, h1, h2⟩ := h.tv
  refine (cOffline h1 h.ti hr).mono ?_
  rintro e w' ⟨rfl, h3, h4⟩
  have hge : ∀ k, OwnT B g k → W.heap.size ≤ k := by
    rintro k (rfl | rfl)
    · exact h.ge
    · exact h2
  exact ⟨rfl, ⟨⟨g, cap, h3, h2⟩, hr.ti h.ti, below_kept h.low h4 hge, h.ge⟩, _, h4, h1.typ⟩
theorem cEqYes (u v : Value) (l m : List Int) (hlm : l = m) (w : World) (hu : ShowI w u l) (hv : ShowI w v m) :
    Calls Try.prog 33 #[u, v] w fun e w' => e = .returned (.bool true) ∧ Below w.heap.size w w' := by
  refine (cEqInts u v l m w hu hv).mono ?_
  rintro e w' ⟨rfl, hb⟩
  exact ⟨by rw [decide_eq_true hlm], hb⟩
/-! ### the chapter's groups -/
def t2 : Tr := noT.add 1
def t3 : Tr := t2.add 2
def t4 : Tr := t3.off 2
def t5 : Tr := t4.off 3
set_option maxRecDepth 10000
theorem is2 : AddIs noT 1 2 0 t2 := .ok 1 rfl (by decide) (by decide) (by decide) (by decide)
theorem is3 : AddIs t2 2 3 0 t3 := .ok 2 rfl (by decide) (by decide) (by decide) (by decide)
theorem is4 : OffIs t3 2 0 t4 := .ok 2 rfl (by decide) (by decide)
theorem is5 : OffIs t4 3 0 t5 := .ok 3 rfl (by decide) (by decide)
theorem is6 : AddIs t5 3 0 110 t5 := .no (by decide)
theorem is7 : OffIs t5 1 292 t5 := .root rfl
theorem is8 : OffIs t5 2 292 t5 := .off 2 rfl (by decide) (by decide)
set_option maxHeartbeats 8000000 in
set_option maxRecDepth 100000 in
theorem works (W : World) : Calls Try.prog 16 #[] W fun e w' => e = .returned (.bool true) ∧ Below W.heap.size W w' := by
  go_enter Try.func16, Try.ntmps16
  go_wp2_with fail
  refine (tNew W).mono ?_
  rintro e w1 ⟨B, rfl, h1⟩
  have H1 := Lib.hid h1
  clear h1
  go_wp2_with fail
  refine (tAdd H1.out is2).mono ?_
  rintro e w2 ⟨rfl, h2, _⟩
  have H2 := Lib.hid h2
  clear h2
  go_wp2_with fail
  refine (tAdd H2.out is3).mono ?_
  rintro e w3 ⟨rfl, h3, _⟩
  have H3 := Lib.hid h3
  clear h3
  go_wp2_with fail
  refine (cPath (l := [3, 2, 1]) (by decide) H3.out.tq).mono ?_
  rintro e w4 ⟨ao, cap, rfl, hown, hb⟩
  have H4 := Lib.hid (And.intro (H3.out.below hb) hown.shows)
  clear hown hb
  go_wp2_with fail
  refine (cEqYes _ _ [3, 2, 1] [3, 2, 1] rfl _ (H4.out.2.below (below_one (Below.refl _ _) _)) (lit_i w4 3 [3, 2, 1] 3 rfl (by decide))).mono ?_
  rintro e w5 ⟨rfl, hb⟩
  have H5 := Lib.hid ((H4.out.1.alloc _).below hb)
  clear hb
  go_wp2_with fail
  refine (cDepth (d := 3) (by decide) H5.out.tq).mono ?_
  rintro e w6 ⟨rfl, hb⟩
  have H6 := Lib.hid (H5.out.below hb)
  clear hb
  go_wp2_with fail
  refine (tOff H6.out is4).mono ?_
  rintro e w7 ⟨rfl, h7, _⟩
  have H7 := Lib.hid h7
  clear h7
  go_wp2_with fail
  refine (cHeir (q := 3) (by decide) H7.out.tq).mono ?_
  rintro e w8 ⟨rfl, hb⟩
  have H8 := Lib.hid (H7.out.below hb)
  clear hb
  go_wp2_with fail
  refine (tOff H8.out is5).mono ?_
  rintro e w9 ⟨rfl, h9, _⟩
  have H9 := Lib.hid h9
  clear h9
  go_wp2_with fail
  refine (cHeir (q := 1) (by decide) H9.out.tq).mono ?_
  rintro e w10 ⟨rfl, hb⟩
  have H10 := Lib.hid (H9.out.below hb)
  clear hb
  go_wp2_with fail
  refine (tAdd H10.out is6).mono ?_
  rintro e w11 ⟨rfl, h11, _⟩
  have H11 := Lib.hid h11
  clear h11
  go_wp2_with fail
  refine (tOff H11.out is7).mono ?_
  rintro e w12 ⟨rfl, h12, _⟩
  have H12 := Lib.hid h12
  clear h12
  go_wp2_with fail
  refine (tOff H12.out is8).mono ?_
  rintro e w13 ⟨rfl, h13, _⟩
  have H13 := Lib.hid h13
  clear h13
  go_wp2_with fail
  refine (cBelow (q := true) (by decide) H13.out.tq).mono ?_
  rintro e w14 ⟨rfl, hb⟩
  have H14 := Lib.hid (H13.out.below hb)
  clear hb
  go_wp2_with fail
  refine (cParent H14.out.tq 1 0 (by decide)).mono ?_
  rintro e w15 ⟨rfl, rfl⟩
  go_wp2
  go_ret
  exact ⟨rfl, H14.out.low⟩
set_option maxHeartbeats 4000000 in
set_option maxRecDepth 100000 in
theorem cGrown (u : Value) (l : List Wt) (W : World) (hs : ShowW W u l) : Calls Try.prog 17 #[u] W fun e w' => ∃ B t, e = .returned (.pointer (some ⟨B, 0, none⟩)) ∧ T1 W w' B t := by
  obtain ⟨ao, cap, rfl, hcap, hat⟩ := hs.form
  clear hs
  go_enter Try.func17, Try.ntmps17
  go_wp2_with fail
  refine (tNew W).mono ?_
  rintro e w1 ⟨B, rfl, h1⟩
  have H1 := Lib.hid h1
  clear h1
  go_wp2
  go_loopw [4] (fun i wr => ∃ k : Nat, k ≤ l.length ∧ k ≤ 60 ∧ i = .int .i64 k ∧ Hid (∃ t, T1 W wr B t)) (fun i _ => l.length - (intOf i).toNat)
  case atStart => exact ⟨0, by omega, by omega, rfl, Lib.hid ⟨_, H1.out⟩⟩
  case round =>
    clear H1
    obtain ⟨k, hk, hk60, rfl, HS⟩ := hrel
    by_cases hlt : k < l.length
    · by_cases hlt2 : k < 60
      · obtain ⟨t, ht⟩ := HS.out
        have HT := Lib.hid ht
        obtain ⟨b1, o1, rfl, c0, c1⟩ := hat k hlt
        have d0 := cell_keep ht.low c0
        have d1 := cell_keep ht.low c1
        clear c0 c1 HS ht
        generalize (wt l k).who = kd at d0
        generalize (wt l k).due = ga at d1
        obtain ⟨q, hq⟩ : ∃ q, bring kd 4 = q := ⟨_, rfl⟩
        have HQ := Lib.hid hq
        obtain ⟨x, hx⟩ : ∃ x, bring ga 18 = x := ⟨_, rfl⟩
        have HX := Lib.hid hx
        clear hq hx
        go_wp2_with fail
        refine (cBringN kd 4 4 rfl (by decide) _).mono ?_
        rintro e w2 ⟨rfl, rfl⟩
        rw [HQ.out]
        by_cases h3 : q < 3
        · obtain ⟨a, er, t', hr⟩ := add_is HT.out.ti (x : Int)
          have HR := Lib.hid hr
          have hq3 : (q : Int) < 3 := by omega
          clear hr
          go_wp2_with fail
          refine (cBringN ga 18 18 rfl (by decide) _).mono ?_
          rintro e w2 ⟨rfl, rfl⟩
          rw [HX.out]
          go_wp2_with fail
          refine (tAdd HT.out HR.out).mono ?_
          rintro e w3 ⟨rfl, h4, _⟩
          have H4 := Lib.hid h4
          clear h4 d0 d1
          go_wp2
          go_roundw
          case rel => exact ⟨k + 1, by omega, by omega, by go_num, Lib.hid ⟨_, H4.out⟩⟩
          case measure => simp [intOf]; omega
        · obtain ⟨er, t', hr⟩ := off_is t (x : Int)
          have HR := Lib.hid hr
          have hq3 : ¬ (q : Int) < 3 := by omega
          clear hr
          go_wp2_with fail
          refine (cBringN ga 18 18 rfl (by decide) _).mono ?_
          rintro e w2 ⟨rfl, rfl⟩
          rw [HX.out]
          go_wp2_with fail
          refine (tOff HT.out HR.out).mono ?_
          rintro e w3 ⟨rfl, h4, _⟩
          have H4 := Lib.hid h4
          clear h4 d0 d1
          go_wp2
          go_roundw
          case rel => exact ⟨k + 1, by omega, by omega, by go_num, Lib.hid ⟨_, H4.out⟩⟩
          case measure => simp [intOf]; omega
      · obtain rfl : k = 60 := by omega
        rw [show ((60 : Nat) : Int) = 60 from rfl]
        obtain ⟨t, ht⟩ := HS.out
        have HT := Lib.hid ht
        clear ht HS
        go_wp2
        go_ret
        exact ⟨B, t, rfl, HT.out⟩
    · obtain rfl : k = l.length := by omega
      obtain ⟨t, ht⟩ := HS.out
      have HT := Lib.hid ht
      clear ht HS
      go_wp2
      go_ret
      exact ⟨B, t, rfl, HT.out⟩
end
end Go.Proofs.Ytbdlkglngjjpjaa
