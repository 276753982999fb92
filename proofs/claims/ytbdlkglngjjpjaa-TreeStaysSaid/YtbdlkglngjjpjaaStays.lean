/-
  The law TreeStays, walked.
-/
import Derived.Test.YtbdlkglngjjpjaaPaths
set_option linter.unusedVariables false
set_option linter.unusedSimpArgs false
namespace Go.Proofs.Ytbdlkglngjjpjaa
open Go Go.RowKit

theorem infoN : (Try.prog.info? 45).map (fun i => (i.zero, i.size, i.bytes)) = some (some (.agg (Array.replicate 17 (.int .i64 0))), 17, 136) := by kernel_rfl
theorem makeN : ∃ Z : Array Value, (∀ w : World, (zeroValue 45).run Try.prog w = .ok (.agg Z) w) ∧ ∀ w : World, (w.alloc (.cells Z 45)).rowIs w.heap.size 45 17 (fun _ => .int .i64 0) :=
  ⟨_, run_zero infoN, fun w => ⟨_, heap_new _ _, by simp, fun i hi => by simp [hi]⟩⟩
def fillN (f : Nat → Nat) (g x : Nat) : Value := .int .i64 (if 1 ≤ x ∧ x < g then ((f x : Nat) : Int) else 0)
def fillB (f : Nat → Bool) (g x : Nat) : Value := .bool (if 1 ≤ x ∧ x < g then f x else false)
theorem fillN_next (f : Nat → Nat) {g : Nat} (hg : 1 ≤ g) (i : Nat) : (if i = g then Value.int .i64 ((f g : Nat) : Int) else fillN f g i) = fillN f (g + 1) i := by
  unfold fillN
  by_cases e : i = g
  · subst e; rw [if_pos rfl, if_pos (by omega)]
  · rw [if_neg e]
    by_cases e2 : 1 ≤ i ∧ i < g
    · rw [if_pos e2, if_pos (by omega)]
    · rw [if_neg e2, if_neg (by omega)]
theorem fillB_next (f : Nat → Bool) {g : Nat} (hg : 1 ≤ g) (i : Nat) : (if i = g then Value.bool (f g) else fillB f g i) = fillB f (g + 1) i := by
  unfold fillB
  by_cases e : i = g
  · subst e; rw [if_pos rfl, if_pos (by omega)]
  · rw [if_neg e]
    by_cases e2 : 1 ≤ i ∧ i < g
    · rw [if_pos e2, if_pos (by omega)]
    · rw [if_neg e2, if_neg (by omega)]
theorem fillN_at {f : Nat → Nat} {g x : Nat} (h : 1 ≤ x ∧ x < g) : fillN f g x = .int .i64 ((f x : Nat) : Int) := by unfold fillN; rw [if_pos h]
theorem fillB_at {f : Nat → Bool} {g x : Nat} (h : 1 ≤ x ∧ x < g) : fillB f g x = .bool (f x) := by unfold fillB; rw [if_pos h]
section
variable {W w w' : World} {B U D O : Nat} {t t' : Tr} {fu fd fo fu' fd' fo' : Nat → Value} {x a er : Int}
/-- three arrays beside the tree -/
structure SK (W w : World) (B : Nat) (t : Tr) (U D O : Nat) (fu fd fo : Nat → Value) : Prop where
  o : T1 W w B t
  u : w.rowIs U 45 17 fu
  d : w.rowIs D 45 17 fd
  n : w.rowIs O 42 17 fo
  ge : W.heap.size ≤ U ∧ W.heap.size ≤ D ∧ W.heap.size ≤ O
  ne : U ≠ D
theorem SK.kt (h : SK W w B t U D O fu fd fo) (ho : T1 W w' B t') (hk : KT tysT w w') : SK W w' B t' U D O fu fd fo :=
  ⟨ho, hk.row h.u (by decide), hk.row h.d (by decide), hk.row h.n (by decide), h.ge, h.ne⟩
theorem SK.below (h : SK W w B t U D O fu fd fo) (hb : Below w.heap.size w w') : SK W w' B t U D O fu fd fo := h.kt (h.o.below hb) (KT.ofBelow hb)
theorem SK.drew (h : SK W w B t U D O fu fd fo) : SK W w.drew B t U D O fu fd fo := h.below (Below.refl _ w).drew
theorem row_typ {b n : Nat} {T : TypeId} {f : Nat → Value} (h : w.rowIs b T n f) : ∀ k, k = b → Typ w [T] k := by
  rintro k rfl
  obtain ⟨c, hb, _⟩ := h
  exact ⟨c, _, _, hb, by simp⟩
theorem SK.setU (h : SK W w B t U D O fu fd fo) (i : Nat) (v : Value) (hf : ∀ j, (if j = i then v else fu j) = fu' j) : SK W (w.setCell ⟨U, i, none⟩ v) B t U D O fu' fd fo := by
  have hk : Kept (· = U) w (w.setCell ⟨U, i, none⟩ v) := Kept.setCell (S := (· = U)) (p := ⟨U, i, none⟩) (Kept.refl _ w) rfl _
  exact ⟨h.o.kt ⟨_, hk, row_typ h.u⟩ (below_kept h.o.low hk (fun k e => by subst e; exact h.ge.1)) (by decide), (h.u.set i v).congr (fun j _ => hf j), row_kept h.d hk (fun e => h.ne e.symm), row_kept2 h.n hk (row_typ h.u) (by decide), h.ge, h.ne⟩
theorem SK.setD (h : SK W w B t U D O fu fd fo) (i : Nat) (v : Value) (hf : ∀ j, (if j = i then v else fd j) = fd' j) : SK W (w.setCell ⟨D, i, none⟩ v) B t U D O fu fd' fo := by
  have hk : Kept (· = D) w (w.setCell ⟨D, i, none⟩ v) := Kept.setCell (S := (· = D)) (p := ⟨D, i, none⟩) (Kept.refl _ w) rfl _
  exact ⟨h.o.kt ⟨_, hk, row_typ h.d⟩ (below_kept h.o.low hk (fun k e => by subst e; exact h.ge.2.1)) (by decide), row_kept h.u hk h.ne, (h.d.set i v).congr (fun j _ => hf j), row_kept2 h.n hk (row_typ h.d) (by decide), h.ge, h.ne⟩
theorem SK.setO (h : SK W w B t U D O fu fd fo) (i : Nat) (v : Value) (hf : ∀ j, (if j = i then v else fo j) = fo' j) : SK W (w.setCell ⟨O, i, none⟩ v) B t U D O fu fd fo' := by
  have hk : Kept (· = O) w (w.setCell ⟨O, i, none⟩ v) := Kept.setCell (S := (· = O)) (p := ⟨O, i, none⟩) (Kept.refl _ w) rfl _
  exact ⟨h.o.kt ⟨_, hk, row_typ h.n⟩ (below_kept h.o.low hk (fun k e => by subst e; exact h.ge.2.2)) (by decide), row_kept2 h.u hk (row_typ h.n) (by decide), row_kept2 h.d hk (row_typ h.n) (by decide), (h.n.set i v).congr (fun j _ => hf j), h.ge, h.ne⟩
theorem SK.cu (h : SK W w B t U D O fu fd fo) {i : Nat} (hi : i < 17) : w.cell? ⟨U, i, none⟩ = some (fu i) := h.u.cell hi
theorem SK.cd (h : SK W w B t U D O fu fd fo) {i : Nat} (hi : i < 17) : w.cell? ⟨D, i, none⟩ = some (fd i) := h.d.cell hi
theorem SK.cn (h : SK W w B t U D O fu fd fo) {i : Nat} (hi : i < 17) : w.cell? ⟨O, i, none⟩ = some (fo i) := h.n.cell hi
theorem sDepth (h : SK W w B t U D O fu fd fo) {d : Nat} (hd : (path t (nu t.n x)).length = d) :
    Calls Try.prog 20 #[.pointer (some ⟨B, 0, none⟩), .int .i64 x] w fun e w' => e = .returned (.int .i64 d) ∧ SK W w' B t U D O fu fd fo := by
  refine (cDepth hd h.o.tq).mono ?_
  rintro e w' ⟨rfl, hb⟩
  exact ⟨rfl, h.below hb⟩
theorem sAdd (h : SK W w B t U D O fu fd fo) (hr : AddIs t x a er t') :
    Calls Try.prog 11 #[.pointer (some ⟨B, 0, none⟩), .int .i64 x] w fun e w' => e = .returned (.tuple #[.int .i64 a, .int .i64 er]) ∧ SK W w' B t' U D O fu fd fo := by
  refine (tAdd h.o hr).mono ?_
  rintro e w' ⟨rfl, h1, h2⟩
  exact ⟨rfl, h.kt h1 h2⟩
theorem sOff (h : SK W w B t U D O fu fd fo) (hr : OffIs t x er t') :
    Calls Try.prog 13 #[.pointer (some ⟨B, 0, none⟩), .int .i64 x] w fun e w' => e = .returned (.int .i64 er) ∧ SK W w' B t' U D O fu fd fo := by
  refine (tOff h.o hr).mono ?_
  rintro e w' ⟨rfl, h1, h2⟩
  exact ⟨rfl, h.kt h1 h2⟩
/-- what the arrays say of the tree -/
def Says (N : Nat) (t : Tr) (fu fd fo : Nat → Value) : Prop := N ≤ t.n ∧ ∀ g, 1 ≤ g → g ≤ N → fu g = .int .i64 ((t.up g : Nat) : Int) ∧ fd g = .int .i64 (((path t g).length : Nat) : Int) ∧ fo g = .bool (t.on g)
theorem says_fill (t : Tr) : Says t.n t (fillN t.up (t.n + 1)) (fillN (fun g => (path t g).length) (t.n + 1)) (fillB t.on (t.n + 1)) :=
  ⟨Nat.le_refl _, fun g h1 h2 => ⟨fillN_at (by omega), fillN_at (f := fun g => (path t g).length) (by omega), fillB_at (by omega)⟩⟩
theorem Says.add {p : Nat} (h : Says t.n t fu fd fo) (hI : TI t) : Says t.n (t.add p) fu fd fo :=
  ⟨by show t.n ≤ t.n + 1; omega, fun g h1 h2 => by rw [add_up h2, add_on h2, path_add hI g h2]; exact h.2 g h1 h2⟩
theorem Says.off {k : Nat} (h : Says t.n t fu fd fo) : Says t.n (t.off k) fu fd (fun j => if j = k then .bool false else fo j) :=
  ⟨Nat.le_refl _, fun g h1 h2 => by
    obtain ⟨h3, h4, h5⟩ := h.2 g h1 h2
    refine ⟨h3, by rw [path_off]; exact h4, ?_⟩
    show (if g = k then Value.bool false else fo g) = Value.bool (upd t.on k false g)
    by_cases e : g = k
    · subst e; rw [if_pos rfl, upd_same]
    · rw [if_neg e, upd_other _ _ e]; exact h5⟩
end
set_option maxHeartbeats 8000000 in
set_option maxRecDepth 100000 in
theorem walkStays (u : Value) (l : List Wt) (x1 x2 : Int) (W : World) (hs : ShowW W u l) : Calls Try.prog 6 #[u, .int .i64 x1, .int .i64 x2] W fun e W' => e = .returned (.bool true) ∧ Below W.heap.size W W' := by
  obtain ⟨ZB, hzeroB, hZB⟩ := makeS
  obtain ⟨ZN, hzeroN, hZN⟩ := makeN
  have HZB := Lib.hid hZB
  have HZN := Lib.hid hZN
  have HS := Lib.hid hs
  clear hs hZB hZN
  go_enter Try.func6, Try.ntmps6
  go_wp2_with fail
  refine (cGrown u l W HS.out).mono ?_
  rintro e w1 ⟨B, t, rfl, h1⟩
  have H1 := Lib.hid h1
  have HI := Lib.hid h1.ti
  obtain ⟨N, hN⟩ : ∃ N, t.n = N := ⟨_, rfl⟩
  have HN := Lib.hid hN
  have hN16 : 1 ≤ N ∧ N ≤ 16 := by have := h1.ti.n1; omega
  clear h1 HS hN
  have HSK : Hid (SK W (((w1.alloc (.cells ZN 45)).alloc (.cells ZN 45)).alloc (.cells ZB 42)) B t w1.heap.size (w1.heap.size + 1) (w1.heap.size + 1 + 1) (fillN t.up 1) (fillN (fun g => (path t g).length) 1) (fillB t.on 1)) := Lib.hid (by
    have e1 : (w1.alloc (.cells ZN 45)).heap.size = w1.heap.size + 1 := size_alloc _ _
    have e2 : ((w1.alloc (.cells ZN 45)).alloc (.cells ZN 45)).heap.size = w1.heap.size + 1 + 1 := by rw [size_alloc, e1]
    have hu := HZN.out w1
    have hd := HZN.out (w1.alloc (.cells ZN 45))
    have ho := HZB.out ((w1.alloc (.cells ZN 45)).alloc (.cells ZN 45))
    rw [e1] at hd
    rw [e2] at ho
    have hz := H1.out.low.size
    have b1 := fun (wx : World) (o : Obj) => below_one (Below.refl wx.heap.size wx) o
    refine ⟨((H1.out.alloc _).alloc _).alloc _, (((KT.ofBelow (Ts := []) (b1 _ _)).row ((KT.ofBelow (Ts := []) (b1 _ _)).row hu (by simp)) (by simp))).congr (fun i _ => ?_), ((KT.ofBelow (Ts := []) (b1 _ _)).row hd (by simp)).congr (fun i _ => ?_), ho.congr (fun i _ => ?_), by omega, by omega⟩
    · unfold fillN; rw [if_neg (by omega)]
    · unfold fillN; rw [if_neg (by omega)]
    · unfold fillB; rw [if_neg (by omega)])
  go_wp2_with fail
  obtain ⟨w2, hw2⟩ : ∃ w2, ((w1.alloc (.cells ZN 45)).alloc (.cells ZN 45)).alloc (.cells ZB 42) = w2 := ⟨_, rfl⟩
  obtain ⟨U, hU⟩ : ∃ U, w1.heap.size = U := ⟨_, rfl⟩
  obtain ⟨D, hD⟩ : ∃ D, U + 1 = D := ⟨_, rfl⟩
  obtain ⟨O, hO⟩ : ∃ O, D + 1 = O := ⟨_, rfl⟩
  rw [hw2, hU, hD, hO] at HSK
  simp only [hw2, hU, hD, hO]
  clear hw2 hU hD hO H1
  refine (cMany HSK.out.o.tq).mono ?_
  rintro e w3 ⟨rfl, rfl⟩
  rw [HN.out]
  go_wp2
  go_loopw [12] (fun i wr => ∃ g : Nat, 1 ≤ g ∧ g ≤ N + 1 ∧ i = .int .i64 g ∧ Hid (SK W wr B t U D O (fillN t.up g) (fillN (fun g => (path t g).length) g) (fillB t.on g))) (fun i _ => N + 1 - (intOf i).toNat)
  case atStart => exact ⟨1, by omega, by omega, rfl, HSK⟩
  case round =>
    clear HSK
    obtain ⟨g, hg1, hg2, rfl, HR⟩ := hrel
    by_cases hlt : g ≤ N
    · have hg17 : g < 17 := by omega
      have HG : Hid (1 ≤ g ∧ g ≤ t.n) := Lib.hid (by rw [HN.out]; exact ⟨hg1, hlt⟩)
      have HU : Hid (((t.up (nu t.n (g : Int)) : Nat) : Int) = ((t.up g : Nat) : Int)) := Lib.hid (by rw [nu_yes HG.out])
      have HD : Hid ((path t (nu t.n (g : Int))).length = (path t g).length) := Lib.hid (by rw [nu_yes HG.out])
      have HO : Hid (t.on (nu t.n (g : Int)) = t.on g) := Lib.hid (by rw [nu_yes HG.out])
      have H5 : Hid (SK W (wr.setCell ⟨U, g, none⟩ (.int .i64 ((t.up g : Nat) : Int))) B t U D O (fillN t.up (g + 1)) (fillN (fun g => (path t g).length) g) (fillB t.on g)) := Lib.hid (HR.out.setU g _ (fillN_next t.up hg1))
      have cu := HR.out.cu hg17
      have fu := HR.out.u.frozen g
      obtain ⟨v1, hv1⟩ : ∃ v1, fillN t.up g g = v1 := ⟨_, rfl⟩
      rw [hv1] at cu
      clear hv1
      go_wp2_with fail
      refine (cParent HR.out.o.tq (g : Int) _ HU.out).mono ?_
      rintro e w4 ⟨rfl, rfl⟩
      go_wp2_with fail
      obtain ⟨w5, hw5⟩ : ∃ w5, w4.setCell ⟨U, g, none⟩ (.int .i64 ((t.up g : Nat) : Int)) = w5 := ⟨_, rfl⟩
      rw [hw5] at H5 ⊢
      clear hw5 cu fu HR
      refine (sDepth H5.out HD.out).mono ?_
      rintro e w6 ⟨rfl, h6⟩
      have H7 : Hid (SK W (w6.setCell ⟨D, g, none⟩ (.int .i64 (((path t g).length : Nat) : Int))) B t U D O (fillN t.up (g + 1)) (fillN (fun g => (path t g).length) (g + 1)) (fillB t.on g)) := Lib.hid (h6.setD g _ (fillN_next (fun g => (path t g).length) hg1))
      have cd := h6.cd hg17
      have fd := h6.d.frozen g
      obtain ⟨v2, hv2⟩ : ∃ v2, fillN (fun g => (path t g).length) g g = v2 := ⟨_, rfl⟩
      rw [hv2] at cd
      clear hv2 h6 H5
      go_wp2_with fail
      obtain ⟨w7, hw7⟩ : ∃ w7, w6.setCell ⟨D, g, none⟩ (.int .i64 (((path t g).length : Nat) : Int)) = w7 := ⟨_, rfl⟩
      rw [hw7] at H7 ⊢
      clear hw7 cd fd
      refine (cOnline H7.out.o.tq (g : Int) _ HO.out).mono ?_
      rintro e w8 ⟨rfl, rfl⟩
      have H9 : Hid (SK W (w8.setCell ⟨O, g, none⟩ (.bool (t.on g))) B t U D O (fillN t.up (g + 1)) (fillN (fun g => (path t g).length) (g + 1)) (fillB t.on (g + 1))) := Lib.hid (H7.out.setO g _ (fillB_next t.on hg1))
      have cn := H7.out.cn hg17
      have fn := H7.out.n.frozen g
      obtain ⟨v3, hv3⟩ : ∃ v3, fillB t.on g g = v3 := ⟨_, rfl⟩
      rw [hv3] at cn
      clear hv3 H7
      go_wp2
      go_roundw
      case rel => exact ⟨g + 1, by omega, by omega, by go_num, H9⟩
      case measure => simp [intOf]; omega
    · obtain rfl : g = N + 1 := by omega
      have HF : Hid (Says t.n t (fillN t.up (N + 1)) (fillN (fun g => (path t g).length) (N + 1)) (fillB t.on (N + 1))) := Lib.hid (by rw [← HN.out]; exact says_fill t)
      obtain ⟨fu, hfu⟩ : ∃ fu, fillN t.up (N + 1) = fu := ⟨_, rfl⟩
      obtain ⟨fd, hfd⟩ : ∃ fd, fillN (fun g => (path t g).length) (N + 1) = fd := ⟨_, rfl⟩
      obtain ⟨fo, hfo⟩ : ∃ fo, fillB t.on (N + 1) = fo := ⟨_, rfl⟩
      rw [hfu, hfd, hfo] at HF HR
      clear hfu hfd hfo hg1 hg2 hlt
      obtain ⟨x, hx⟩ : ∃ x, bring x2 18 = x := ⟨_, rfl⟩
      have HX := Lib.hid hx
      obtain ⟨q, hq⟩ : ∃ q, bring x1 2 = q := ⟨_, rfl⟩
      have HQ := Lib.hid hq
      clear hx hq
      go_wp2_with fail
      refine (cBringN x2 18 18 rfl (by decide) _).mono ?_
      rintro e w4 ⟨rfl, rfl⟩
      rw [HX.out]
      go_wp2_with fail
      refine (cBringN x1 2 2 rfl (by decide) _).mono ?_
      rintro e w4 ⟨rfl, rfl⟩
      rw [HQ.out]
      by_cases h0 : q = 0
      · subst h0
        obtain ⟨a, er, t', hr⟩ := add_is HI.out (x : Int)
        by_cases her : er = 0
        · have hok : ∃ p : Nat, (x : Int) = p ∧ (1 ≤ p ∧ p ≤ t.n) ∧ t' = t.add p ∧ a = ((t.n + 1 : Nat) : Int) ∧ er = 0 := by
            cases hr with
            | ok p h1 h2 h3 h4 h5 => exact ⟨p, h1, h2, rfl, rfl, rfl⟩
            | no h => cases her
            | many p h1 h2 h3 h4 => cases her
            | deep p h1 h2 h3 h4 h5 => cases her
          have HR2 := Lib.hid hr
          obtain ⟨p, hp1, hp2, rfl, rfl, rfl⟩ := hok
          obtain rfl : x = p := by omega
          have HT' := Lib.hid (hr.ti HI.out)
          have HP2 := Lib.hid hp2
          have HF2 := Lib.hid (HF.out.add (p := x) HI.out)
          have HA1 : Hid (1 ≤ t.n + 1 ∧ t.n + 1 ≤ (t.add x).n) := Lib.hid ⟨by omega, Nat.le_refl _⟩
          have HPA : Hid ((((t.add x).up (nu (t.add x).n ((t.n + 1 : Nat) : Int)) : Nat) : Int) = x) := Lib.hid (by rw [nu_yes HA1.out, add_up_new])
          have HOA : Hid ((t.add x).on (nu (t.add x).n ((t.n + 1 : Nat) : Int)) = true) := Lib.hid (by rw [nu_yes HA1.out, add_on_new])
          obtain ⟨dx, hdx⟩ : ∃ dx, (path t x).length = dx := ⟨_, rfl⟩
          have HDA : Hid ((path (t.add x) (nu (t.add x).n ((t.n + 1 : Nat) : Int))).length = dx + 1) := Lib.hid (by rw [nu_yes HA1.out, path_add_new HI.out hp2, List.length_cons, hdx])
          have HDX : Hid ((path (t.add x) (nu (t.add x).n (x : Int))).length = dx) := Lib.hid (by rw [nu_yes (⟨hp2.1, by show x ≤ t.n + 1; omega⟩ : 1 ≤ x ∧ x ≤ (t.add x).n), path_add HI.out x hp2.2, hdx])
          have hdx8 : dx ≤ 8 := by rw [← hdx]; exact HI.out.dep x hp2.2
          have HNA : Hid (((t.n + 1 : Nat) : Int) = (N : Int) + 1) := Lib.hid (by have := HN.out; omega)
          rw [HNA.out] at HPA HOA HDA HR2
          obtain ⟨tX, htX⟩ : ∃ tX, t.add x = tX := ⟨_, rfl⟩
          rw [htX] at HPA HOA HDA HDX HF2 HT' HR2
          clear hr hp1 hp2 hdx her HA1 htX
          go_wp2_with fail
          refine (sAdd HR.out HR2.out).mono ?_
          rintro e w5 ⟨rfl, h5⟩
          have H5 := Lib.hid h5
          clear h5 HR
          go_wp2_with fail
          refine (cParent H5.out.o.tq _ _ HPA.out).mono ?_
          rintro e w6 ⟨rfl, rfl⟩
          go_wp2_with fail
          refine (cOnline H5.out.o.tq _ _ HOA.out).mono ?_
          rintro e w6 ⟨rfl, rfl⟩
          go_wp2_with fail
          refine (sDepth H5.out HDA.out).mono ?_
          rintro e w7 ⟨rfl, h7⟩
          have H7 := Lib.hid h7
          clear h7 H5
          go_wp2_with fail
          refine (sDepth H7.out HDX.out).mono ?_
          rintro e w8 ⟨rfl, h8⟩
          have H8 := Lib.hid h8
          have hcast : ((dx + 1 : Nat) : Int) = (dx : Int) + 1 := by omega
          clear h8 H7
          go_wp2
          go_loopw [16] (fun i wr => ∃ g : Nat, 1 ≤ g ∧ g ≤ N + 1 ∧ i = .int .i64 g ∧ Hid (SK W wr B tX U D O fu fd fo)) (fun i _ => N + 1 - (intOf i).toNat)
          case atStart => exact ⟨1, by omega, by omega, rfl, H8⟩
          case round =>
            clear H8
            obtain ⟨g, hg1, hg2, rfl, HS⟩ := hrel
            by_cases hlt : g ≤ N
            · have hg17 : g < 17 := by omega
              have hsay := HF2.out.2 g hg1 (by first | exact hlt | (rw [HN.out]; exact hlt))
              have hgn : 1 ≤ g ∧ g ≤ tX.n := ⟨hg1, Nat.le_trans (by first | exact hlt | (rw [HN.out]; exact hlt)) HF2.out.1⟩
              obtain ⟨a1, ha1⟩ : ∃ a1, ((tX.up g : Nat) : Int) = a1 := ⟨_, rfl⟩
              obtain ⟨d1, hd1⟩ : ∃ d1, (path tX g).length = d1 := ⟨_, rfl⟩
              obtain ⟨o1, ho1⟩ : ∃ o1, tX.on g = o1 := ⟨_, rfl⟩
              rw [ha1, hd1, ho1] at hsay
              have HUg : Hid (((tX.up (nu tX.n (g : Int)) : Nat) : Int) = a1) := Lib.hid (by rw [nu_yes hgn]; exact ha1)
              have HDg : Hid ((path tX (nu tX.n (g : Int))).length = d1) := Lib.hid (by rw [nu_yes hgn]; exact hd1)
              have HOg : Hid (tX.on (nu tX.n (g : Int)) = o1) := Lib.hid (by rw [nu_yes hgn]; exact ho1)
              have HC : Hid (∀ w', SK W w' B tX U D O fu fd fo → w'.cell? ⟨U, g, none⟩ = some (.int .i64 a1) ∧ w'.cell? ⟨D, g, none⟩ = some (.int .i64 (d1 : Nat)) ∧ w'.cell? ⟨O, g, none⟩ = some (.bool o1)) := Lib.hid (fun w' h => ⟨by rw [h.cu hg17, hsay.1], by rw [h.cd hg17, hsay.2.1], by rw [h.cn hg17, hsay.2.2]⟩)
              have e1 : (a1 != a1) = false := by simp
              have e2 : ((d1 : Int) != (d1 : Int)) = false := by simp
              have e3 : (o1 != o1) = false := by simp
              have hd := HS.out.drew
              clear hsay ha1 hd1 ho1 hgn
              go_wp2
              first
                | (go_region_held (fun w' => w'.cell? ⟨U, g, none⟩ = some (.int .i64 a1) ∧ w'.cell? ⟨D, g, none⟩ = some (.int .i64 (d1 : Nat)) ∧ w'.cell? ⟨O, g, none⟩ = some (.bool o1))
                    (first | exact HC.out _ (by assumption))
                    (first
                      | (go_at_call 21; refine (cParent (SK.o (show SK W _ B tX U D O fu fd fo from by assumption)).tq _ _ HUg.out).mono ?_; rintro e wP ⟨rfl, rfl⟩)
                      | (go_at_call 20; refine (sDepth (by assumption) HDg.out).mono ?_; rintro e wN ⟨rfl, bN⟩)
                      | (go_at_call 24; refine (cOnline (SK.o (show SK W _ B tX U D O fu fd fo from by assumption)).tq _ _ HOg.out).mono ?_; rintro e wO ⟨rfl, rfl⟩)))
                | fail
              all_goals
                have H9 := Lib.hid bN
                clear bN hd
                go_wp2
                go_roundw
                case rel => exact ⟨g + 1, by omega, by omega, by go_num, H9⟩
                case measure => simp [intOf]; omega
            · obtain rfl : g = N + 1 := by omega
              go_wp2_with fail
              refine (works _).mono ?_
              rintro e w9 ⟨rfl, hb⟩
              have HB := Lib.hid (below_then HS.out.o.low hb)
              clear hb
              go_wp2
              go_ret
              exact ⟨rfl, HB.out⟩
        · have hst : t' = t := by
            cases hr with
            | ok p h1 h2 h3 h4 h5 => exact absurd rfl her
            | no h => rfl
            | many p h1 h2 h3 h4 => rfl
            | deep p h1 h2 h3 h4 h5 => rfl
          subst hst
          have HR2 := Lib.hid hr
          have hne : (er == 0) = false := by simpa using her
          obtain ⟨tX, htX⟩ : ∃ tX, t' = tX := ⟨_, rfl⟩
          rw [htX] at HR2 HF HR HN HI
          clear hr her htX
          go_wp2_with fail
          refine (sAdd HR.out HR2.out).mono ?_
          rintro e w5 ⟨rfl, h5⟩
          have H8 := Lib.hid h5
          clear h5 HR
          go_wp2
          go_loopw [16] (fun i wr => ∃ g : Nat, 1 ≤ g ∧ g ≤ N + 1 ∧ i = .int .i64 g ∧ Hid (SK W wr B tX U D O fu fd fo)) (fun i _ => N + 1 - (intOf i).toNat)
          case atStart => exact ⟨1, by omega, by omega, rfl, H8⟩
          case round =>
            clear H8
            obtain ⟨g, hg1, hg2, rfl, HS⟩ := hrel
            by_cases hlt : g ≤ N
            · have hg17 : g < 17 := by omega
              have hsay := HF.out.2 g hg1 (by first | exact hlt | (rw [HN.out]; exact hlt))
              have hgn : 1 ≤ g ∧ g ≤ tX.n := ⟨hg1, Nat.le_trans (by first | exact hlt | (rw [HN.out]; exact hlt)) HF.out.1⟩
              obtain ⟨a1, ha1⟩ : ∃ a1, ((tX.up g : Nat) : Int) = a1 := ⟨_, rfl⟩
              obtain ⟨d1, hd1⟩ : ∃ d1, (path tX g).length = d1 := ⟨_, rfl⟩
              obtain ⟨o1, ho1⟩ : ∃ o1, tX.on g = o1 := ⟨_, rfl⟩
              rw [ha1, hd1, ho1] at hsay
              have HUg : Hid (((tX.up (nu tX.n (g : Int)) : Nat) : Int) = a1) := Lib.hid (by rw [nu_yes hgn]; exact ha1)
              have HDg : Hid ((path tX (nu tX.n (g : Int))).length = d1) := Lib.hid (by rw [nu_yes hgn]; exact hd1)
              have HOg : Hid (tX.on (nu tX.n (g : Int)) = o1) := Lib.hid (by rw [nu_yes hgn]; exact ho1)
              have HC : Hid (∀ w', SK W w' B tX U D O fu fd fo → w'.cell? ⟨U, g, none⟩ = some (.int .i64 a1) ∧ w'.cell? ⟨D, g, none⟩ = some (.int .i64 (d1 : Nat)) ∧ w'.cell? ⟨O, g, none⟩ = some (.bool o1)) := Lib.hid (fun w' h => ⟨by rw [h.cu hg17, hsay.1], by rw [h.cd hg17, hsay.2.1], by rw [h.cn hg17, hsay.2.2]⟩)
              have e1 : (a1 != a1) = false := by simp
              have e2 : ((d1 : Int) != (d1 : Int)) = false := by simp
              have e3 : (o1 != o1) = false := by simp
              have hd := HS.out.drew
              clear hsay ha1 hd1 ho1 hgn
              go_wp2
              first
                | (go_region_held (fun w' => w'.cell? ⟨U, g, none⟩ = some (.int .i64 a1) ∧ w'.cell? ⟨D, g, none⟩ = some (.int .i64 (d1 : Nat)) ∧ w'.cell? ⟨O, g, none⟩ = some (.bool o1))
                    (first | exact HC.out _ (by assumption))
                    (first
                      | (go_at_call 21; refine (cParent (SK.o (show SK W _ B tX U D O fu fd fo from by assumption)).tq _ _ HUg.out).mono ?_; rintro e wP ⟨rfl, rfl⟩)
                      | (go_at_call 20; refine (sDepth (by assumption) HDg.out).mono ?_; rintro e wN ⟨rfl, bN⟩)
                      | (go_at_call 24; refine (cOnline (SK.o (show SK W _ B tX U D O fu fd fo from by assumption)).tq _ _ HOg.out).mono ?_; rintro e wO ⟨rfl, rfl⟩)))
                | fail
              all_goals
                have H9 := Lib.hid bN
                clear bN hd
                go_wp2
                go_roundw
                case rel => exact ⟨g + 1, by omega, by omega, by go_num, H9⟩
                case measure => simp [intOf]; omega
            · obtain rfl : g = N + 1 := by omega
              go_wp2_with fail
              refine (works _).mono ?_
              rintro e w9 ⟨rfl, hb⟩
              have HB := Lib.hid (below_then HS.out.o.low hb)
              clear hb
              go_wp2
              go_ret
              exact ⟨rfl, HB.out⟩
      · have hq0 : ((q : Int) == 0) = false := by simp; omega
        obtain ⟨er, t', hr⟩ := off_is t (x : Int)
        by_cases her : er = 0
        · have hok : ∃ p : Nat, (x : Int) = p ∧ (2 ≤ p ∧ p ≤ t.n) ∧ t' = t.off p ∧ er = 0 := by
            cases hr with
            | ok p h1 h2 h3 => exact ⟨p, h1, h2, rfl, rfl⟩
            | no h => cases her
            | root h => cases her
            | off p h1 h2 h3 => cases her
          have HR2 := Lib.hid hr
          obtain ⟨p, hp1, hp2, rfl, rfl⟩ := hok
          obtain rfl : x = p := by omega
          have hx17 : x < 17 := by have := HN.out; omega
          have HBX : Hid (bring (x : Int) 17 = x) := Lib.hid (bring_small hx17)
          have HF2 := Lib.hid (HF.out.off (k := x))
          obtain ⟨tX, htX⟩ : ∃ tX, t.off x = tX := ⟨_, rfl⟩
          rw [htX] at HF2 HR2
          clear hr hp1 hp2 her htX
          go_wp2_with fail
          refine (sOff HR.out HR2.out).mono ?_
          rintro e w5 ⟨rfl, h5⟩
          have H5 := Lib.hid h5
          clear h5 HR
          go_wp2_with fail
          refine (cBringN (x : Int) 17 17 rfl (by decide) _).mono ?_
          rintro e w6 ⟨rfl, rfl⟩
          rw [HBX.out]
          have cn := H5.out.cn hx17
          have fn := H5.out.n.frozen x
          obtain ⟨v3, hv3⟩ : ∃ v3, fo x = v3 := ⟨_, rfl⟩
          rw [hv3] at cn
          obtain ⟨fo2, hfo2⟩ : ∃ fo2, (fun j => if j = x then Value.bool false else fo j) = fo2 := ⟨_, rfl⟩
          have H8 : Hid (SK W (w6.setCell ⟨O, x, none⟩ (.bool false)) B tX U D O fu fd fo2) := Lib.hid (H5.out.setO x _ (fun j => by rw [← hfo2]))
          rw [hfo2] at HF2
          clear hv3 hfo2 H5
          go_wp2
          go_loopw [16] (fun i wr => ∃ g : Nat, 1 ≤ g ∧ g ≤ N + 1 ∧ i = .int .i64 g ∧ Hid (SK W wr B tX U D O fu fd fo2)) (fun i _ => N + 1 - (intOf i).toNat)
          case atStart => exact ⟨1, by omega, by omega, rfl, H8⟩
          case round =>
            clear H8
            obtain ⟨g, hg1, hg2, rfl, HS⟩ := hrel
            by_cases hlt : g ≤ N
            · have hg17 : g < 17 := by omega
              have hsay := HF2.out.2 g hg1 (by first | exact hlt | (rw [HN.out]; exact hlt))
              have hgn : 1 ≤ g ∧ g ≤ tX.n := ⟨hg1, Nat.le_trans (by first | exact hlt | (rw [HN.out]; exact hlt)) HF2.out.1⟩
              obtain ⟨a1, ha1⟩ : ∃ a1, ((tX.up g : Nat) : Int) = a1 := ⟨_, rfl⟩
              obtain ⟨d1, hd1⟩ : ∃ d1, (path tX g).length = d1 := ⟨_, rfl⟩
              obtain ⟨o1, ho1⟩ : ∃ o1, tX.on g = o1 := ⟨_, rfl⟩
              rw [ha1, hd1, ho1] at hsay
              have HUg : Hid (((tX.up (nu tX.n (g : Int)) : Nat) : Int) = a1) := Lib.hid (by rw [nu_yes hgn]; exact ha1)
              have HDg : Hid ((path tX (nu tX.n (g : Int))).length = d1) := Lib.hid (by rw [nu_yes hgn]; exact hd1)
              have HOg : Hid (tX.on (nu tX.n (g : Int)) = o1) := Lib.hid (by rw [nu_yes hgn]; exact ho1)
              have HC : Hid (∀ w', SK W w' B tX U D O fu fd fo2 → w'.cell? ⟨U, g, none⟩ = some (.int .i64 a1) ∧ w'.cell? ⟨D, g, none⟩ = some (.int .i64 (d1 : Nat)) ∧ w'.cell? ⟨O, g, none⟩ = some (.bool o1)) := Lib.hid (fun w' h => ⟨by rw [h.cu hg17, hsay.1], by rw [h.cd hg17, hsay.2.1], by rw [h.cn hg17, hsay.2.2]⟩)
              have e1 : (a1 != a1) = false := by simp
              have e2 : ((d1 : Int) != (d1 : Int)) = false := by simp
              have e3 : (o1 != o1) = false := by simp
              have hd := HS.out.drew
              clear hsay ha1 hd1 ho1 hgn
              go_wp2
              first
                | (go_region_held (fun w' => w'.cell? ⟨U, g, none⟩ = some (.int .i64 a1) ∧ w'.cell? ⟨D, g, none⟩ = some (.int .i64 (d1 : Nat)) ∧ w'.cell? ⟨O, g, none⟩ = some (.bool o1))
                    (first | exact HC.out _ (by assumption))
                    (first
                      | (go_at_call 21; refine (cParent (SK.o (show SK W _ B tX U D O fu fd fo2 from by assumption)).tq _ _ HUg.out).mono ?_; rintro e wP ⟨rfl, rfl⟩)
                      | (go_at_call 20; refine (sDepth (by assumption) HDg.out).mono ?_; rintro e wN ⟨rfl, bN⟩)
                      | (go_at_call 24; refine (cOnline (SK.o (show SK W _ B tX U D O fu fd fo2 from by assumption)).tq _ _ HOg.out).mono ?_; rintro e wO ⟨rfl, rfl⟩)))
                | fail
              all_goals
                have H9 := Lib.hid bN
                clear bN hd
                go_wp2
                go_roundw
                case rel => exact ⟨g + 1, by omega, by omega, by go_num, H9⟩
                case measure => simp [intOf]; omega
            · obtain rfl : g = N + 1 := by omega
              go_wp2_with fail
              refine (works _).mono ?_
              rintro e w9 ⟨rfl, hb⟩
              have HB := Lib.hid (below_then HS.out.o.low hb)
              clear hb
              go_wp2
              go_ret
              exact ⟨rfl, HB.out⟩
        · have hst : t' = t := by
            cases hr with
            | ok p h1 h2 h3 => exact absurd rfl her
            | no h => rfl
            | root h => rfl
            | off p h1 h2 h3 => rfl
          subst hst
          have HR2 := Lib.hid hr
          have hne : (er == 0) = false := by simpa using her
          obtain ⟨tX, htX⟩ : ∃ tX, t' = tX := ⟨_, rfl⟩
          rw [htX] at HR2 HF HR HN HI
          clear hr her htX
          go_wp2_with fail
          refine (sOff HR.out HR2.out).mono ?_
          rintro e w5 ⟨rfl, h5⟩
          have H8 := Lib.hid h5
          clear h5 HR
          go_wp2
          go_loopw [16] (fun i wr => ∃ g : Nat, 1 ≤ g ∧ g ≤ N + 1 ∧ i = .int .i64 g ∧ Hid (SK W wr B tX U D O fu fd fo)) (fun i _ => N + 1 - (intOf i).toNat)
          case atStart => exact ⟨1, by omega, by omega, rfl, H8⟩
          case round =>
            clear H8
            obtain ⟨g, hg1, hg2, rfl, HS⟩ := hrel
            by_cases hlt : g ≤ N
            · have hg17 : g < 17 := by omega
              have hsay := HF.out.2 g hg1 (by first | exact hlt | (rw [HN.out]; exact hlt))
              have hgn : 1 ≤ g ∧ g ≤ tX.n := ⟨hg1, Nat.le_trans (by first | exact hlt | (rw [HN.out]; exact hlt)) HF.out.1⟩
              obtain ⟨a1, ha1⟩ : ∃ a1, ((tX.up g : Nat) : Int) = a1 := ⟨_, rfl⟩
              obtain ⟨d1, hd1⟩ : ∃ d1, (path tX g).length = d1 := ⟨_, rfl⟩
              obtain ⟨o1, ho1⟩ : ∃ o1, tX.on g = o1 := ⟨_, rfl⟩
              rw [ha1, hd1, ho1] at hsay
              have HUg : Hid (((tX.up (nu tX.n (g : Int)) : Nat) : Int) = a1) := Lib.hid (by rw [nu_yes hgn]; exact ha1)
              have HDg : Hid ((path tX (nu tX.n (g : Int))).length = d1) := Lib.hid (by rw [nu_yes hgn]; exact hd1)
              have HOg : Hid (tX.on (nu tX.n (g : Int)) = o1) := Lib.hid (by rw [nu_yes hgn]; exact ho1)
              have HC : Hid (∀ w', SK W w' B tX U D O fu fd fo → w'.cell? ⟨U, g, none⟩ = some (.int .i64 a1) ∧ w'.cell? ⟨D, g, none⟩ = some (.int .i64 (d1 : Nat)) ∧ w'.cell? ⟨O, g, none⟩ = some (.bool o1)) := Lib.hid (fun w' h => ⟨by rw [h.cu hg17, hsay.1], by rw [h.cd hg17, hsay.2.1], by rw [h.cn hg17, hsay.2.2]⟩)
              have e1 : (a1 != a1) = false := by simp
              have e2 : ((d1 : Int) != (d1 : Int)) = false := by simp
              have e3 : (o1 != o1) = false := by simp
              have hd := HS.out.drew
              clear hsay ha1 hd1 ho1 hgn
              go_wp2
              first
                | (go_region_held (fun w' => w'.cell? ⟨U, g, none⟩ = some (.int .i64 a1) ∧ w'.cell? ⟨D, g, none⟩ = some (.int .i64 (d1 : Nat)) ∧ w'.cell? ⟨O, g, none⟩ = some (.bool o1))
                    (first | exact HC.out _ (by assumption))
                    (first
                      | (go_at_call 21; refine (cParent (SK.o (show SK W _ B tX U D O fu fd fo from by assumption)).tq _ _ HUg.out).mono ?_; rintro e wP ⟨rfl, rfl⟩)
                      | (go_at_call 20; refine (sDepth (by assumption) HDg.out).mono ?_; rintro e wN ⟨rfl, bN⟩)
                      | (go_at_call 24; refine (cOnline (SK.o (show SK W _ B tX U D O fu fd fo from by assumption)).tq _ _ HOg.out).mono ?_; rintro e wO ⟨rfl, rfl⟩)))
                | fail
              all_goals
                have H9 := Lib.hid bN
                clear bN hd
                go_wp2
                go_roundw
                case rel => exact ⟨g + 1, by omega, by omega, by go_num, H9⟩
                case measure => simp [intOf]; omega
            · obtain rfl : g = N + 1 := by omega
              go_wp2_with fail
              refine (works _).mono ?_
              rintro e w9 ⟨rfl, hb⟩
              have HB := Lib.hid (below_then HS.out.o.low hb)
              clear hb
              go_wp2
              go_ret
              exact ⟨rfl, HB.out⟩
end Go.Proofs.Ytbdlkglngjjpjaa
