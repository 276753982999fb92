/-
  The program's counters and the document's in one world; a call of both.
-/
import Derived.Test.YtahkfagfobfliaaOne
import Derived.Test.YtahkfagfobfliaaRtry
import Derived.Test.YtahkfagfobfliaaDo
set_option linter.unusedVariables false
set_option linter.unusedSimpArgs false
namespace Go.Proofs.Ytahkfagfobfliaa
open Go Go.RowKit

theorem run_copyI {w : World} {u : Value} {l : List Int} (hu : ShowI w u l) (hl : l.length ≤ 17592186044416) (ty : TypeId) :
    ∃ ao cap w', (Builtin.append_ #[28, 28] ty #[.slice none 0 0, u]).run Try.prog w = .ok (.slice ao l.length cap) w' ∧ w'.ownsRow w.heap.size 3 1 (.slice ao l.length cap) l.length (nms l) ∧ Below w.heap.size w w' := by
  obtain ⟨i0, hi, hz0, hz1, hz2⟩ := info_parts infoI
  obtain ⟨ao, cap, rfl, hcap, hat⟩ := hu.form
  cases ao with
  | none =>
    have h0 : l = [] := by
      cases l with
      | nil => rfl
      | cons x l => obtain ⟨b, o, e, _⟩ := hat 0 (by simp); cases e
    subst h0
    refine ⟨none, 0, w, ?_, World.ownsRow_nil _ _ _ _, Below.refl _ _⟩
    simp [Builtin.append_, run_underlying Try.underlying28, sizeOf, typeInfo, hi, Builtin.lenOf, Builtin.firstCells]
  | some ad =>
    have hnews : ∀ j v, (nms l)[j]? = some v → w.cell? (ad.add j) = some v := by
      intro j v hj
      have hlt : j < l.length := by
        have := (List.getElem?_eq_some_iff.1 hj).1
        simpa using this
      obtain ⟨b, o, e, c0⟩ := hat j hlt
      obtain rfl := Option.some.inj e
      rw [plain_add, c0, ← hj, nms_at hlt]
    obtain ⟨v', w', hr, hown, hg, _, _⟩ := run_append_own_at (P := Try.prog) w w.heap.size 28 ty 3 i0 _ 1 8 Try.underlying28 hi hz0 hz1 hz2 rfl (by decide) (.slice none 0 0) 0 [] (World.ownsRow_nil _ _ _ _) ad l.length cap (nms l) (by simp) hnews (nms_one l) (by unfold maxLen; omega) (by omega) (Nat.le_refl _)
    have hown' : w'.ownsRow w.heap.size 3 1 v' l.length (nms l) := by simpa using hown
    obtain ⟨a', c', rfl, _⟩ := own_shape hown'
    exact ⟨a', c', w', hr, hown', (Below.refl _ w).grown hg (Nat.le_refl _) (fun k hk => by simp [Value.ownBlock] at hk)⟩
theorem wpList_copyI {ops : Array Oper} {rest : List Oper} {o : Oper} {a : Act} {Q : Exit → Act → World → Prop} {w : World} (hgd : o.guard = none) (s x : Operand)
    (ho : o.op = .call { callee := .builtin .append, args := #[s, x], argTypes := #[28, 28] })
    (hs : a.eval s = .slice none 0 0) (u : Value) (l : List Int) (hu : ShowI w u l) (hx : a.eval x = u) (hl : l.length ≤ 17592186044416)
    (h : ∀ ao cap w', w'.ownsRow w.heap.size 3 1 (.slice ao l.length cap) l.length (nms l) → Below w.heap.size w w' → wpList Try.prog ops Q rest (a.put o.dst (.slice ao l.length cap)) w') :
    wpList Try.prog ops Q (o :: rest) a w := by
  refine wpList_plain hgd fun K hK => ?_
  obtain ⟨ao, cap, w', hr, h1, h2⟩ := run_copyI hu hl o.type
  unfold Oper.wp execOp
  simp only [ho, resolve, invoke, builtin, Sem.run_bind, Sem.run_pure, Result.andThen_ok, List.map_toArray, List.map_cons, List.map_nil, hs, hx, hr]
  exact hK _ _ (h _ _ _ h1 h2)
set_option maxHeartbeats 1000000 in
theorem cCopyInts (u : Value) (l : List Int) (w : World) (hu : ShowI w u l) (hl : l.length ≤ 17592186044416) : Calls Try.prog 24 #[u] w fun e w' => ∃ ao cap, e = .returned (.slice ao l.length cap) ∧ OwnI 0 w' (.slice ao l.length cap) l ∧ Below w.heap.size w w' := by
  go_enter Try.func24, Try.ntmps24
  go_wp2_with (at_builtin; refine wpList_copyI (by rfl) _ _ (by rfl) (by rfl) u l hu (by rfl) hl ?_)
  intro ao cap w' hown hb
  have HO := Lib.hid (OwnI.le (show OwnI w.heap.size w' _ l from hown) (Nat.zero_le _))
  clear hown
  go_wp2
  go_ret
  exact ⟨_, _, rfl, HO.out, hb⟩
def tysR : List TypeId := [51]
/-- both in one world -/
structure Z2 (W w : World) (B g R : Nat) (t s : Ct) : Prop where
  o : C1 W w B g t
  r : RV w R s
  ci : CI s
  ge : W.heap.size ≤ R
section
variable {W w w' : World} {B g R D : Nat} {t s t' s' : Ct} {x n a e q u kd : Int} {l : List Int} {v : Value} {dv : Array Value}
theorem Z2.below (h : Z2 W w B g R t s) (hb : Below w.heap.size w w') : Z2 W w' B g R t s := ⟨h.o.below hb, h.r.below hb, h.ci, h.ge⟩
theorem Z2.drew (h : Z2 W w B g R t s) : Z2 W w.drew B g R t s := h.below (Below.refl _ w).drew
theorem Z2.drewN (h : Z2 W w B g R t s) (m : Nat) : Z2 W (w.drewN m) B g R t s := h.below (below_drewN (Below.refl _ w) m)
theorem Z2.left (h : Z2 W w B g R t s) (ho : C1 W w' B g t') (hk : KT tysA w w') : Z2 W w' B g R t' s := by
  obtain ⟨S, hk, hS⟩ := hk
  exact ⟨ho, h.r.kept hk hS (by decide), h.ci, h.ge⟩
theorem Z2.right (h : Z2 W w B g R t s) (hr : RV w' R s') (hk : Kept (· = R) w w') (hc : CI s') : Z2 W w' B g R t s' ∧ KT tysR w w' :=
  ⟨⟨h.o.kt ⟨_, hk, h.r.typ⟩ (below_kept h.o.low hk (by rintro k rfl; exact h.ge)) (by decide), hr, hc, h.ge⟩, _, hk, h.r.typ⟩
theorem Z2.argR (h : Z2 W w B g R t s) (hu : ShowI W v l) : Stays w R v l := fun w' hk => hu.below (below_kept h.o.low hk (by rintro k rfl; exact h.ge))
/-- with a call's box and a copy of its list -/
structure QS (W w : World) (B g R : Nat) (t s : Ct) (D : Nat) (dv : Array Value) (v : Value) (l : List Int) : Prop where
  z : Z2 W w B g R t s
  d : w.heap[D]? = some (.cells dv 30 (0, 0))
  p : OwnI 0 w v l
theorem QS.below (h : QS W w B g R t s D dv v l) (hb : Below w.heap.size w w') : QS W w' B g R t s D dv v l := ⟨h.z.below hb, keep_block h.d hb, h.p.below hb⟩
theorem QS.drew (h : QS W w B g R t s D dv v l) : QS W w.drew B g R t s D dv v l := h.below (Below.refl _ w).drew
theorem QS.left (h : QS W w B g R t s D dv v l) (ho : C1 W w' B g t') (hk : KT tysA w w') : QS W w' B g R t' s D dv v l :=
  ⟨h.z.left ho hk, by
    obtain ⟨S, hk, hS⟩ := hk
    exact box_kept h.d hk hS (by decide), by
    obtain ⟨S, hk, hS⟩ := hk
    exact own_kept2 h.p hk hS (by decide)⟩
theorem QS.right (h : QS W w B g R t s D dv v l) (hr : RV w' R s') (hk : Kept (· = R) w w') (hc : CI s') : QS W w' B g R t s' D dv v l := by
  obtain ⟨h1, S, hk2, hS⟩ := h.z.right hr hk hc
  exact ⟨h1, box_kept h.d hk2 hS (by decide), own_kept2 h.p hk2 hS (by decide)⟩
theorem QS.cell (h : QS W w B g R t s D dv v l) {i : Nat} {y : Value} (hi : dv[i]? = some y) : w.cell? ⟨D, i, none⟩ = some y := self_cell h.d i _ hi
theorem qLimit (h : QS W w B g R t s D dv v l) (hr : LmIs t x n e t') :
    Calls Try.prog 17 #[.pointer (some ⟨B, 0, none⟩), .int .i64 x, .int .i64 n] w fun e' w' => e' = .returned (.int .i64 e) ∧ QS W w' B g R t' s D dv v l := by
  refine (oLimit h.z.o hr).mono ?_
  rintro e' w' ⟨rfl, h1, h2⟩
  exact ⟨rfl, h.left h1 h2⟩
theorem qrLimit (h : QS W w B g R t s D dv v l) (hr : LmIs s x n e s') :
    Calls Try.prog 25 #[.pointer (some ⟨R, 0, none⟩), .int .i64 x, .int .i64 n] w fun e' w' => e' = .returned (.int .i64 e) ∧ QS W w' B g R t s' D dv v l := by
  refine (rLimit h.z.r hr).mono ?_
  rintro e' w' ⟨rfl, h1, h2⟩
  exact ⟨rfl, h.right h1 h2 (hr.ci h.z.ci)⟩
theorem qUp (h : QS W w B g R t s D dv v l) (hr : UpIs t x n e t') :
    Calls Try.prog 18 #[.pointer (some ⟨B, 0, none⟩), .int .i64 x, .int .i64 n] w fun e' w' => e' = .returned (.int .i64 e) ∧ QS W w' B g R t' s D dv v l := by
  refine (oUp h.z.o hr).mono ?_
  rintro e' w' ⟨rfl, h1, h2⟩
  exact ⟨rfl, h.left h1 h2⟩
theorem qrUp (h : QS W w B g R t s D dv v l) (hr : UpIs s x n e s') :
    Calls Try.prog 26 #[.pointer (some ⟨R, 0, none⟩), .int .i64 x, .int .i64 n] w fun e' w' => e' = .returned (.int .i64 e) ∧ QS W w' B g R t s' D dv v l := by
  refine (rUp h.z.r h.z.ci hr).mono ?_
  rintro e' w' ⟨rfl, h1, h2⟩
  exact ⟨rfl, h.right h1 h2 (hr.ci h.z.ci)⟩
theorem qDown (h : QS W w B g R t s D dv v l) (hr : DnIs t x n e t') :
    Calls Try.prog 19 #[.pointer (some ⟨B, 0, none⟩), .int .i64 x, .int .i64 n] w fun e' w' => e' = .returned (.int .i64 e) ∧ QS W w' B g R t' s D dv v l := by
  refine (oDown h.z.o hr).mono ?_
  rintro e' w' ⟨rfl, h1, h2⟩
  exact ⟨rfl, h.left h1 h2⟩
theorem qrDown (h : QS W w B g R t s D dv v l) (hr : DnIs s x n e s') :
    Calls Try.prog 27 #[.pointer (some ⟨R, 0, none⟩), .int .i64 x, .int .i64 n] w fun e' w' => e' = .returned (.int .i64 e) ∧ QS W w' B g R t s' D dv v l := by
  refine (rDown h.z.r h.z.ci hr).mono ?_
  rintro e' w' ⟨rfl, h1, h2⟩
  exact ⟨rfl, h.right h1 h2 (hr.ci h.z.ci)⟩
theorem qTry (h : QS W w B g R t s D dv v l) (hq : askP l n = q) (hr : TryIs q t l n a e t') :
    Calls Try.prog 20 #[.pointer (some ⟨B, 0, none⟩), v, .int .i64 n] w fun e' w' => e' = .returned (.tuple #[.int .i64 a, .int .i64 e]) ∧ QS W w' B g R t' s D dv v l := by
  refine (oTry h.z.o hq hr (h.z.o.own h.p)).mono ?_
  rintro e' w' ⟨rfl, h1, h2⟩
  exact ⟨rfl, h.left h1 h2⟩
theorem qrTry {p : Value} (h : QS W w B g R t s D dv v l) (hq : askR l n = q) (hr : TryIs q s l n a e s') (hp : ShowI W p l) :
    Calls Try.prog 28 #[.pointer (some ⟨R, 0, none⟩), p, .int .i64 n] w fun e' w' => e' = .returned (.tuple #[.int .i64 a, .int .i64 e]) ∧ QS W w' B g R t s' D dv v l := by
  refine (rTry h.z.r h.z.ci hq hr (h.z.argR hp)).mono ?_
  rintro e' w' ⟨rfl, h1, h2⟩
  exact ⟨rfl, h.right h1 h2 (hr.ci h.z.ci)⟩
theorem qBack (h : QS W w B g R t s D dv v l) (hq : askP l n = q) (hr : BkIs q t l n e t') :
    Calls Try.prog 21 #[.pointer (some ⟨B, 0, none⟩), v, .int .i64 n] w fun e' w' => e' = .returned (.int .i64 e) ∧ QS W w' B g R t' s D dv v l := by
  refine (oBack h.z.o hq hr (h.z.o.own h.p)).mono ?_
  rintro e' w' ⟨rfl, h1, h2⟩
  exact ⟨rfl, h.left h1 h2⟩
theorem qrBack {p : Value} (h : QS W w B g R t s D dv v l) (hq : askR l n = q) (hr : BkIs q s l n e s') (hp : ShowI W p l) :
    Calls Try.prog 29 #[.pointer (some ⟨R, 0, none⟩), p, .int .i64 n] w fun e' w' => e' = .returned (.int .i64 e) ∧ QS W w' B g R t s' D dv v l := by
  refine (rBack h.z.r h.z.ci hq hr (h.z.argR hp)).mono ?_
  rintro e' w' ⟨rfl, h1, h2⟩
  exact ⟨rfl, h.right h1 h2 (hr.ci h.z.ci)⟩
end
set_option maxHeartbeats 8000000 in
set_option maxRecDepth 100000 in
theorem cStep {W w : World} {B g R : Nat} {t : Ct} {kd x n : Int} {pl : List Int} {pa : Option Addr} {plen pcap : Nat} (h : Z2 W w B g R t t) (hp : ShowI W (.slice pa plen pcap) pl) (hl : pl.length ≤ 17592186044416) (hask : askP pl n = askR pl n) :
    Calls Try.prog 10 #[.pointer (some ⟨B, 0, none⟩), .pointer (some ⟨R, 0, none⟩), .agg #[.int .i64 kd, .int .i64 x, .int .i64 n, .slice pa plen pcap]] w fun e w' => e = .returned (.bool true) ∧ ∃ t', Z2 W w' B g R t' t' := by
  have HH := Lib.hid h
  have HP := Lib.hid hp
  have HQ := Lib.hid hask
  obtain ⟨q, hq⟩ : ∃ q, bring kd 5 = q := ⟨_, rfl⟩
  have HK := Lib.hid hq
  have hq5 : q < 5 := by rw [← hq]; exact bring_lt kd 5 (by decide)
  clear h hp hask hq
  go_enter Try.func10, Try.ntmps10
  have HD := Lib.hid (heap_new w (.cells #[.int .i64 kd, .int .i64 x, .int .i64 n, .slice pa plen pcap] 30))
  have HB := Lib.hid (below_one (Below.refl _ w) (.cells #[.int .i64 kd, .int .i64 x, .int .i64 n, .slice pa plen pcap] 30))
  go_wp2_with fail
  refine (cCopyInts _ pl _ (HP.out.below (HH.out.o.low.trans (HB.out.mono HH.out.o.low.size))) hl).mono ?_
  rintro e w1 ⟨ao, cap, rfl, hown, hb⟩
  have H1 : Hid (QS W w1 B g R t t w.heap.size #[.int .i64 kd, .int .i64 x, .int .i64 n, .slice pa plen pcap] (.slice ao pl.length cap) pl) := Lib.hid ⟨(HH.out.below HB.out).below hb, keep_block HD.out hb, hown⟩
  obtain ⟨D, hD⟩ : ∃ D, w.heap.size = D := ⟨_, rfl⟩
  rw [hD] at H1 ⊢
  clear hown hb HD HB HH hD
  obtain ⟨L, hL⟩ : ∃ L, pl.length = L := ⟨_, rfl⟩
  have HL := Lib.hid hL
  rw [hL] at H1 ⊢
  clear hL
  have d0 := H1.out.cell (i := 0) rfl
  have d1 := H1.out.cell (i := 1) rfl
  have d2 := H1.out.cell (i := 2) rfl
  have d3 := H1.out.cell (i := 3) rfl
  go_wp2_with fail
  refine (cBringN kd 5 5 rfl (by decide) _).mono ?_
  rintro e w2 ⟨rfl, rfl⟩
  rw [HK.out]
  clear HK
  have hd := H1.out.drew
  rcases (by omega : q = 0 ∨ q = 1 ∨ q = 2 ∨ q = 3 ∨ q = 4) with rfl | rfl | rfl | rfl | rfl
  · obtain ⟨er, t', hr⟩ := LmIs.ex t x n
    have HR := Lib.hid hr
    have hee : (er == er) = true := by simp
    clear hr d0 d1 d2 d3
    go_wp2
    go_region_held3 (fun w' => w'.cell? ⟨D, 1, none⟩ = some (.int .i64 x) ∧ w'.cell? ⟨D, 2, none⟩ = some (.int .i64 n))
      (first | exact ⟨QS.cell (show QS W _ B g R _ _ D _ _ pl from by assumption) rfl, QS.cell (show QS W _ B g R _ _ D _ _ pl from by assumption) rfl⟩)
      (first
        | (go_at_call 17; refine (qLimit (by assumption) HR.out).mono ?_; rintro e wN ⟨rfl, bN⟩)
        | (go_at_call 25; refine (qrLimit (by assumption) HR.out).mono ?_; rintro e wM ⟨rfl, hM⟩))
    all_goals
      have HM := Lib.hid hM
      clear hM hd
      have e2 := HM.out.cell (i := 3) rfl
      go_wp2_with fail
      refine (cEqYes _ _ pl pl rfl _ HM.out.p.shows (HP.out.below HM.out.z.o.low)).mono ?_
      rintro e w6 ⟨rfl, hb⟩
      have H6 := Lib.hid (HM.out.z.below hb)
      clear hb
      go_wp2
      go_ret
      exact ⟨rfl, _, H6.out⟩
  · obtain ⟨er, t', hr⟩ := UpIs.ex t x n
    have HR := Lib.hid hr
    have hee : (er == er) = true := by simp
    clear hr d0 d1 d2 d3
    go_wp2
    go_region_held3 (fun w' => w'.cell? ⟨D, 1, none⟩ = some (.int .i64 x) ∧ w'.cell? ⟨D, 2, none⟩ = some (.int .i64 n))
      (first | exact ⟨QS.cell (show QS W _ B g R _ _ D _ _ pl from by assumption) rfl, QS.cell (show QS W _ B g R _ _ D _ _ pl from by assumption) rfl⟩)
      (first
        | (go_at_call 18; refine (qUp (by assumption) HR.out).mono ?_; rintro e wN ⟨rfl, bN⟩)
        | (go_at_call 26; refine (qrUp (by assumption) HR.out).mono ?_; rintro e wM ⟨rfl, hM⟩))
    all_goals
      have HM := Lib.hid hM
      clear hM hd
      have e2 := HM.out.cell (i := 3) rfl
      go_wp2_with fail
      refine (cEqYes _ _ pl pl rfl _ HM.out.p.shows (HP.out.below HM.out.z.o.low)).mono ?_
      rintro e w6 ⟨rfl, hb⟩
      have H6 := Lib.hid (HM.out.z.below hb)
      clear hb
      go_wp2
      go_ret
      exact ⟨rfl, _, H6.out⟩
  · obtain ⟨er, t', hr⟩ := DnIs.ex t x n
    have HR := Lib.hid hr
    have hee : (er == er) = true := by simp
    clear hr d0 d1 d2 d3
    go_wp2
    go_region_held3 (fun w' => w'.cell? ⟨D, 1, none⟩ = some (.int .i64 x) ∧ w'.cell? ⟨D, 2, none⟩ = some (.int .i64 n))
      (first | exact ⟨QS.cell (show QS W _ B g R _ _ D _ _ pl from by assumption) rfl, QS.cell (show QS W _ B g R _ _ D _ _ pl from by assumption) rfl⟩)
      (first
        | (go_at_call 19; refine (qDown (by assumption) HR.out).mono ?_; rintro e wN ⟨rfl, bN⟩)
        | (go_at_call 27; refine (qrDown (by assumption) HR.out).mono ?_; rintro e wM ⟨rfl, hM⟩))
    all_goals
      have HM := Lib.hid hM
      clear hM hd
      have e2 := HM.out.cell (i := 3) rfl
      go_wp2_with fail
      refine (cEqYes _ _ pl pl rfl _ HM.out.p.shows (HP.out.below HM.out.z.o.low)).mono ?_
      rintro e w6 ⟨rfl, hb⟩
      have H6 := Lib.hid (HM.out.z.below hb)
      clear hb
      go_wp2
      go_ret
      exact ⟨rfl, _, H6.out⟩
  · obtain ⟨ra, er, t', hr⟩ := TryIs.ex t pl n (askP pl n) askP_zero
    have HR := Lib.hid hr
    have hee : (er == er) = true := by simp
    have hra : (ra == ra) = true := by simp
    clear hr hd d0 d1 d3
    go_wp2_with fail
    refine (qTry H1.out rfl HR.out).mono ?_
    rintro e w3 ⟨rfl, h3⟩
    have H3 := Lib.hid h3
    have e2 := H3.out.cell (i := 2) rfl
    have e3 := H3.out.cell (i := 3) rfl
    clear h3 d2
    go_wp2_with fail
    refine (qrTry H3.out HQ.out.symm HR.out HP.out).mono ?_
    rintro e w4 ⟨rfl, hM⟩
    clear e2 e3
    have hd := hM
    have HM := Lib.hid hM
    clear hM hd
    have e2 := HM.out.cell (i := 3) rfl
    go_wp2_with fail
    refine (cEqYes _ _ pl pl rfl _ HM.out.p.shows (HP.out.below HM.out.z.o.low)).mono ?_
    rintro e w6 ⟨rfl, hb⟩
    have H6 := Lib.hid (HM.out.z.below hb)
    clear hb
    go_wp2
    go_ret
    exact ⟨rfl, _, H6.out⟩
  · obtain ⟨er, t', hr⟩ := BkIs.ex t pl n (askP pl n) askP_zero
    have HR := Lib.hid hr
    have hee : (er == er) = true := by simp
    clear hr d0 d1 d2 d3
    go_wp2
    go_region_held3 (fun w' => w'.cell? ⟨D, 2, none⟩ = some (.int .i64 n) ∧ w'.cell? ⟨D, 3, none⟩ = some (.slice pa plen pcap))
      (first | exact ⟨QS.cell (show QS W _ B g R _ _ D _ _ pl from by assumption) rfl, QS.cell (show QS W _ B g R _ _ D _ _ pl from by assumption) rfl⟩)
      (first
        | (go_at_call 21; refine (qBack (by assumption) rfl HR.out).mono ?_; rintro e wN ⟨rfl, bN⟩)
        | (go_at_call 29; refine (qrBack (by assumption) HQ.out.symm HR.out HP.out).mono ?_; rintro e wM ⟨rfl, hM⟩))
    all_goals
      have HM := Lib.hid hM
      clear hM hd
      have e2 := HM.out.cell (i := 3) rfl
      go_wp2_with fail
      refine (cEqYes _ _ pl pl rfl _ HM.out.p.shows (HP.out.below HM.out.z.o.low)).mono ?_
      rintro e w6 ⟨rfl, hb⟩
      have H6 := Lib.hid (HM.out.z.below hb)
      clear hb
      go_wp2
      go_ret
      exact ⟨rfl, _, H6.out⟩
end Go.Proofs.Ytahkfagfobfliaa
