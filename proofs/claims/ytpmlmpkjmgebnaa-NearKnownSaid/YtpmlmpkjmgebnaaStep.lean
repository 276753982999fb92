/-
  The laws' helper step: a call of both.
-/
import Derived.Test.YtpmlmpkjmgebnaaTwo
set_option linter.unusedVariables false
set_option linter.unusedSimpArgs false
namespace Go.Proofs.Ytpmlmpkjmgebnaa
open Go Go.RowKit

/-- both, and a call's box */
-/
structure Bn (W w : World) (K : Nat) (d : Pg) (B g : Nat) (vs : Nat → Value) (f : F) (B2 g2 : Nat) (vs2 : Nat → Value) (f2 : F) (n lim : Nat) : Prop where
  st : St2 W w B g vs f B2 g2 vs2 f2 n lim
  box : w.heap[K]? = some (.cells #[.int .i64 d.kind, .int .i64 d.order, .int .i64 d.cache] 32 (0, 0))
  n1 : ¬ Own n B g vs K
  n2 : ¬ Own n B2 g2 vs2 K
section
variable {W w w' : World} {K B g B2 g2 n lim : Nat} {vs vs' vs2 vs2' : Nat → Value} {f f' f2 : F} {v : Value} {l : List Int} {d : Pg}
theorem Bn.cells (h : Bn W w K d B g vs f B2 g2 vs2 f2 n lim) : w.cell? ⟨K, 0, none⟩ = some (.int .i64 d.kind) ∧ w.cell? ⟨K, 1, none⟩ = some (.int .i64 d.order) ∧ w.cell? ⟨K, 2, none⟩ = some (.int .i64 d.cache) := ⟨self_cell h.box 0 _ rfl, self_cell h.box 1 _ rfl, self_cell h.box 2 _ rfl⟩
theorem Bn.left (h : Bn W w K d B g vs f B2 g2 vs2 f2 n lim) (hs : St2 W w' B g vs' f' B2 g2 vs2 f2 n lim) (hG : Goes w w' n B g vs vs') : Bn W w' K d B g vs' f' B2 g2 vs2 f2 n lim :=
  ⟨hs, (hG.1.block K (lt_of_block h.box) h.n1).trans h.box, fun o => by
    rcases hG.2 K o with o | o
    · exact h.n1 o
    · have := lt_of_block h.box; omega, h.n2⟩
theorem Bn.right (h : Bn W w K d B g vs f B2 g2 vs2 f2 n lim) (hs : St2 W w' B g vs f B2 g2 vs2' f' n lim) (hG : Goes w w' n B2 g2 vs2 vs2') : Bn W w' K d B g vs f B2 g2 vs2' f' n lim :=
  ⟨hs, (hG.1.block K (lt_of_block h.box) h.n2).trans h.box, h.n1, fun o => by
    rcases hG.2 K o with o | o
    · exact h.n2 o
    · have := lt_of_block h.box; omega⟩
theorem Bn.below (h : Bn W w K d B g vs f B2 g2 vs2 f2 n lim) (hb : Below w.heap.size w w') : Bn W w' K d B g vs f B2 g2 vs2 f2 n lim := h.left (h.st.below hb) (Goes.of_below hb)
theorem Bn.drew (h : Bn W w K d B g vs f B2 g2 vs2 f2 n lim) : Bn W w.drew K d B g vs f B2 g2 vs2 f2 n lim := h.below (Below.refl _ w).drew
theorem bPut (h : Bn W w K d B g vs f B2 g2 vs2 f2 n lim) {cpu page er : Int} {out : List Int} (hr : PutIs n lim f cpu page out er f') :
    Calls Try.prog 15 #[.pointer (some ⟨B, 0, none⟩), .int .i64 cpu, .int .i64 page] w fun e w' => ∃ v vs', e = .returned (.tuple #[v, .int .i64 er]) ∧ Bn W w' K d B g vs' f' B2 g2 vs2 f2 n lim ∧ Goes w w' n B g vs vs' ∧ Off2 W w' n B g vs' B2 g2 vs2 v out :=
  (sPut h.st hr).mono fun e w' ⟨v, vs', h1, h2, h3, h4⟩ => ⟨v, vs', h1, h.left h2 h3, h3, h4⟩
theorem brPut (h : Bn W w K d B g vs f B2 g2 vs2 f2 n lim) {cpu page er : Int} {out : List Int} (hr : PutIs n lim f2 cpu page out er f') :
    Calls Try.prog 19 #[.pointer (some ⟨B2, 0, none⟩), .int .i64 cpu, .int .i64 page] w fun e w' => ∃ v vs2', e = .returned (.tuple #[v, .int .i64 er]) ∧ Bn W w' K d B g vs f B2 g2 vs2' f' n lim ∧ Goes w w' n B2 g2 vs2 vs2' ∧ Off2 W w' n B g vs B2 g2 vs2' v out :=
  (srPut h.st hr).mono fun e w' ⟨v, vs', h1, h2, h3, h4⟩ => ⟨v, vs', h1, h.right h2 h3, h3, h4⟩
theorem bTake (h : Bn W w K d B g vs f B2 g2 vs2 f2 n lim) {cpu x : Int} {q : Bool} (hr : TakeIs n f cpu x q f') :
    Calls Try.prog 16 #[.pointer (some ⟨B, 0, none⟩), .int .i64 cpu] w fun e w' => ∃ vs', e = .returned (.tuple #[.int .i64 x, .bool q]) ∧ Bn W w' K d B g vs' f' B2 g2 vs2 f2 n lim ∧ Goes w w' n B g vs vs' :=
  (sTake h.st hr).mono fun e w' ⟨vs', h1, h2, h3⟩ => ⟨vs', h1, h.left h2 h3, h3⟩
theorem brTake (h : Bn W w K d B g vs f B2 g2 vs2 f2 n lim) {cpu x : Int} {q : Bool} (hr : TakeIs n f2 cpu x q f') :
    Calls Try.prog 20 #[.pointer (some ⟨B2, 0, none⟩), .int .i64 cpu] w fun e w' => ∃ vs2', e = .returned (.tuple #[.int .i64 x, .bool q]) ∧ Bn W w' K d B g vs f B2 g2 vs2' f' n lim ∧ Goes w w' n B2 g2 vs2 vs2' :=
  (srTake h.st hr).mono fun e w' ⟨vs', h1, h2, h3⟩ => ⟨vs', h1, h.right h2 h3, h3⟩
theorem bDrain (h : Bn W w K d B g vs f B2 g2 vs2 f2 n lim) {cpu : Int} (hr : DrainIs n f cpu l f') :
    Calls Try.prog 17 #[.pointer (some ⟨B, 0, none⟩), .int .i64 cpu] w fun e w' => ∃ v vs', e = .returned v ∧ Bn W w' K d B g vs' f' B2 g2 vs2 f2 n lim ∧ Goes w w' n B g vs vs' ∧ Off2 W w' n B g vs' B2 g2 vs2 v l :=
  (sDrain h.st hr).mono fun e w' ⟨v, vs', h1, h2, h3, h4⟩ => ⟨v, vs', h1, h.left h2 h3, h3, h4⟩
theorem brDrain (h : Bn W w K d B g vs f B2 g2 vs2 f2 n lim) {cpu : Int} (hr : DrainIs n f2 cpu l f') :
    Calls Try.prog 21 #[.pointer (some ⟨B2, 0, none⟩), .int .i64 cpu] w fun e w' => ∃ v vs2', e = .returned v ∧ Bn W w' K d B g vs f B2 g2 vs2' f' n lim ∧ Goes w w' n B2 g2 vs2 vs2' ∧ Off2 W w' n B g vs B2 g2 vs2' v l :=
  (srDrain h.st hr).mono fun e w' ⟨v, vs', h1, h2, h3, h4⟩ => ⟨v, vs', h1, h.right h2 h3, h3, h4⟩
theorem bHas (h : Bn W w K d B g vs f B2 g2 vs2 f2 n lim) {x : Int} {q : Bool} (hq : hasB f n x = q) :
    Calls Try.prog 18 #[.pointer (some ⟨B, 0, none⟩), .int .i64 x] w fun e w' => e = .returned (.bool q) ∧ Bn W w' K d B g vs f B2 g2 vs2 f2 n lim :=
  (cHas h.st.a x q hq).mono fun e w' ⟨h1, h2⟩ => ⟨h1, h.below h2⟩
theorem brHas (h : Bn W w K d B g vs f B2 g2 vs2 f2 n lim) {x : Int} {q : Bool} (hq : hasB f2 n x = q) :
    Calls Try.prog 22 #[.pointer (some ⟨B2, 0, none⟩), .int .i64 x] w fun e w' => e = .returned (.bool q) ∧ Bn W w' K d B g vs f B2 g2 vs2 f2 n lim :=
  (rHas h.st.r x q hq).mono fun e w' ⟨h1, h2⟩ => ⟨h1, by rw [h2]; exact h⟩
/-- what step leaves -/
def StepOk (W : World) (B g B2 g2 n lim : Nat) (e : Ending) (w' : World) : Prop := e = .returned (.bool true) ∧ ∃ vs' vs2' f', St2 W w' B g vs' f' B2 g2 vs2' f' n lim
set_option maxHeartbeats 16000000 in
set_option maxRecDepth 100000 in
theorem cStep (h : St2 W w B g vs f B2 g2 vs2 f n lim) (d : Pg) :
    Calls Try.prog 9 #[.pointer (some ⟨B, 0, none⟩), .pointer (some ⟨B2, 0, none⟩), d.agg] w (StepOk W B g B2 g2 n lim) := by
  obtain ⟨kd, cpu, page⟩ := d
  have h0 : Bn W (w.alloc (.cells #[.int .i64 kd, .int .i64 cpu, .int .i64 page] 32)) w.heap.size ⟨kd, cpu, page⟩ B g vs f B2 g2 vs2 f n lim :=
    ⟨h.below (below_one (Below.refl _ _) _), heap_new _ _, fun o => by have := h.a.own_lt o; omega, fun o => by have := h.r.own_lt o; omega⟩
  have H0 := Lib.hid h0
  obtain ⟨c0, c1, c2⟩ := h0.cells
  dsimp only at c0 c1 c2
  obtain ⟨q, hq⟩ : ∃ q, bring kd 4 = q := ⟨_, rfl⟩
  have hq4 : q < 4 := by have := bring_lt kd 4 (by decide); omega
  have HQ := Lib.hid hq
  clear h h0 hq
  show Calls Try.prog 9 #[.pointer (some ⟨B, 0, none⟩), .pointer (some ⟨B2, 0, none⟩), .agg #[.int .i64 kd, .int .i64 cpu, .int .i64 page]] w (StepOk W B g B2 g2 n lim)
  go_enter Try.func9, Try.ntmps9
  go_wp2_with fail
  refine (cBringN kd 4 4 rfl (by decide) _).mono ?_
  rintro e w1 ⟨rfl, rfl⟩
  rw [HQ.out]
  have hqc : q = 0 ∨ q = 1 ∨ q = 2 ∨ q = 3 := by omega
  clear HQ hq4
  rcases hqc with rfl | rfl | rfl | rfl
  · obtain ⟨out, er, f', hr⟩ := put_is n lim f cpu page
    have HR := Lib.hid hr
    clear hr
    go_wp2_with fail
    refine (bPut H0.out HR.out).mono ?_
    rintro e w2 ⟨v2, vsA, rfl, hb, _, ho⟩
    have H2 := Lib.hid (And.intro hb ho)
    obtain ⟨c0, c1, c2⟩ := hb.cells
    dsimp only at c0 c1 c2
    clear hb ho
    go_wp2_with fail
    refine (brPut H2.out.1 HR.out).mono ?_
    rintro e w3 ⟨v3, vsB, rfl, hb, hg, ho⟩
    have H3 := Lib.hid (And.intro hb (And.intro (H2.out.2.right hg) ho))
    clear hb hg ho c0 c1 c2 H2
    go_wp2_with fail
    refine (cEqInts _ _ out out _ (Res.shows H3.out.2.1) (Res.shows H3.out.2.2)).mono ?_
    rintro e w4 ⟨rfl, hb⟩
    rw [decide_eq_true rfl]
    have H4 := Lib.hid (And.intro (H3.out.1.below hb) (H3.out.2.1.below hb))
    clear hb H3
    rcases Res.wiped H4.out.2 with ⟨rfl, _⟩ | ⟨r, cap, rfl, hc1, hc2, hA, hW⟩
    · go_wp2
      go_loopw [11] (fun i wr => i = .int .i64 0 ∧ wr = w4) (fun i _ => 0)
      case atStart => exact ⟨rfl, rfl⟩
      case round =>
        obtain ⟨rfl, rfl⟩ := hrel
        go_wp2
        go_ret
        exact ⟨rfl, _, _, _, H4.out.1.st⟩
    · have HA := Lib.hid hA
      have HW := Lib.hid hW
      obtain ⟨N, hN⟩ : ∃ N, out.length = N := ⟨_, rfl⟩
      rw [hN] at hc1 HW ⊢
      clear hA hW hN
      go_wp2
      go_loopw [11] (fun i wr => ∃ k : Nat, k ≤ N ∧ i = .int .i64 k ∧ Hid (Wiped w4 wr r N)) (fun i _ => N - (intOf i).toNat)
      case atStart => exact ⟨0, by omega, rfl, HW⟩
      case round =>
        obtain ⟨k, hk, rfl, HWr⟩ := hrel
        by_cases hlt : k < N
        · obtain ⟨⟨u, d1⟩, d2⟩ := HWr.out.at hlt
          go_wp2
          go_roundw
          case rel => exact ⟨k + 1, by omega, by go_num, Lib.hid (HWr.out.set _)⟩
          case measure => simp [intOf]; omega
        · obtain rfl : k = N := by omega
          go_wp2
          go_ret
          exact ⟨rfl, _, _, _, H4.out.1.st.wiped HA.out HWr.out⟩
  · obtain ⟨x, q, f', hr⟩ := take_is n f cpu
    have HR := Lib.hid hr
    clear hr
    go_wp2_with fail
    refine (bTake H0.out HR.out).mono ?_
    rintro e w2 ⟨vsA, rfl, hb, _⟩
    have H2 := Lib.hid hb
    obtain ⟨c0, c1, c2⟩ := hb.cells
    dsimp only at c0 c1 c2
    clear hb
    go_wp2_with fail
    refine (brTake H2.out HR.out).mono ?_
    rintro e w3 ⟨vsB, rfl, hb, hg⟩
    have H3 := Lib.hid hb
    clear hb hg c0 c1 c2 H2
    go_wp2
    go_ret
    exact ⟨ret_bool (by simp), _, _, _, H3.out.st⟩
  · obtain ⟨l, f', hr⟩ := drain_is n f cpu
    have HR := Lib.hid hr
    have hd := H0.out.drew
    clear hr
    go_wp2
    go_region_held3 (fun w' => w'.cell? ⟨w.heap.size, 1, none⟩ = some (.int .i64 cpu))
      (first | exact (Bn.cells (show Bn _ _ _ _ _ _ _ _ _ _ _ _ _ _ from by assumption)).2.1 | exact cell_keep hbE (Bn.cells (show Bn _ _ _ _ _ _ _ _ _ _ _ _ _ _ from by assumption)).2.1)
      (first
        | (go_at_call 17; refine (bDrain (by assumption) HR.out).mono ?_; rintro e wN ⟨vN, vsN, rfl, bN, gN, oN⟩; (try have oM2 := oM.left gN))
        | (go_at_call 21; refine (brDrain (by assumption) HR.out).mono ?_; rintro e wM ⟨vM, vsM, rfl, bM, gM, oM⟩; (try have oN2 := oN.right gM))
        | (go_at_call 11; refine (cEqInts _ _ l l _ (by first | exact Res.shows oN2 | exact Res.shows oN) (by first | exact Res.shows oM2 | exact Res.shows oM)).mono ?_; rintro e wE ⟨rfl, hbE⟩))
    all_goals
      have H9 := Lib.hid (bM.below hbE).st
      clear bM bN hbE gM gN oN oM hd
      go_wp2
      go_ret
      exact ⟨ret_bool (by simp), _, _, _, H9.out⟩
  · obtain ⟨q, hq⟩ : ∃ q, hasB f n page = q := ⟨_, rfl⟩
    have HQ := Lib.hid hq
    have hd := H0.out.drew
    clear hq
    go_wp2
    go_region_held3 (fun w' => w'.cell? ⟨w.heap.size, 2, none⟩ = some (.int .i64 page))
      (first | exact (Bn.cells (show Bn _ _ _ _ _ _ _ _ _ _ _ _ _ _ from by assumption)).2.2)
      (first
        | (go_at_call 18; refine (bHas (by assumption) HQ.out).mono ?_; rintro e wN ⟨rfl, bN⟩)
        | (go_at_call 22; refine (brHas (by assumption) HQ.out).mono ?_; rintro e wM ⟨rfl, bM⟩))
    all_goals
      have H9 := Lib.hid bM.st
      clear bM bN hd
      go_wp2
      go_ret
      exact ⟨ret_bool (by simp), _, _, _, H9.out⟩
end
end Go.Proofs.Ytpmlmpkjmgebnaa
