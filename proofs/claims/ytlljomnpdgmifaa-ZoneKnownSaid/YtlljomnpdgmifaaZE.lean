/-
  Drain, Left, Whole, Tag of a Zone; the calls of its parts.
-/
import Derived.Test.YtlljomnpdgmifaaZD
set_option linter.unusedVariables false
set_option linter.unusedSimpArgs false
namespace Go.Proofs.Ytlljomnpdgmifaa
open Go Go.RowKit

/-- a Zone as it should be -/
structure ZC (w : World) (z : Nat) (N : Zn) (n : Nat) (l : List Pg) (f : F) (t : Int → Option Pg) : Prop where
  zb : ZB w z N n l f t
  inv : ZInv n l f
  tg : TG n l f t
section
variable {w w' w'' : World} {z n : Nat} {N N' N'' : Zn} {l l' : List Pg} {f f' : F} {t t' : Int → Option Pg}
theorem ZC.below (h : ZC w z N n l f t) (hb : Below w.heap.size w w') : ZC w' z N n l f t := ⟨h.zb.below hb, h.inv, h.tg⟩
theorem ZC.kept {S : Nat → Prop} (h : ZC w z N n l f t) (hk : Kept S w w') (hS : ∀ k, ZOwn n z N k → ¬ S k) : ZC w' z N n l f t := ⟨h.zb.kept hk hS, h.inv, h.tg⟩
theorem ZB.drew (h : ZB w z N n l f t) : ZB w.drew z N n l f t := h.below (Below.refl _ w).drew
theorem ZGoes.drew (w : World) (n z : Nat) (N : Zn) : ZGoes w w.drew n z N N := ZGoes.of_below (Below.refl _ w).drew
theorem ZB.recache (h : ZB w z N n l f t) (e : er l' = er l) : ZB w z N n l' f t := ⟨h.box, by rw [e]; exact h.bud, h.nr, h.fine, h.tags⟩
theorem zDrainCall (h : ZB w z N n l f t) {c : Nat} (hc : c < n) : Calls Try.prog 43 #[.pointer (some ⟨N.bN, 0, none⟩), .int .i64 c] w fun e w' => ∃ v vs', e = .returned v ∧ ZB w' z { N with vs := vs' } n l (nUpd f c []) t ∧ ZGoes w w' n z N { N with vs := vs' } ∧ Res w' v (f c) (fun _ => True) :=
  (cDrain h.nr (.yes c hc)).mono fun e w' ⟨v, vs', h1, h2, h3, h4⟩ => by
    obtain ⟨a, b⟩ := h.neared h2 (h.fine.upd (by simp)) h3
    exact ⟨v, vs', h1, a, b, Res.mono h4 (fun _ _ => trivial)⟩
theorem zHandCall (h : ZB w z N n l f t) (hs : Std l) {v : Value} {r : List Int} {A : Nat → Prop} (hv : Res w v r A) (hr : ∀ x ∈ r, NearOut l x) (hn : r.Nodup) :
    Calls Try.prog 41 #[v, .func (.func 39) #[.pointer (some ⟨N.bB, 0, none⟩)] #[]] w fun e w' => e = .returned (.tuple #[]) ∧ ZB w' z N n (backL l r) f t ∧ ZGoes w w' n z N N :=
  (zHandOn h.bud hs hv hr hn).mono fun e w' ⟨h1, h2, h3⟩ => ⟨h1, h.budded h2 h3⟩
set_option maxHeartbeats 4000000 in
set_option maxRecDepth 100000 in
theorem zDrainB (h : ZB w z N n l f t) (hs : Std l) {c : Nat} (hc : c < n) (hr : ∀ x ∈ f c, NearOut l x) (hn : (f c).Nodup) :
    Calls Try.prog 19 #[.pointer (some ⟨z, 0, none⟩), .int .i64 c] w fun e w' => e = .returned (.int .i64 0) ∧ ∃ N', ZB w' z N' n (backL l (f c)) (nUpd f c []) t ∧ ZGoes w w' n z N N' := by
  have HD := Lib.hid h.drew
  obtain ⟨c0, c1, c2, c3⟩ := h.cells
  have HS := Lib.hid (And.intro hs (And.intro hr hn))
  have HZ := Lib.hid h
  clear h hs hr hn
  go_enter Try.func19, Try.ntmps19
  go_wp2_with fail
  refine (zRefusesNo HZ.out c hc).mono ?_
  rintro e w' ⟨rfl, rfl⟩
  go_wp2
  go_region_held3 (fun W => W.cell? ⟨z, 1, none⟩ = some (.pointer (some ⟨N.bB, 0, none⟩)) ∧ W.cell? ⟨z, 2, none⟩ = some (.pointer (some ⟨N.bN, 0, none⟩)))
    (first | exact ⟨HD.out.cells.2.1, HD.out.cells.2.2.1⟩ | exact ⟨bM.1.cells.2.1, bM.1.cells.2.2.1⟩ | exact ⟨bN.1.cells.2.1, bN.1.cells.2.2.1⟩)
    (first
      | (go_at_call 43; refine (zDrainCall HD.out hc).mono ?_; rintro e wN ⟨vN, vsN, rfl, bN⟩)
      | (go_at_call 41; refine (zHandCall bN.1 HS.out.1 bN.2.2 HS.out.2.1 HS.out.2.2).mono ?_; rintro e wM ⟨rfl, bM⟩))
  all_goals
    have H9 := Lib.hid (And.intro bM.1 ((ZGoes.drew _ n z N).trans (bN.2.1.trans bM.2)))
    clear bM bN
    go_wp2
    go_ret
    exact ⟨rfl, _, H9.out⟩
theorem zDrain (h : ZC w z N n l f t) {cpu e : Int} (hr : DrIs n l f cpu e l' f') :
    Calls Try.prog 19 #[.pointer (some ⟨z, 0, none⟩), .int .i64 cpu] w fun en w' => en = .returned (.int .i64 e) ∧ ∃ N' t', ZC w' z N' n l' f' t' ∧ ZGoes w w' n z N N' := by
  cases hr with
  | ok c hc =>
    exact (zDrainB h.zb h.inv.std hc (h.inv.near c hc) (h.inv.once c hc)).mono fun en w' ⟨h1, N', h2, h3⟩ => ⟨h1, N', t, ⟨h2, (h.inv.drain hc).inv, h.tg.same (h.inv.drain hc).ot⟩, h3⟩
  | range _ hc =>
    have HZ := Lib.hid h
    clear h
    go_enter Try.func19, Try.ntmps19
    go_wp2_with (go_at_call 37; refine (zRefusesYes HZ.out.zb cpu hc).mono ?_; rintro e w' ⟨rfl, rfl⟩)
    go_ret
    exact ⟨rfl, N, t, HZ.out, ZGoes.refl _ _ _ _⟩
set_option maxHeartbeats 2000000 in
theorem zLeft (h : ZC w z N n l f t) : Calls Try.prog 15 #[.pointer (some ⟨z, 0, none⟩)] w fun e w' => e = .returned (.int .i64 ((freeF l + cnt n f : Nat))) ∧ Below w.heap.size w w' := by
  have HZ := Lib.hid h
  obtain ⟨c0, c1, c2, c3⟩ := h.zb.cells
  have h1 := left_of h.inv.std
  have h2 := h.inv.std.valid.2.1
  have h3 : cnt n f ≤ 6 * n := by
    have hf := h.zb.fine
    have key : ∀ k, k ≤ n → cnt k f ≤ 6 * k := by
      intro k hk
      induction k with
      | zero => simp [cnt, sumTo]
      | succ k ih =>
        have := ih (by omega)
        have := hf k (by omega)
        have e : cnt (k + 1) f = cnt k f + (f k).length := rfl
        omega
    exact key n (Nat.le_refl _)
  have h4 := h.zb.nr.n1
  have HL := Lib.hid (left_er h.inv.std)
  generalize freeF l = L at h1 HL
  obtain ⟨M, hM⟩ : ∃ M, cnt n f = M := ⟨_, rfl⟩
  rw [hM] at h3 ⊢
  have HM := Lib.hid hM
  clear h hM
  go_enter Try.func15, Try.ntmps15
  go_wp2_with fail
  refine (zIsNone HZ.out.zb).mono ?_
  rintro e w' ⟨rfl, rfl⟩
  go_wp2_with fail
  refine (cLeft HZ.out.zb.bud L HL.out).mono ?_
  rintro e w1 ⟨rfl, hb1⟩
  have HZ1 := Lib.hid (And.intro (HZ.out.below hb1) hb1)
  clear hb1
  go_wp2_with fail
  refine (zAllNear HZ1.out.1.zb).mono ?_
  rw [HM.out]
  rintro e w2 ⟨rfl, hb2⟩
  have HB := Lib.hid (below_then HZ1.out.2 hb2)
  clear hb2
  go_wp2
  go_ret
  exact ⟨ret_int (by go_num), HB.out⟩
set_option maxHeartbeats 2000000 in
theorem zWhole (h : ZC w z N n l f t) (q : Bool) (hq : decide (l = ini l.length) = q) : Calls Try.prog 20 #[.pointer (some ⟨z, 0, none⟩)] w fun e w' => e = .returned (.bool q) ∧ Below w.heap.size w w' := by
  have HZ := Lib.hid h
  obtain ⟨c0, c1, c2, c3⟩ := h.zb.cells
  have HQ : Hid (decide (er l = ini (er l).length) = q) := Lib.hid (by rw [← hq]; exact decide_eq_decide.2 (whole_er h.inv.std))
  clear h hq
  go_enter Try.func20, Try.ntmps20
  go_wp2_with fail
  refine (zIsNone HZ.out.zb).mono ?_
  rintro e w' ⟨rfl, rfl⟩
  go_wp2_with fail
  refine (cWhole HZ.out.zb.bud q HQ.out).mono ?_
  rintro e w1 ⟨rfl, hb1⟩
  have HB := Lib.hid hb1
  clear hb1
  go_wp2
  go_ret
  exact ⟨ret_bool (by simp), HB.out⟩
end
end Go.Proofs.Ytlljomnpdgmifaa
