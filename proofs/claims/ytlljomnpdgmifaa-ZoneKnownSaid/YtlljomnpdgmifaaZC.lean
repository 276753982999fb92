/-
  tag, untag, handOn of a Zone.
-/
import Derived.Test.YtlljomnpdgmifaaZB
set_option linter.unusedVariables false
set_option linter.unusedSimpArgs false
namespace Go.Proofs.Ytlljomnpdgmifaa
open Go Go.RowKit

/-- a Zone while its pages are told what they are; the block that the tag stands in -/
structure Tw (w0 w : World) (z : Nat) (N : Zn) (n : Nat) (l : List Pg) (f : F) (t : Int → Option Pg) (K : Nat) (T : Pg) : Prop where
  zb : ZB w z N n l f t
  box : w.heap[K]? = some (.cells #[.int .i64 T.kind, .int .i64 T.order, .int .i64 T.cache] 44 (0, 0))
  goes : ZGoes w0 w n z N N
section
variable {w0 w w' w'' : World} {z n : Nat} {N N' N'' : Zn} {l l' : List Pg} {f f' : F} {t t' : Int → Option Pg} {K : Nat} {T : Pg}
theorem Tw.facts (h : Tw w0 w z N n l f t K T) : w.cell? ⟨z, 3, none⟩ = some (.map (some N.bM)) ∧ w.cell? ⟨K, 0, none⟩ = some (.int .i64 T.kind) ∧ w.cell? ⟨K, 1, none⟩ = some (.int .i64 T.order) ∧ w.cell? ⟨K, 2, none⟩ = some (.int .i64 T.cache) :=
  ⟨h.zb.cells.2.2.2, self_cell h.box 0 _ rfl, self_cell h.box 1 _ rfl, self_cell h.box 2 _ rfl⟩
theorem Tw.drew (h : Tw w0 w z N n l f t K T) : Tw w0 w.drew z N n l f t K T := ⟨h.zb.below (Below.refl _ w).drew, h.box, h.goes.trans (ZGoes.of_below (Below.refl _ w).drew)⟩
theorem Tw.tagged (h : Tw w0 w z N n l f t K T) (ht : TagsAt w' N.bM t') (hk : Kept (· = N.bM) w w') : Tw w0 w' z N n l f t' K T := by
  obtain ⟨h1, h2⟩ := h.zb.tagged ht hk
  exact ⟨h1, (hk.block K (lt_of_block h.box) (h.zb.tags.ne h.box)).trans h.box, h.goes.trans h2⟩
theorem Tw.congr (h : Tw w0 w z N n l f t K T) (e : t' = t) : Tw w0 w z N n l f t' K T := by rw [e]; exact h
theorem Tw.start (h : ZB w z N n l f t) (T : Pg) : Tw w (w.alloc (.cells #[.int .i64 T.kind, .int .i64 T.order, .int .i64 T.cache] 44)) z N n l f t w.heap.size T :=
  ⟨h.below (below_one (Below.refl _ _) _), heap_new _ _, ZGoes.of_below (below_one (Below.refl _ _) _)⟩
set_option maxHeartbeats 4000000 in
set_option maxRecDepth 100000 in
theorem zTag (h : ZB w z N n l f t) (p o : Nat) (c : Int) (ho : o ≤ 10) (hp : p + 2 ^ o ≤ 1024) :
    Calls Try.prog 46 #[.pointer (some ⟨z, 0, none⟩), .agg #[.int .i64 p, .int .i64 o, .int .i64 c]] w fun e w' => e = .returned (.tuple #[]) ∧ ZB w' z N n l f (addT t p (2 ^ o) ⟨(p : Int), (o : Int), c⟩) ∧ ZGoes w w' n z N N := by
  obtain ⟨S, hS⟩ : ∃ S, 2 ^ o = S := ⟨_, rfl⟩
  have hSi := pow_int o S hS
  rw [hS] at hp ⊢
  have hS1 : S ≤ 1024 := by rw [← hS]; exact (pow_le o ho).2
  have h0 := Tw.start h ⟨(p : Int), (o : Int), c⟩
  obtain ⟨_, k0, k1, k2⟩ := h0.facts
  have H0 := Lib.hid h0
  dsimp only at k0 k1 k2
  clear hS h h0
  go_enter Try.func46, Try.ntmps46
  go_wp2
  go_loopw [8] (fun i wr => ∃ k : Nat, k ≤ S ∧ i = .int .i64 k ∧ Hid (Tw w wr z N n l f (addT t p k ⟨(p : Int), (o : Int), c⟩) w.heap.size ⟨(p : Int), (o : Int), c⟩)) (fun i _ => S - (intOf i).toNat)
  case atStart => exact ⟨0, by omega, rfl, Lib.hid (H0.out.congr (addT_zero _ _ _))⟩
  case round =>
    obtain ⟨k, hk, rfl, HW⟩ := hrel
    by_cases hlt : k < S
    · have HD := Lib.hid HW.out.drew
      have HF := Lib.hid HD.out.facts
      obtain ⟨w1, hrun, ht1, hk1⟩ := HD.out.zb.tags.put (x := p + k) (by omega) ⟨(p : Int), (o : Int), c⟩
      rw [addT_succ] at ht1
      have HD1 := Lib.hid (HD.out.tagged ht1 hk1)
      have HF1 := Lib.hid HD1.out.facts
      have hsum : IntKind.i64.wrap ((p : Int) + (k : Int)) = (p : Int) + (k : Int) := IntWalk.i64_in _ (by omega)
      rw [Int.natCast_add] at hrun
      replace hrun : (Instr.mapUpdate 58 (.map (some N.bM)) (.int .i64 ((p : Int) + (k : Int))) (.agg #[.int .i64 (p : Int), .int .i64 (o : Int), .int .i64 c])).run Try.prog wr.drew = .ok () w1 := hrun
      clear ht1 hk1
      go_wp2
      go_region_held3 (fun W => W.cell? ⟨z, 3, none⟩ = some (.map (some N.bM)) ∧ W.cell? ⟨w.heap.size, 0, none⟩ = some (.int .i64 (p : Int)) ∧ W.cell? ⟨w.heap.size, 1, none⟩ = some (.int .i64 (o : Int)) ∧ W.cell? ⟨w.heap.size, 2, none⟩ = some (.int .i64 c))
        (first | exact HF.out | exact HF1.out)
        (fail)
      go_wp2
      go_roundw
      case rel => exact ⟨k + 1, by omega, by go_num, HD1⟩
      case measure => simp [intOf]; omega
    · obtain rfl : k = S := by omega
      go_wp2
      go_end0
      exact ⟨rfl, HW.out.zb, HW.out.goes⟩
theorem Tw.startU (h : ZB w z N n l f t) (T : Pg) : Tw w (w.alloc (.cells #[.int .i64 T.kind, .int .i64 T.order, .int .i64 T.cache] 44)) z N n l f t w.heap.size T := Tw.start h T
set_option maxHeartbeats 4000000 in
set_option maxRecDepth 100000 in
theorem zUntag (h : ZB w z N n l f t) (p o : Nat) (c : Int) (ho : o ≤ 10) (hp : p + 2 ^ o ≤ 1024) :
    Calls Try.prog 38 #[.pointer (some ⟨z, 0, none⟩), .agg #[.int .i64 p, .int .i64 o, .int .i64 c]] w fun e w' => e = .returned (.tuple #[]) ∧ ZB w' z N n l f (delT t p (2 ^ o)) ∧ ZGoes w w' n z N N := by
  obtain ⟨S, hS⟩ : ∃ S, 2 ^ o = S := ⟨_, rfl⟩
  have hSi := pow_int o S hS
  rw [hS] at hp ⊢
  have hS1 : S ≤ 1024 := by rw [← hS]; exact (pow_le o ho).2
  have h0 := Tw.start h ⟨(p : Int), (o : Int), c⟩
  obtain ⟨_, k0, k1, k2⟩ := h0.facts
  have H0 := Lib.hid h0
  dsimp only at k0 k1 k2
  clear hS h h0
  go_enter Try.func38, Try.ntmps38
  go_wp2
  go_loopw [8] (fun i wr => ∃ k : Nat, k ≤ S ∧ i = .int .i64 k ∧ Hid (Tw w wr z N n l f (delT t p k) w.heap.size ⟨(p : Int), (o : Int), c⟩)) (fun i _ => S - (intOf i).toNat)
  case atStart => exact ⟨0, by omega, rfl, Lib.hid (H0.out.congr (delT_zero _ _))⟩
  case round =>
    obtain ⟨k, hk, rfl, HW⟩ := hrel
    by_cases hlt : k < S
    · have HD := Lib.hid HW.out.drew
      have HF := Lib.hid HD.out.facts
      have hsum : IntKind.i64.wrap ((p : Int) + (k : Int)) = (p : Int) + (k : Int) := IntWalk.i64_in _ (by omega)
      go_wp2
      go_region_held3 (fun W => W.cell? ⟨z, 3, none⟩ = some (.map (some N.bM)) ∧ W.cell? ⟨w.heap.size, 0, none⟩ = some (.int .i64 (p : Int)))
        (first | exact ⟨HF.out.1, HF.out.2.1⟩ | exact ⟨HD1.out.facts.1, HD1.out.facts.2.1⟩)
        (first | (refine step_del rfl (.tmp 14) (.tmp 18) rfl (by kernel_rfl) HD.out.zb.tags (y := p + k) (yi := (p : Int) + (k : Int)) (by kernel_rfl) (Int.natCast_add p k).symm (by omega) ?_; intro w1 ht1 hk1; have HD1 := Lib.hid (HD.out.tagged ht1 hk1)))
      have HD2 := Lib.hid (HD1.out.congr (delT_succ _ _ _).symm)
      go_wp2
      go_roundw
      case rel => exact ⟨k + 1, by omega, by go_num, HD2⟩
      case measure => simp [intOf]; omega
    · obtain rfl : k = S := by omega
      go_wp2
      go_end0
      exact ⟨rfl, HW.out.zb, HW.out.goes⟩
/-- it lies in no block of that table -/
theorem Res.ne_tab {v : Value} {r : List Int} {A : Nat → Prop} {g : Nat} {c : Array Value} {fr : Nat × Nat} (h : Res w v r A) (hg : w.heap[g]? = some (.cells c 99 fr)) : Res w v r (· ≠ g) := by
  rcases h with h | ⟨b, cap, cur, h0, h1, h2, h3, hb, hc⟩
  · exact .inl h
  · exact .inr ⟨b, cap, cur, h0, h1, h2, ne_types hb hg (by decide), hb, hc⟩
set_option maxHeartbeats 4000000 in
set_option maxRecDepth 100000 in
theorem zHandOn {B g cap : Nat} {v : Value} {r : List Int} {A : Nat → Prop} (h : BudAt w 92 B g cap (er l)) (hs : Std l) (hv : Res w v r A) (hr : ∀ x ∈ r, NearOut l x) (hn : r.Nodup) :
    Calls Try.prog 41 #[v, .func (.func 39) #[.pointer (some ⟨B, 0, none⟩)] #[]] w fun e w' => e = .returned (.tuple #[]) ∧ BudAt w' 92 B g cap (er (backL l r)) ∧ Kept (· = g) w w' := by
  obtain ⟨c, hg, _⟩ := h.tab
  have HV := Lib.hid (hv.ne_tab hg)
  obtain ⟨ao, cap', rfl, hcap, _⟩ := (Res.shows hv).form
  have HA := Lib.hid h
  have HR := Lib.hid hr
  have HN := Lib.hid hn
  have HS := Lib.hid hs
  clear h hv hr hn hs hg
  go_enter Try.func41, Try.ntmps41
  go_wp2
  go_loopw [8] (fun i wr => ∃ k : Nat, k ≤ r.length ∧ i = .int .i64 k ∧ Hid (BudAt wr 92 B g cap (er (backL l (r.take k))) ∧ Kept (· = g) w wr)) (fun i _ => r.length - (intOf i).toNat)
  case atStart => exact ⟨0, by omega, rfl, Lib.hid ⟨HA.out, Kept.refl _ _⟩⟩
  case round =>
    obtain ⟨k, hk, rfl, HW⟩ := hrel
    by_cases hlt : k < r.length
    · have hsh := Res.shows (HV.out.kept HW.out.2 (fun j hj e => hj e))
      obtain ⟨ao2, cap2, e2, _, hat⟩ := hsh.form
      cases e2
      obtain ⟨b, o, rfl, c0⟩ := hat k hlt
      have hBO := back_ok HS.out (r.take k) (fun x hx => HR.out x (List.mem_of_mem_take hx)) (HN.out.sublist (List.take_sublist _ _))
      obtain ⟨p, hpx, hp, ep⟩ := HR.out (r[k]) (List.getElem_mem hlt)
      have hnot : (p : Int) ∉ r.take k := fun hx => by
        rw [← hpx] at hx
        obtain ⟨j, hj, ej⟩ := List.getElem_of_mem hx
        rw [List.getElem_take] at ej
        have hj2 : j < k := by rw [List.length_take] at hj; omega
        have := (List.getElem_inj HN.out).1 ej
        omega
      have hkd : (pg (backL l (r.take k)) p).kind = 2 := by
        rcases hBO.other p hp hnot with e | ⟨_, e⟩
        · rw [e, ep]
        · rw [ep] at e; exact absurd rfl e
      have hsnoc : backL l (r.take (k + 1)) = freeL (backL l (r.take k)) p := by
        rw [List.take_succ_eq_append_getElem hlt, backL_snoc, hpx]
        rfl
      rw [← pk_at r k hlt, hpx] at c0
      have HST := Lib.hid (std_er hBO.std)
      have HFR : Hid (FreeIs (er (backL l (r.take k))) (p : Int) 0 (er (backL l (r.take (k + 1))))) := Lib.hid (by
        rw [hsnoc, ← free_er hBO.std.cov]
        exact .ok p (by rw [er_length, hBO.len]; exact hp) (by rw [pg_er]; exact hkd))
      clear hsh hat hBO hpx ep hnot hkd hsnoc hp
      go_wp2_with fail
      refine (cFreeB HW.out.1 HST.out HFR.out).mono ?_
      rintro e w1 ⟨rfl, hb1, hk1⟩
      have HW1 := Lib.hid (And.intro hb1 (HW.out.2.trans hk1))
      clear hb1 hk1 c0
      go_wp2
      go_roundw
      case rel => exact ⟨k + 1, by omega, by go_num, HW1⟩
      case measure => simp [intOf]; omega
    · obtain rfl : k = r.length := by omega
      have H9 := HW.out
      rw [List.take_length] at H9
      have HW9 := Lib.hid H9
      clear H9
      go_wp2
      go_end0
      exact ⟨rfl, HW9.out.1, HW9.out.2⟩
end
end Go.Proofs.Ytlljomnpdgmifaa
