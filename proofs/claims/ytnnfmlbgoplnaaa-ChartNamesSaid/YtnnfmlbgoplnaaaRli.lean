/-
  has and list of the document.
-/
import Derived.Test.YtnnfmlbgoplnaaaRpl

set_option linter.unusedVariables false
set_option linter.unusedSimpArgs false
namespace Go.Proofs.Ytnnfmlbgoplnaaa
open Go Go.RowKit

set_option maxHeartbeats 1000000 in
theorem rHas (u : Value) (l : List Int) (x : Int) (q : Bool) (hq : decide (x ∈ l) = q) (w : World) (hu : ShowI w u l) :
    Calls Try.prog 67 #[u, .int .i64 x] w fun e w' => e = .returned (.bool q) ∧ w' = w := by
  obtain ⟨ao, cap, rfl, ⟨hc1, hc2⟩, hat⟩ := hu.form
  have HQ := Lib.hid hq
  clear hu hq
  go_enter Try.func67, Try.ntmps67
  go_wp2
  go_loopw [5] (fun i wr => ∃ k : Nat, k ≤ l.length ∧ i = .int .i64 k ∧ Hid (∀ j, j < k → pk l j ≠ x) ∧ wr = w) (fun i _ => l.length - (intOf i).toNat)
  case atStart => exact ⟨0, by omega, rfl, Lib.hid (fun j hj => by omega), rfl⟩
  case round =>
    obtain ⟨k, hk, rfl, HN, rfl⟩ := hrel
    by_cases hlt : k < l.length
    · obtain ⟨b1, o1, rfl, c1⟩ := hat k hlt
      by_cases hx : pk l k = x
      · have HT : Hid (true = q) := Lib.hid (by
          rw [← HQ.out]
          refine (decide_eq_true ?_).symm
          rw [← hx, ← pk_at l k hlt]
          exact List.getElem_mem hlt)
        have hxx : (pk l k == x) = true := by simpa using hx
        clear HN HQ hx
        generalize pk l k = y at *
        go_wp2
        go_ret
        exact ⟨ret_bool HT.out, rfl⟩
      · have HF : Hid (∀ j, j < k + 1 → pk l j ≠ x) := Lib.hid (fun j hj => by
          by_cases ej : j = k
          · subst ej; exact hx
          · exact HN.out j (by omega))
        have hxx : (pk l k == x) = false := by simpa using hx
        clear HN hx
        generalize pk l k = y at c1 hxx
        go_wp2
        go_roundw
        case rel => exact ⟨k + 1, by omega, by go_num, HF, trivial⟩
        case measure => simp [intOf]; omega
    · obtain rfl : k = l.length := by omega
      have HT : Hid (false = q) := Lib.hid (by
        rw [← HQ.out]
        refine (decide_eq_false fun e => ?_).symm
        obtain ⟨j, hj, e2⟩ := List.getElem_of_mem e
        exact HN.out j hj (by rw [← pk_at l j hj]; exact e2))
      go_wp2
      go_ret
      exact ⟨ret_bool HT.out, rfl⟩
/-- a part of a list, in a world -/
theorem ShowU.sub {w : World} {b o n cap : Nat} {l : List Int} (h : ShowU w (.slice (some ⟨b, o, none⟩) n cap) l) (hn : l.length = n) (F N : Nat) (hF : F + N ≤ n) (c2 : Nat) (hc : N ≤ c2) (hc2 : c2 ≤ 9223372036854775807) : ShowU w (.slice (some ⟨b, o + F, none⟩) N c2) (sub l F N) := by
  have hlen : (Go.Proofs.Ytnnfmlbgoplnaaa.sub l F N).length = N := by unfold Go.Proofs.Ytnnfmlbgoplnaaa.sub; rw [List.length_take, List.length_drop]; omega
  obtain ⟨hl, ao, cp, hv, hc0, hs⟩ := h
  cases hv
  unfold ShowU
  rw [hlen]
  refine ⟨by simp [hlen], some ⟨b, o + F, none⟩, c2, rfl, ⟨hc, by unfold maxLen; omega⟩, fun hn0 => ⟨b, o + F, rfl, fun j hj => ?_⟩⟩
  obtain ⟨b', o', e, hx⟩ := hs (by omega)
  cases e
  have h1 := hx (F + j) (by omega)
  rw [show o + F + j = o + (F + j) by omega, h1]
  unfold Go.Proofs.Ytnnfmlbgoplnaaa.sub
  simp [List.getElem?_take, List.getElem?_drop, show j < N by omega]
/-- a list that is answered, with its error -/
def Gives (w : World) (r : List Int × Int) (e : Ending) (w' : World) : Prop := ∃ ao cp, e = .returned (.tuple #[.slice ao r.1.length cp, .int .i64 r.2]) ∧ OwnI w.heap.size w' (.slice ao r.1.length cp) r.1 ∧ Below w.heap.size w w'
theorem gives_none {w w' : World} (hb : Below w.heap.size w w') (x : Int) : Gives w ([], x) (.returned (.tuple #[.slice none 0 0, .int .i64 x])) w' := ⟨none, 0, rfl, OwnI.nil _ _, hb⟩
theorem listF_bad {l : List Int} {c : Ch} {s a : Int} (h : s < 0 ∨ c.slabs ≤ s ∨ c.objs ≤ a) : listF l c s a = ([], 150) := by unfold listF; rw [if_pos h]
theorem listF_ok {l : List Int} {c : Ch} {s a : Int} (h : ¬ (s < 0 ∨ c.slabs ≤ s ∨ c.objs ≤ a)) : listF l c s a = if (lst (sub l (c.l0 + s * c.objs).toNat c.objs.toNat) (c.keyOf s) a).2 = 0 then ((lst (sub l (c.l0 + s * c.objs).toNat c.objs.toNat) (c.keyOf s) a).1, 0) else ([], 150) := by unfold listF; rw [if_neg h]
theorem link_in {c : Ch} (ho : c.ok) {s : Int} (h0 : 0 ≤ s) (h1 : s < c.slabs) : c.link s 0 = c.l0 + s * c.objs := by
  have := ho.2.2.1
  unfold Ch.link
  rw [show (inB s c.slabs && inB 0 c.objs) = true by simp [inB]; omega, Ch.at_yes ho]
  omega
set_option maxHeartbeats 4000000 in
set_option maxRecDepth 100000 in
theorem rListF (u : Value) (l : List Int) (c : Ch) (hw : c.wf) (ho : c.ok) (hl : (l.length : Int) = c.n) (s a : Int) (w : World) (hu : ShowU w u l) :
    Calls Try.prog 65 #[u, c.agg, .int .i64 s, .int .i64 a] w (Gives w (listF l c s a)) := by
  by_cases h1 : s < 0
  · rw [listF_bad (.inl h1)]
    clear hw ho hl hu
    go_enter Try.func65, Try.ntmps65
    go_wp2
    go_ret2
    exact gives_none (below_one (Below.refl _ _) _) _
  · by_cases h2 : c.slabs ≤ s
    · rw [listF_bad (.inr (.inl h2))]
      clear hw ho hl hu
      go_enter Try.func65, Try.ntmps65
      go_wp2
      go_ret2
      exact gives_none (below_one (Below.refl _ _) _) _
    · by_cases h3 : c.objs ≤ a
      · rw [listF_bad (.inr (.inr h3))]
        clear hw ho hl hu
        go_enter Try.func65, Try.ntmps65
        go_wp2
        go_ret2
        exact gives_none (below_one (Below.refl _ _) _) _
      · have hp := Ch.prod_at ho (s := s) (by omega) (by omega)
        have hlk := link_in ho (s := s) (by omega) (by omega)
        have hL := fun w => dLink c hw s 0 w
        rw [hlk] at hL
        have hk := keyOf_range c s
        rw [listF_ok (by omega)]
        obtain ⟨ao, cap, rfl, ⟨hc1, hc2⟩, hat⟩ := hu.form
        have hoo := ho
        obtain ⟨⟨o1, o2⟩, ⟨o3, o4⟩, ⟨o5, o6⟩, o7⟩ := ho
        obtain ⟨N, hN⟩ : ∃ N : Nat, c.objs = N := ⟨c.objs.toNat, by omega⟩
        obtain ⟨F, hF⟩ : ∃ F : Nat, c.l0 + s * c.objs = F := ⟨(c.l0 + s * c.objs).toNat, by unfold Ch.l0; omega⟩
        have hfit : F + N ≤ l.length := by
          unfold Ch.n at hl
          unfold Ch.l0 at hF
          omega
        rw [hF] at hL ⊢
        rw [hN, Int.toNat_natCast, Int.toNat_natCast]
        obtain ⟨b, o, rfl, _⟩ := hat 0 (by omega)
        have hsub := hu.sub rfl F N hfit (cap - F) (by omega) (by omega)
        obtain ⟨out, err, hr⟩ : ∃ out err, lst (Go.Proofs.Ytnnfmlbgoplnaaa.sub l F N) (c.keyOf s) a = (out, err) := ⟨_, _, rfl⟩
        have HR : Hid (∀ w1, Below w.heap.size w w1 → Calls Try.prog 78 #[.slice (some ⟨b, o + F, none⟩) N (cap - F), .int .u64 (c.keyOf s), .int .i64 a] w1 fun e w' => ∃ ao cp, e = .returned (.tuple #[.slice ao out.length cp, .int .i64 err]) ∧ OwnI w.heap.size w' (.slice ao out.length cp) out ∧ Below w1.heap.size w1 w') := Lib.hid (fun w1 hb => (rList _ _ _ _ out err w1 (hsub.below hb) hk hr).mono (fun e w' ⟨ao, cp, h1, h2, h3⟩ => ⟨ao, cp, h1, h2.le hb.size, h3⟩))
        rw [hr]
        dsimp only
        obtain ⟨R, hR⟩ : ∃ R, (if err = 0 then (out, (0 : Int)) else ([], 150)) = R := ⟨_, rfl⟩
        rw [hR]
        have HRR := Lib.hid hR
        have HL := Lib.hid hL
        have HK := Lib.hid (fun w => dKey c s w)
        generalize c.keyOf s = key at *
        obtain ⟨p1, p2, p3, p4, p5, p6⟩ := c
        dsimp only at hN h2 h3 o1 o2 o3 o4 o5 o6 o7
        subst hN
        have h00 := one_new w ⟨p1, p2, N, p4, p5, p6⟩
        clear hR hu hat hsub hr hL hk hp hlk hl hF hoo hw o7
        go_enter Try.func65, Try.ntmps65
        go_wp2_with fail
        refine (HL.out _).mono ?_
        rintro e w1 ⟨rfl, hb1⟩
        have hT1 := h00.next hb1
        have hT2 := hT1.drew
        clear hb1 HL h00
        go_wp2
        have hfn : ((F : Int) + (N : Int)).toNat - F = N := by omega
        have hcf : ¬ cap = F := by omega
        have hf0 : (0 : Int) ≤ (F : Int) := by omega
        have hf1 : (F : Int) ≤ (F : Int) + (N : Int) := by omega
        have hfc : ((F : Int) + (N : Int)) ≤ (cap : Int) := by omega
        have hw1 : IntKind.i64.wrap ((F : Int) + (N : Int)) = (F : Int) + (N : Int) := IntWalk.i64_in _ (by omega)
        go_region_held3 (fun w' => w'.cell? ⟨w.heap.size, 0, none⟩ = some (.int .i64 p1) ∧ w'.cell? ⟨w.heap.size, 1, none⟩ = some (.int .i64 p2) ∧ w'.cell? ⟨w.heap.size, 2, none⟩ = some (.int .i64 N) ∧ w'.cell? ⟨w.heap.size, 3, none⟩ = some (.int .i64 p4) ∧ w'.cell? ⟨w.heap.size, 4, none⟩ = some (.int .i64 p5) ∧ w'.cell? ⟨w.heap.size, 5, none⟩ = some (.int .u64 p6) ∧ One w w.heap.size ⟨p1, p2, N, p4, p5, p6⟩ w')
          (first | exact One.six (by assumption))
          (first
            | (go_at_call 30; refine (HK.out _).mono ?_; rintro e w3 ⟨rfl, hb3⟩; have hT3 := One.next (show One w w.heap.size _ _ from by assumption) hb3; clear hb3)
            | (go_at_call 78; refine (HR.out _ (One.low (show One w w.heap.size ⟨p1, p2, N, p4, p5, p6⟩ _ from by assumption))).mono ?_; rintro e w4 ⟨ao4, cp4, rfl, ho4, hb4⟩; have hT4 := One.next (show One w w.heap.size _ _ from by assumption) hb4; have HO4 := Lib.hid ho4; clear ho4 hb4))
        all_goals
          have ho9 := HO4.out
          by_cases he : err = 0
          · have hR9 : R = (out, 0) := by rw [← HRR.out, if_pos he]
            clear HRR
            subst hR9
            go_wp2
            go_ret2
            exact ⟨_, _, rfl, ho9, hT4.low⟩
          · have hR9 : R = ([], 150) := by rw [← HRR.out, if_neg he]
            clear HRR
            subst hR9
            go_wp2
            go_ret2
            exact gives_none hT4.low _
end Go.Proofs.Ytnnfmlbgoplnaaa
