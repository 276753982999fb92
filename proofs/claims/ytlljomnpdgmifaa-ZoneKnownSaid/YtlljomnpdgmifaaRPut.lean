/-
  Put of the document's answer.
-/
import Derived.Test.YtlljomnpdgmifaaTake

set_option linter.unusedVariables false
set_option linter.unusedSimpArgs false
namespace Go.Proofs.Ytlljomnpdgmifaa
open Go Go.RowKit

section
variable {w w' w1 : World} {T : TypeId} {B g n lim : Nat} {vs vs1 vs' : Nat → Value} {f : F}
theorem NearG.cutShows {wC : World} {c m L cap : Nat} {a : Option Addr} {v' : Value} (h : NearG w T B g vs n lim f) (hc : c < n) (hm : m ≤ (f c).length) (hv : vs c = .slice a L cap) (ha : a ≠ none) (hb : Below w.heap.size w wC) :
    ShowI (wC.setCell ⟨g, c, none⟩ v') (.slice a m cap) ((f c).take m) := by
  have hr := h.row c hc
  rw [hv] at hr
  have hl : ((f c).take m).length = m := by simp; omega
  have hcut := own_cut (cap' := cap) hr hm ha
  have hset : Kept (· = g) wC (wC.setCell ⟨g, c, none⟩ v') := Kept.setCell (S := (· = g)) (p := ⟨g, c, none⟩) (Kept.refl _ wC) rfl v'
  exact own_i (own_kept (own_below hcut hb) hset (fun j e1 e2 => h.ownG hc (by rw [hv, ← e2]; cases a <;> exact e1)))
theorem Out.fresh {v : Value} {l : List Int} (h : NearG w1 T B g vs1 n lim f) (hG : Goes w w1 n B g vs vs1) (hr : Fresh w1 w' v l) : Out w w' n B g vs vs1 v l :=
  hr.mono fun k (e : w1.heap.size ≤ k) => ⟨fun o => by have := h.own_lt o; omega, .inr (Nat.le_trans hG.1.size e)⟩
theorem Goes.below (h : Goes w w1 n B g vs vs1) (hb : Below w1.heap.size w1 w') : Goes w w' n B g vs vs1 := ⟨h.1.trans (Kept.ofBelow hb), h.2⟩
set_option maxHeartbeats 16000000 in
set_option maxRecDepth 100000 in
theorem rPutIn (h : NearG w 94 B g vs n lim f) (hf : Fine n lim f) {c : Nat} {page : Int} (hc : c < n) (hp1 : 0 ≤ page) (hp2 : page < 1024) (hb : hasB f n page = false) :
    Calls Try.prog 57 #[.pointer (some ⟨B, 0, none⟩), .int .i64 c, .int .i64 page] w fun e w' => ((f c).length + 1 ≤ lim → Put2 w 94 B g n lim vs (nUpd f c (f c ++ [page])) [] 0 e w') ∧
      (lim < (f c).length + 1 → ∀ k, k = ((f c).length + 1 + 1) / 2 → Put2 w 94 B g n lim vs (nUpd f c ((f c ++ [page]).drop k)) ((f c ++ [page]).take k) 0 e w') := by
  have HA := Lib.hid h
  obtain ⟨c0, c1⟩ := h.self
  have c2 := h.tab.cell hc
  have hs := h.shows hc
  have hn := h.n1
  have hl64 := h.lim64
  obtain ⟨i0, hi, hz0, hz1, hz2⟩ := info_parts infoI
  have HQ := Lib.hid (decide_eq_true (show (0 : Int) ≤ (c : Int) ∧ (c : Int) < (n : Int) by omega))
  have HB := Lib.hid hb
  obtain ⟨v, hv⟩ : ∃ v, vs c = v := ⟨_, rfl⟩
  obtain ⟨L, hL⟩ : ∃ L, (f c).length = L := ⟨_, rfl⟩
  obtain ⟨xs, hxs⟩ : ∃ xs, nms (f c) = xs := ⟨_, rfl⟩
  have hL64 : L ≤ 64 := by have := hf c hc; omega
  rw [hv] at c2 hs
  have HS := Lib.hid hs
  have HV := Lib.hid (And.intro hv (And.intro hL hxs))
  rw [hL]
  obtain ⟨N, hN⟩ : ∃ N, L + 1 = N := ⟨_, rfl⟩
  have hNL : N ≤ 65 := by omega
  have hN1 : 1 ≤ N := by omega
  have HLN := Lib.hid hN
  rw [hN]
  clear hN h hb hv hL hxs hf hs
  go_enter Try.func57, Try.ntmps57
  go_wp2_with fail
  refine (rHasCpu HA.out c true HQ.out).mono ?_
  rintro e w1 ⟨rfl, rfl⟩
  go_wp2_with fail
  refine (rHas HA.out page false HB.out).mono ?_
  rintro e w2 ⟨rfl, rfl⟩
  go_wp2_with fail
  refine (cCopyInts v (f c) _ HS.out (by rw [HV.out.2.1]; omega)).mono ?_
  rintro e w3 ⟨a3, cap3, rfl, hown3, hb3⟩
  rw [HV.out.2.1, HV.out.2.2] at hown3
  rw [HV.out.2.1]
  have hz3 := hb3.size
  go_wp2_with (at_builtin; refine wpList_append_own_at _ (by rfl) _ _ 73 (by rfl) w2.heap.size 3 i0 (.int .i64 0) 1 8 Try.underlying73 hi hz0 hz1 hz2 (by rfl) (by decide) _ L xs (by rfl) (hown3.alloc _) ⟨w3.heap.size, 0, none⟩ 1 1 [.int .i64 page] (by rfl) (by rfl) (cell_one_new _ _ _) (by intro u hu; simp at hu; subst hu; rfl) (by unfold maxLen; omega) (by omega) (by rw [size_alloc]; omega) ?_)
  intro v4 w4 hown4 hg4 hnil hat4
  have hb4 : Below w2.heap.size w2 w4 := (below_one hb3 _).grown hg4 (by rw [size_alloc]; omega) (own_ge hown3)
  rw [HLN.out] at hown4
  obtain ⟨b4, cap4, rfl, hcN, hcM⟩ : ∃ b cap, v4 = .slice (some ⟨b, 0, none⟩) N cap ∧ N ≤ cap ∧ cap ≤ 9223372036854775807 := by
    rcases hown4.2 with ⟨_, e⟩ | ⟨b, cap, cur, e, _, _, h1, h2, _⟩
    · omega
    · exact ⟨b, cap, e, h1, by unfold maxLen at h2; omega⟩
  have hown0 : w4.ownsRow 0 3 1 (.slice (some ⟨b4, 0, none⟩) N cap4) (f c ++ [page]).length (nms (f c ++ [page])) := by
    rw [nms_snoc, List.length_append, HV.out.2.1, HV.out.2.2]
    show w4.ownsRow 0 3 1 (.slice (some ⟨b4, 0, none⟩) N cap4) (L + 1) (xs ++ [.int .i64 page])
    rw [HLN.out]
    refine ⟨hown4.1, ?_⟩
    rcases hown4.2 with e | ⟨r, cp, cur, e, _, h1⟩
    · exact .inl e
    · exact .inr ⟨r, cp, cur, e, Nat.zero_le _, h1⟩
  have HW := Lib.hid (HA.out.write (S := fun _ => False) (l := f c ++ [page]) (Kept.ofBelow hb4) (fun _ e => e.elim) hc hown0 (by rw [List.length_append, HV.out.2.1]; have := HLN.out; simp; omega) (fun k e => .inr (own_ge hown4 k e)))
  obtain ⟨k0, k1⟩ := (HA.out.below hb4).self
  obtain ⟨k2, kf⟩ := updV_read (HA.out.below hb4).tab hc
  clear hown0 hat4 hnil hg4 hown4 hown3 hb3 hz3 c0 c1 c2 hb4
  go_upto_region 7 with fail
  obtain ⟨w5, hw5⟩ : ∃ w5, w4.setCell ⟨g, c, none⟩ (.slice (some ⟨b4, 0, none⟩) N cap4) = w5 := ⟨_, rfl⟩
  rw [hw5] at HW ⊢
  obtain ⟨e0, e1⟩ := HW.out.1.self
  clear hw5 k0 k1 k2 kf
  by_cases hle : N ≤ lim
  · go_wp2
    go_ret2
    exact ⟨fun _ => ⟨_, _, rfl, HW.out.1, HW.out.2, Out.nil _ _ _ _ _ _ _⟩, fun e => absurd e (by omega)⟩
  · obtain ⟨k, hk⟩ : ∃ k, k = (N + 1) / 2 := ⟨_, rfl⟩
    have hkt := tdiv2 N k hk
    have HK := Lib.hid hk
    have hkN : k ≤ N := by omega
    have hkl : Hid (k ≤ (nUpd f c (f c ++ [page]) c).length) := Lib.hid (by rw [upd_same, List.length_append, HV.out.2.1]; have := HLN.out; simp; omega)
    obtain ⟨r, hr⟩ : ∃ r, (nUpd f c (f c ++ [page]) c).drop k = r := ⟨_, rfl⟩
    have HR := Lib.hid hr
    have hs5 : ShowI w5 (.slice (some ⟨b4, 0, none⟩) N cap4) (nUpd f c (f c ++ [page]) c) := by
      have := HW.out.1.shows hc
      rwa [updV_same] at this
    have hd := hs5.drop hkl.out
    rw [hr] at hd
    have hr65 : r.length ≤ 1000 := by rw [← hr]; have := HW.out.1.len c hc; simp; omega
    have HR6 := Lib.hid hr65
    have HVV : Hid (updV vs c (.slice (some ⟨b4, 0, none⟩) N cap4) c = .slice (some ⟨b4, 0, none⟩) N cap4) := Lib.hid (updV_same _ _ _)
    have hfin : ∀ (wC : World) (v' : Value), Below w5.heap.size w5 wC → wC.ownsRow w5.heap.size 3 1 v' r.length (nms r) →
        ∃ vs6, NearG (wC.setCell ⟨g, c, none⟩ v') 94 B g vs6 n lim (nUpd f c ((f c ++ [page]).drop k)) ∧ Goes w2 (wC.setCell ⟨g, c, none⟩ v') n B g vs vs6 ∧ ShowI (wC.setCell ⟨g, c, none⟩ v') (.slice (some ⟨b4, 0, none⟩) k cap4) ((f c ++ [page]).take k) := by
      intro wC v' hbC hown
      obtain ⟨q1, q2, _⟩ := HW.out.1.cutDone hc hkl.out HVV.out hbC (by rw [HR.out]; exact hown)
      have q3 := HW.out.1.cutShows (v' := v') hc hkl.out HVV.out (by simp) hbC
      rw [upd_same] at q1 q3
      rw [upd_upd] at q1
      exact ⟨_, q1, HW.out.2.trans q2, q3⟩
    have HFIN := Lib.hid hfin
    obtain ⟨t, ht⟩ : ∃ t, (f c ++ [page]).take k = t := ⟨_, rfl⟩
    have HT := Lib.hid ht
    have HTL : Hid (t.length ≤ 1000) := Lib.hid (by rw [← ht, List.length_take]; omega)
    have hkb : k ≤ 100 := by omega
    clear hfin hk hr hs5 hr65 ht
    by_cases hmc : cap4 = k
    · have hrz : r = [] := List.length_eq_zero_iff.1 (by rw [← HR.out, List.length_drop, upd_same, List.length_append, HV.out.2.1]; have := HLN.out; simp; omega)
      have hs0 : ShowI w5.drew (.slice (some ⟨b4, 0, none⟩) 0 0) r := by
        rw [hrz]
        exact ShowI.zero _ _ (by omega)
      have HS0 := Lib.hid hs0
      obtain rfl : cap4 = k := hmc
      obtain rfl : cap4 = N := by omega
      clear hs0 hd hrz
      go_wp2_with fail
      go_region_law (go_simp; go_at_call 79; refine (cCopyInts _ r _ HS0.out HR6.out).mono ?_; rintro e wC ⟨aC, capC, rfl, ownC, hbC'⟩; have hbC := undrew hbC'; have hsC := (HW.out.1.below hbC).self.1; obtain ⟨d2, df⟩ := updV_read (HW.out.1.below hbC).tab hc; rw [HVV.out] at d2)
      all_goals
        obtain ⟨vs6, z1, z2, z3⟩ := HFIN.out wC _ hbC ownC
        obtain ⟨w6, hw6⟩ : ∃ w6, wC.setCell ⟨g, c, none⟩ (.slice aC r.length capC) = w6 := ⟨_, rfl⟩
        rw [hw6] at z1 z2 z3 ⊢
        rw [HT.out] at z3
        have H6 := Lib.hid (And.intro z1 (And.intro z2 z3))
        clear z1 z2 z3 hw6 hbC hbC' ownC hsC d2 df HFIN
        go_wp2_with fail
        refine (cCopyInts _ _ _ H6.out.2.2 HTL.out).mono ?_
        rintro e w7 ⟨a7, cap7, rfl, hown7, hb7⟩
        have H7 := Lib.hid (And.intro hown7 hb7)
        clear hown7 hb7
        go_wp2
        go_ret2
        exact ⟨fun e => absurd e (by omega), fun _ k' hk' => by
          rw [show k' = cap4 from hk'.trans HK.out.symm, HT.out]
          exact ⟨_, _, rfl, H6.out.1.below H7.out.2, H6.out.2.1.below H7.out.2, Out.fresh H6.out.1 H6.out.2.1 (Fresh.of H7.out.1)⟩⟩
    · have hkc : k < cap4 := by omega
      have hs0 : ShowI w5.drew (.slice (some ⟨b4, k, none⟩) (N - k) (cap4 - k)) r := hd
      have HS0 := Lib.hid hs0
      clear hs0 hd
      go_wp2_with fail
      go_region_law (go_simp; go_at_call 79; refine (cCopyInts _ r _ HS0.out HR6.out).mono ?_; rintro e wC ⟨aC, capC, rfl, ownC, hbC'⟩; have hbC := undrew hbC'; have hsC := (HW.out.1.below hbC).self.1; obtain ⟨d2, df⟩ := updV_read (HW.out.1.below hbC).tab hc; rw [HVV.out] at d2)
      all_goals
        obtain ⟨vs6, z1, z2, z3⟩ := HFIN.out wC _ hbC ownC
        obtain ⟨w6, hw6⟩ : ∃ w6, wC.setCell ⟨g, c, none⟩ (.slice aC r.length capC) = w6 := ⟨_, rfl⟩
        rw [hw6] at z1 z2 z3 ⊢
        rw [HT.out] at z3
        have H6 := Lib.hid (And.intro z1 (And.intro z2 z3))
        clear z1 z2 z3 hw6 hbC hbC' ownC hsC d2 df HFIN
        go_wp2_with fail
        refine (cCopyInts _ _ _ H6.out.2.2 HTL.out).mono ?_
        rintro e w7 ⟨a7, cap7, rfl, hown7, hb7⟩
        have H7 := Lib.hid (And.intro hown7 hb7)
        clear hown7 hb7
        go_wp2
        go_ret2
        exact ⟨fun e => absurd e (by omega), fun _ k' hk' => by
          rw [show k' = k from hk'.trans HK.out.symm, HT.out]
          exact ⟨_, _, rfl, H6.out.1.below H7.out.2, H6.out.2.1.below H7.out.2, Out.fresh H6.out.1 H6.out.2.1 (Fresh.of H7.out.1)⟩⟩
set_option maxHeartbeats 4000000 in
set_option maxRecDepth 100000 in
theorem rPut (h : NearG w 94 B g vs n lim f) (hf : Fine n lim f) {cpu page er : Int} {out : List Int} {f' : F} (hr : PutIs n lim f cpu page out er f') :
    Calls Try.prog 57 #[.pointer (some ⟨B, 0, none⟩), .int .i64 cpu, .int .i64 page] w (Put2 w 94 B g n lim vs f' out er) := by
  have HA := Lib.hid h
  have HF := Lib.hid hf
  clear hf
  cases hr with
  | range _ _ hno =>
    by_cases hcpu : 0 ≤ cpu ∧ cpu < n
    · have HQ := Lib.hid (decide_eq_true hcpu)
      by_cases hp : 0 ≤ page
      · have hp2 : ¬ page < 1024 := fun e => hno ⟨hcpu, hp, e⟩
        clear h hno hcpu
        go_enter Try.func57, Try.ntmps57
        go_wp2_with fail
        refine (rHasCpu HA.out cpu true HQ.out).mono ?_
        rintro e w1 ⟨rfl, rfl⟩
        go_wp2
        go_ret2
        exact ⟨_, _, rfl, HA.out, Goes.of_below (Below.refl _ _), Out.nil _ _ _ _ _ _ _⟩
      · clear h hno hcpu
        go_enter Try.func57, Try.ntmps57
        go_wp2_with fail
        refine (rHasCpu HA.out cpu true HQ.out).mono ?_
        rintro e w1 ⟨rfl, rfl⟩
        go_wp2
        go_ret2
        exact ⟨_, _, rfl, HA.out, Goes.of_below (Below.refl _ _), Out.nil _ _ _ _ _ _ _⟩
    · have HQ := Lib.hid (decide_eq_false hcpu)
      clear h hno hcpu
      go_enter Try.func57, Try.ntmps57
      go_wp2_with fail
      refine (rHasCpu HA.out cpu false HQ.out).mono ?_
      rintro e w1 ⟨rfl, rfl⟩
      go_wp2
      go_ret2
      exact ⟨_, _, rfl, HA.out, Goes.of_below (Below.refl _ _), Out.nil _ _ _ _ _ _ _⟩
  | block c _ hc hp1 hp2 hb =>
    have HQ := Lib.hid (decide_eq_true (show (0 : Int) ≤ (c : Int) ∧ (c : Int) < (n : Int) by omega))
    have HB := Lib.hid hb
    clear h hb
    go_enter Try.func57, Try.ntmps57
    go_wp2_with fail
    refine (rHasCpu HA.out c true HQ.out).mono ?_
    rintro e w1 ⟨rfl, rfl⟩
    go_wp2_with fail
    refine (rHas HA.out page true HB.out).mono ?_
    rintro e w2 ⟨rfl, rfl⟩
    go_wp2
    go_ret2
    exact ⟨_, _, rfl, HA.out, Goes.of_below (Below.refl _ _), Out.nil _ _ _ _ _ _ _⟩
  | ok c _ hc hp1 hp2 hb hle => exact (rPutIn HA.out HF.out hc hp1 hp2 hb).mono fun e w' h => h.1 hle
  | cut c _ k hc hp1 hp2 hb hgt hk => exact (rPutIn HA.out HF.out hc hp1 hp2 hb).mono fun e w' h => h.2 hgt k hk
end
end Go.Proofs.Ytlljomnpdgmifaa
