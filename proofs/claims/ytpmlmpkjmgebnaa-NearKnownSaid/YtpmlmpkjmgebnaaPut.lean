/-
  Put and Take of the program.
-/
import Derived.Test.YtpmlmpkjmgebnaaCut
import Derived.Deep.Cut
import Derived.Deep.CutRange
set_option linter.unusedVariables false
set_option linter.unusedSimpArgs false
namespace Go.Proofs.Ytpmlmpkjmgebnaa
open Go Go.RowKit

/-- a call that answers two things has come back -/
def Put2 (w : World) (T : TypeId) (B g n lim : Nat) (vs : Nat → Value) (f' : F) (out : List Int) (er : Int) (e : Ending) (w' : World) : Prop :=
  ∃ v vs', e = .returned (.tuple #[v, .int .i64 er]) ∧ NearG w' T B g vs' n lim f' ∧ Goes w w' n B g vs vs' ∧ Out w w' n B g vs vs' v out
def Take2 (w : World) (T : TypeId) (B g n lim : Nat) (vs : Nat → Value) (f' : F) (x : Int) (q : Bool) (e : Ending) (w' : World) : Prop :=
  ∃ vs', e = .returned (.tuple #[.int .i64 x, .bool q]) ∧ NearG w' T B g vs' n lim f' ∧ Goes w w' n B g vs vs'
theorem upd_upd (f : F) (c : Nat) (l m : List Int) : upd (upd f c l) c m = upd f c m := by
  funext i
  by_cases e : i = c
  · subst e; rw [upd_same, upd_same]
  · rw [upd_other _ _ e, upd_other _ _ e, upd_other _ _ e]
theorem nms_snoc (l : List Int) (x : Int) : nms (l ++ [x]) = nms l ++ [.int .i64 x] := by simp [nms]
theorem tdiv2 (N k : Nat) (h : k = (N + 1) / 2) : ((N : Int) + 1).tdiv 2 = (k : Int) := by
  rw [Int.tdiv_eq_ediv_of_nonneg (by omega)]
  omega
section
variable {w w' w1 : World} {T : TypeId} {B g n lim : Nat} {vs vs1 vs' : Nat → Value} {f : F}
theorem Out.pre {v : Value} {l : List Int} (h : Goes w w1 n B g vs vs1) (o : Out w1 w' n B g vs1 vs' v l) : Out w w' n B g vs vs' v l :=
  o.mono fun k ⟨h1, h2⟩ => ⟨h1, by
    rcases h2 with h2 | h2
    · exact h.2 k h2
    · exact .inr (Nat.le_trans h.1.size h2)⟩
theorem NearG.appended {wD wA : World} {c L gD capD : Nat} {v : Value} {xs : List Value} {x : Int} (h : NearG w T B g vs n lim f) (hc : c < n) (hv : vs c = v) (hL : (f c).length = L) (hx : nms (f c) = xs) (hl : L ≤ 64)
    (hown : wD.ownsRow 0 3 1 (.slice (some ⟨gD, 0, none⟩) (L + 1) capD) (L + 1) (xs ++ [.int .i64 x])) (hA : Kept (fun _ => False) w wA) (hg : wA.grownBy wD v.ownBlock) (hat : v.ownBlock = some gD ∨ gD = wA.heap.size) :
    (wD.cell? ⟨B, 0, none⟩ = some (.slice (some ⟨g, 0, none⟩) n n) ∧ wD.cell? ⟨g, c, none⟩ = some v ∧ wD.frozen? ⟨g, c, none⟩ = false) ∧
    NearG (wD.setCell ⟨g, c, none⟩ (.slice (some ⟨gD, 0, none⟩) (L + 1) capD)) T B g (updV vs c (.slice (some ⟨gD, 0, none⟩) (L + 1) capD)) n lim (upd f c (f c ++ [x])) ∧
    Goes w (wD.setCell ⟨g, c, none⟩ (.slice (some ⟨gD, 0, none⟩) (L + 1) capD)) n B g vs (updV vs c (.slice (some ⟨gD, 0, none⟩) (L + 1) capD)) := by
  subst hv hL hx
  have hsz := hA.size
  have hk : Kept (fun k => (vs c).ownBlock = some k) w wD := by
    refine ⟨hg.os.trans hA.os, hg.tape.trans hA.tape, hg.output.trans hA.output, by have := hg.size; omega, fun k h1 h2 => ?_⟩
    rw [hg.block k (by omega) (fun e => h2 e.symm)]
    exact hA.block k h1 id
  have hl2 : (f c ++ [x]).length = (f c).length + 1 := by simp
  obtain ⟨h1, h2⟩ := h.write (l := f c ++ [x]) (v' := .slice (some ⟨gD, 0, none⟩) ((f c).length + 1) capD) hk (fun k e => e) hc (by rw [hl2, nms_snoc]; exact hown) (by omega) (fun k e => by
    obtain rfl : gD = k := by simpa [Value.ownBlock] using e
    rcases hat with e | e
    · exact .inl e
    · exact .inr (by omega))
  refine ⟨⟨cell_kept h.self.1 hk (h.ownB hc), cell_kept (h.tab.cell hc) hk (h.ownG hc), ?_⟩, h1, h2⟩
  exact (row_kept h.tab hk (h.ownG hc)).frozen c
set_option maxHeartbeats 16000000 in
set_option maxRecDepth 100000 in
theorem cPutIn (h : NearG w 48 B g vs n lim f) (hf : Fine n lim f) {c : Nat} {page : Int} (hc : c < n) (hp1 : 0 ≤ page) (hp2 : page < 1024) (hb : hasB f n page = false) :
    Calls Try.prog 15 #[.pointer (some ⟨B, 0, none⟩), .int .i64 c, .int .i64 page] w fun e w' => ((f c).length + 1 ≤ lim → Put2 w 48 B g n lim vs (upd f c (f c ++ [page])) [] 0 e w') ∧
      (lim < (f c).length + 1 → ∀ k, k = ((f c).length + 1 + 1) / 2 → Put2 w 48 B g n lim vs (upd f c ((f c ++ [page]).drop k)) ((f c ++ [page]).take k) 0 e w') := by
  have HA := Lib.hid h
  obtain ⟨c0, c1⟩ := h.self
  have hn := h.n1
  have hl64 := h.lim64
  obtain ⟨i0, hi, hz0, hz1, hz2⟩ := info_parts infoI
  have HQ := Lib.hid (decide_eq_true (show (0 : Int) ≤ (c : Int) ∧ (c : Int) < (n : Int) by omega))
  have HB := Lib.hid hb
  obtain ⟨v, hv⟩ : ∃ v, vs c = v := ⟨_, rfl⟩
  obtain ⟨L, hL⟩ : ∃ L, (f c).length = L := ⟨_, rfl⟩
  obtain ⟨xs, hxs⟩ : ∃ xs, nms (f c) = xs := ⟨_, rfl⟩
  have hL64 : L ≤ 64 := by have := hf c hc; omega
  have HV := Lib.hid (And.intro hv (And.intro hL hxs))
  rw [hL]
  obtain ⟨N, hN⟩ : ∃ N, L + 1 = N := ⟨_, rfl⟩
  have hNL : N ≤ 65 := by omega
  have HLN := Lib.hid hN
  rw [hN]
  clear hN
  clear h hb hv hL hxs hf
  go_enter Try.func15, Try.ntmps15
  go_wp2_with fail
  refine (cIsCpu HA.out c true HQ.out).mono ?_
  rintro e w1 ⟨rfl, rfl⟩
  go_wp2_with fail
  refine (cHas HA.out page false HB.out).mono ?_
  rintro e w2 ⟨rfl, hb⟩
  have HA2 := Lib.hid (HA.out.below hb)
  have HB2 := Lib.hid hb
  obtain ⟨k0, k1⟩ := HA2.out.self
  have k2 := HA2.out.tab.cell hc
  have hown := HA2.out.row c hc
  rw [HV.out.1] at k2 hown
  rw [HV.out.2.1, HV.out.2.2] at hown
  have HO := Lib.hid hown
  obtain ⟨hltB, hltg⟩ := HA2.out.lt
  clear hb hown c0 c1
  go_upto_region 7 with fail
  go_cut [] from 34 (fun wx => ∃ gD capD, NearG wx 48 B g (updV vs c (.slice (some ⟨gD, 0, none⟩) N capD)) n lim (upd f c (f c ++ [page])) ∧ Goes w1 wx n B g vs (updV vs c (.slice (some ⟨gD, 0, none⟩) N capD)))
  case first =>
    go_region_law (refine step_append_lies _ (by rfl) _ _ 33 (by rfl) 0 3 i0 (.int .i64 0) 1 8 Try.underlying33 hi hz0 hz1 hz2 rfl (by decide) v L xs (by rfl) (HO.out.alloc _).drew ⟨w2.heap.size, 0, none⟩ 1 1 [.int .i64 page] (by rfl) (by rfl) (cell_one_new w2 _ _) (by intro u hu; simp at hu; subst hu; rfl) (by decide) (by unfold maxLen; omega) (by omega) (Nat.zero_le _) _ rfl ?_; intro gD capD wD ownD growD hatD hltD; have HD := Lib.hid (HA2.out.appended hc HV.out.1 HV.out.2.1 HV.out.2.2 hL64 ownD ((Kept.refl _ w2).alloc _).drew growD hatD); obtain ⟨q0, q1, q2⟩ := HD.out.1)
    all_goals
      have hN0 := HD.out.2.1
      have hG0 := (Goes.of_below (n := n) (B := B) (g := g) (vs := vs) HB2.out).trans HD.out.2.2
      rw [HLN.out] at hN0 hG0
      have H5 := Lib.hid (And.intro hN0 hG0)
      clear hN0 hG0 HD q0 q1 q2 growD hatD hltD ownD
      go_wp2_with fail
      go_meet
      case rel => exact ⟨gD, capD, by rw [HLN.out]; exact H5.out.1, by rw [HLN.out]; exact H5.out.2⟩
  case rest =>
    obtain ⟨gD, capD, hN0, hG0⟩ := hcut
    have hcell := hN0.tab.cell hc
    rw [updV_same] at hcell
    obtain ⟨e0, e1⟩ := hN0.self
    have HN := Lib.hid hN0
    have HG := Lib.hid hG0
    clear hN0 hG0 k0 k1 k2 hltB hltg
    by_cases hle : N ≤ lim
    · go_wp2
      go_ret2
      exact ⟨fun _ => ⟨_, _, rfl, HN.out, HG.out, Out.nil _ _ _ _ _ _ _⟩, fun e => absurd e (by omega)⟩
    · obtain ⟨k, hk⟩ : ∃ k, k = (N + 1) / 2 := ⟨_, rfl⟩
      have hkt := tdiv2 N k hk
      have HK := Lib.hid hk
      have hkb : k ≤ 100 := by omega
      have hkl : Hid (k ≤ (upd f c (f c ++ [page]) c).length) := Lib.hid (by rw [upd_same, List.length_append, HV.out.2.1]; have := HLN.out; simp; omega)
      clear hk
      go_wp2_with fail
      refine (cCutOff HN.out c k hc hkl.out).mono ?_
      rintro e w5 ⟨v5, vs5, rfl, h1, h2, h3⟩
      rw [upd_same] at h1 h3
      rw [upd_upd] at h1
      have HC := Lib.hid (And.intro h1 (And.intro (HG.out.trans h2) (Out.pre HG.out h3)))
      clear h1 h2 h3
      go_wp2
      go_ret2
      exact ⟨fun e => absurd e (by omega), fun _ k' hk' => by rw [show k' = k by rw [hk', HK.out]]; exact ⟨_, _, rfl, HC.out.1, HC.out.2.1, HC.out.2.2⟩⟩
set_option maxHeartbeats 16000000 in
set_option maxRecDepth 100000 in
theorem cPut (h : NearG w 48 B g vs n lim f) (hf : Fine n lim f) {cpu page er : Int} {out : List Int} {f' : F} (hr : PutIs n lim f cpu page out er f') :
    Calls Try.prog 15 #[.pointer (some ⟨B, 0, none⟩), .int .i64 cpu, .int .i64 page] w (Put2 w 48 B g n lim vs f' out er) := by
  have HA := Lib.hid h
  obtain ⟨c0, c1⟩ := h.self
  have hn := h.n1
  have hl64 := h.lim64
  have HF := Lib.hid hf
  clear hf
  cases hr with
  | range _ _ hno =>
    by_cases hcpu : 0 ≤ cpu ∧ cpu < n
    · have HQ := Lib.hid (decide_eq_true hcpu)
      by_cases hp : 0 ≤ page
      · have hp2 : ¬ page < 1024 := fun e => hno ⟨hcpu, hp, e⟩
        clear h hno hcpu
        go_enter Try.func15, Try.ntmps15
        go_wp2_with fail
        refine (cIsCpu HA.out cpu true HQ.out).mono ?_
        rintro e w1 ⟨rfl, rfl⟩
        go_wp2
        go_ret2
        exact ⟨_, _, rfl, HA.out, Goes.of_below (Below.refl _ _), Out.nil _ _ _ _ _ _ _⟩
      · clear h hno hcpu
        go_enter Try.func15, Try.ntmps15
        go_wp2_with fail
        refine (cIsCpu HA.out cpu true HQ.out).mono ?_
        rintro e w1 ⟨rfl, rfl⟩
        go_wp2
        go_ret2
        exact ⟨_, _, rfl, HA.out, Goes.of_below (Below.refl _ _), Out.nil _ _ _ _ _ _ _⟩
    · have HQ := Lib.hid (decide_eq_false hcpu)
      clear h hno hcpu
      go_enter Try.func15, Try.ntmps15
      go_wp2_with fail
      refine (cIsCpu HA.out cpu false HQ.out).mono ?_
      rintro e w1 ⟨rfl, rfl⟩
      go_wp2
      go_ret2
      exact ⟨_, _, rfl, HA.out, Goes.of_below (Below.refl _ _), Out.nil _ _ _ _ _ _ _⟩
  | block c _ hc hp1 hp2 hb =>
    have HQ := Lib.hid (decide_eq_true (show (0 : Int) ≤ (c : Int) ∧ (c : Int) < (n : Int) by omega))
    have HB := Lib.hid hb
    clear h hb
    go_enter Try.func15, Try.ntmps15
    go_wp2_with fail
    refine (cIsCpu HA.out c true HQ.out).mono ?_
    rintro e w1 ⟨rfl, rfl⟩
    go_wp2_with fail
    refine (cHas HA.out page true HB.out).mono ?_
    rintro e w2 ⟨rfl, hb⟩
    have H := Lib.hid hb
    clear hb
    go_wp2
    go_ret2
    exact ⟨_, _, rfl, HA.out.below H.out, Goes.of_below H.out, Out.nil _ _ _ _ _ _ _⟩
  | ok c _ hc hp1 hp2 hb hle => exact (cPutIn HA.out HF.out hc hp1 hp2 hb).mono fun e w' h => h.1 hle
  | cut c _ k hc hp1 hp2 hb hgt hk => exact (cPutIn HA.out HF.out hc hp1 hp2 hb).mono fun e w' h => h.2 hgt k hk
end
end Go.Proofs.Ytpmlmpkjmgebnaa
