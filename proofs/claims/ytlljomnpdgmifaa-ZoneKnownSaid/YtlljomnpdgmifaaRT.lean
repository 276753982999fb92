/-
  The document's Zone: Tag.
-/
import Derived.Test.YtlljomnpdgmifaaRA
set_option linter.unusedVariables false
set_option linter.unusedSimpArgs false
namespace Go.Proofs.Ytlljomnpdgmifaa
open Go Go.RowKit

theorem resTagR : Try.f33.results = #[.cell 4 78, .tmp 5] := rfl
theorem res_TagR (w : World) (tmps : Array Value) (K : Nat) (a b c : Int) (q : Bool) (h2 : tmps[4]?.getD undef = .pointer (some ⟨K, 0, none⟩)) (h3 : tmps[5]?.getD undef = .bool q) (h : w.heap[K]? = some (.cells #[.int .i64 a, .int .i64 b, .int .i64 c] 78 (0, 0))) :
    (results Try.f33 tmps).run Try.prog w = .ok (.tuple #[.agg #[.int .i64 a, .int .i64 b, .int .i64 c], .bool q]) w := by
  obtain ⟨r0, r1, r2⟩ := self3 h
  simp [results, resTagR, go_sem, h2, h3, r0, r1, r2]
section
variable {w w' w'' : World} {z n : Nat} {N N' N'' : Rn} {l l' : List Pg} {f f' : F} {t : Int → Option Pg}
theorem RC.facts (h : RC w z N n l f) {b : Nat} (hb : b < l.length) : w.cell? ⟨z, 0, none⟩ = some (.pointer (some ⟨N.bB, 0, none⟩)) ∧ w.cell? ⟨N.bB, 0, none⟩ = some (.slice (some ⟨N.gB, 0, none⟩) l.length N.cp) ∧ w.cell? ⟨N.gB, b * 3 + 1, none⟩ = some (.int .i64 (pg l b).order) ∧ w.cell? ⟨N.gB, b * 3 + 2, none⟩ = some (.int .i64 (pg l b).cache) :=
  ⟨h.cells.1, h.bud.self, (h.bud.tab.cells hb).2.1, (h.bud.tab.cells hb).2.2⟩
theorem RC.set3 {K : Nat} (h : RC w z N n l f) (hK : ¬ ROwn n z N K) (a b c : Nat) (u v x : Value) : RC (((w.setCell ⟨K, a, none⟩ u).setCell ⟨K, b, none⟩ v).setCell ⟨K, c, none⟩ x) z N n l f :=
  h.kept (kept_set3 (S := (· = K)) (Kept.refl _ _) rfl a b c u v x) (fun k o e => hK (e ▸ o))
theorem RC.not_own {K : Nat} {c : Array Value} {T : TypeId} {fr : Nat × Nat} (h : RC w z N n l f) (hb : w.heap[K]? = some (.cells c T fr)) (h1 : T ≠ 72) (h2 : T ≠ 77) (h3 : T ≠ 99) (h4 : T ≠ 94) (h5 : T ≠ 73) (h6 : T ≠ 3) : ¬ ROwn n z N K := by
  rintro (rfl | rfl | rfl | o)
  · exact ne_types hb h.box h1 rfl
  · exact ne_types hb h.bud.box h2 rfl
  · obtain ⟨c', hg⟩ := h.tabB
    exact ne_types hb hg h3 rfl
  · exact h.nr.not_own hb h4 h5 h6 o
set_option maxHeartbeats 8000000 in
set_option maxRecDepth 100000 in
theorem rzTag (h : RC w z N n l f) (hi : ZInv n l f) (tg : TG n l f t) {x a c d : Int} {q : Bool} (hr : LookIs t x a c d q) :
    Calls Try.prog 33 #[.pointer (some ⟨z, 0, none⟩), .int .i64 x] w fun e w' => e = .returned (.tuple #[.agg #[.int .i64 a, .int .i64 c, .int .i64 d], .bool q]) ∧ Below w.heap.size w w' := by
  have h1 := h.below (below_one (Below.refl _ w) (.cells #[.int .i64 0, .int .i64 0, .int .i64 0] 78))
  have HZ := Lib.hid h1
  have hblk := heap_new w (.cells #[.int .i64 0, .int .i64 0, .int .i64 0] 78)
  have HBK := Lib.hid hblk
  obtain ⟨c0, c1⟩ := h1.cells
  have d0 := h1.bud.self
  have hcap := h1.bud.cap
  have hn2 := h1.bud.n2
  unfold maxLen at hcap
  by_cases hx : 0 ≤ x ∧ x < l.length
  · obtain ⟨y, rfl⟩ : ∃ y : Nat, x = (y : Int) := ⟨x.toNat, by omega⟩
    have hy : y < l.length := by omega
    have hbb := tg.by_beg hi.std.cov hy
    have hbl := beg_le l y
    have HH := Lib.hid (head_in hi.std.valid hy)
    obtain ⟨b, hb⟩ : ∃ b, beg l y = b := ⟨_, rfl⟩
    rw [hb] at hbb hbl
    have HBG := Lib.hid hb
    have hbn : b < l.length := by omega
    clear hb
    cases hot : ot n l f b with
    | none =>
      rw [hot] at hbb
      obtain ⟨rfl, rfl, rfl, rfl⟩ : a = 0 ∧ c = 0 ∧ d = 0 ∧ q = false := by
        rcases hr with ⟨e, _⟩ | ⟨_, e1, e2, e3, e4⟩
        · rw [hbb] at e; cases e
        · exact ⟨e1, e2, e3, e4⟩
      have HO : Hid (OutQ n l f (b : Int) false) := Lib.hid (.inr ⟨rfl, fun p e => by
        obtain rfl : b = p := by omega
        exact hot⟩)
      clear h h1 hi tg hr hbb hot hblk hx
      go_enter Try.func33, Try.ntmps33
      go_wp2_with fail
      refine (rHead _ l y b 0 (by rw [HH.out, HBG.out]) _ HZ.out.bud.shows).mono ?_
      rintro e w2 ⟨rfl, hb2⟩
      have H2 := Lib.hid (And.intro (HZ.out.below hb2) (And.intro (keep_block HBK.out hb2) (below_then (below_one (Below.refl _ w) _) hb2)))
      clear hb2 c0 c1 d0
      go_wp2_with fail
      refine (rzOut H2.out.1 HO.out).mono ?_
      rintro e w3 ⟨rfl, rfl⟩
      have e0 := self3 H2.out.2.1
      obtain ⟨e0, e1, e2⟩ := e0
      have f0 := self_free H2.out.2.1
      go_wp2
      refine bodyPost_ret (res_TagR _ _ w.heap.size 0 0 0 false rfl rfl ?_) rfl ⟨rfl, ?_⟩
      · exact sets3_block H2.out.2.1
      · exact below_set3 H2.out.2.2 (Nat.le_refl _) _ _ _ _ _ _
    | some X =>
      rw [hot] at hbb
      have hX := ot_some.1 hot
      obtain ⟨k, o, ca⟩ := X
      simp only [Option.map_some] at hbb
      obtain ⟨rfl, rfl, rfl, rfl⟩ : a = (b : Int) ∧ c = o ∧ d = ca ∧ q = true := by
        rcases hr with ⟨e, e2⟩ | ⟨e, _⟩
        · rw [hbb] at e
          simp only [Option.some.injEq, Pg.mk.injEq] at e
          exact ⟨e.1.symm, e.2.1.symm, e.2.2.symm, e2⟩
        · rw [hbb] at e; cases e
      have HO : Hid (OutQ n l f (b : Int) true) := Lib.hid (.inl ⟨rfl, b, rfl, _, hot⟩)
      have HE : Hid (pg l b = ⟨k, c, d⟩) := Lib.hid hX.2
      clear h h1 hi tg hr hbb hot hblk hx hX
      go_enter Try.func33, Try.ntmps33
      go_wp2_with fail
      refine (rHead _ l y b 0 (by rw [HH.out, HBG.out]) _ HZ.out.bud.shows).mono ?_
      rintro e w2 ⟨rfl, hb2⟩
      have H2 := Lib.hid (And.intro (HZ.out.below hb2) (And.intro (keep_block HBK.out hb2) (below_then (below_one (Below.refl _ w) _) hb2)))
      clear hb2 c0 c1 d0
      go_wp2_with fail
      refine (rzOut H2.out.1 HO.out).mono ?_
      rintro e w3 ⟨rfl, rfl⟩
      have HNO := Lib.hid (H2.out.1.not_own H2.out.2.1 (by decide) (by decide) (by decide) (by decide) (by decide) (by decide))
      have HF := H2.out.1.drew.facts hbn
      rw [HE.out] at HF
      have HF1 := Lib.hid HF
      have HD := Lib.hid H2.out.1.drew
      clear HF
      obtain ⟨e0, e1, e2⟩ := self3 H2.out.2.1
      have f0 := self_free H2.out.2.1 0
      have f1 := self_free H2.out.2.1 1
      have f2 := self_free H2.out.2.1 2
      have hbl2 : (b : Int) < l.length := by omega
      go_wp2
      go_region_held3 (fun W => W.cell? ⟨z, 0, none⟩ = some (.pointer (some ⟨N.bB, 0, none⟩)) ∧ W.cell? ⟨N.bB, 0, none⟩ = some (.slice (some ⟨N.gB, 0, none⟩) l.length N.cp) ∧ W.cell? ⟨N.gB, b * 3 + 1, none⟩ = some (.int .i64 c) ∧ W.cell? ⟨N.gB, b * 3 + 2, none⟩ = some (.int .i64 d))
        (first | exact HF1.out | (have hq := (HD.out.set3 HNO.out 0 1 2 (.int .i64 (b : Int)) (.int .i64 c) (.int .i64 d)).facts hbn; rw [HE.out] at hq; exact hq))
        (fail)
      go_wp2
      refine bodyPost_ret (res_TagR _ _ w.heap.size b c d true rfl rfl ?_) rfl ⟨rfl, ?_⟩
      · exact sets3_block (show w3.drew.heap[w.heap.size]? = _ from H2.out.2.1)
      · exact below_set3 (Below.drew H2.out.2.2) (Nat.le_refl _) _ _ _ _ _ _
  · have htx : t x = none := by
      cases ht : t x with
      | none => rfl
      | some T =>
        have := tg.range hi.std.cov ht
        exact absurd ⟨this.1, this.2.1⟩ hx
    obtain ⟨rfl, rfl, rfl, rfl⟩ : a = 0 ∧ c = 0 ∧ d = 0 ∧ q = false := by
      rcases hr with ⟨e, _⟩ | ⟨_, e1, e2, e3, e4⟩
      · rw [htx] at e; cases e
      · exact ⟨e1, e2, e3, e4⟩
    obtain ⟨e0, e1, e2⟩ := self3 hblk
    have hor : x < 0 ∨ (¬ x < 0 ∧ (l.length : Int) ≤ x) := by omega
    clear h h1 hi tg hr hblk hx htx
    rcases hor with h1 | ⟨h1, h2⟩
    all_goals
      go_enter Try.func33, Try.ntmps33
      go_wp2
      refine bodyPost_ret (res_TagR _ _ w.heap.size 0 0 0 false rfl rfl ?_) rfl ⟨rfl, ?_⟩
      · exact heap_new _ _
      · exact below_one (Below.refl _ _) _
end
end Go.Proofs.Ytlljomnpdgmifaa
