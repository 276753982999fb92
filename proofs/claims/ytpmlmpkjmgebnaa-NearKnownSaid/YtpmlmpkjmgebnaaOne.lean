/-
  Pages near processors that are a call's own, and lists that lie off them; the chapter's examples.
-/
import Derived.Test.YtpmlmpkjmgebnaaRPut
set_option linter.unusedVariables false
set_option linter.unusedSimpArgs false
namespace Go.Proofs.Ytpmlmpkjmgebnaa
open Go Go.RowKit

/-- a list that lies in none of their blocks -/
def Off (w : World) (n B g : Nat) (vs : Nat → Value) (v : Value) (l : List Int) : Prop := Res w v l (fun k => ¬ Own n B g vs k)
structure One (W w : World) (B g : Nat) (vs : Nat → Value) (n lim : Nat) (f : F) : Prop where
  a : NearG w 48 B g vs n lim f
  fine : Fine n lim f
  low : Below W.heap.size W w
  ge : ∀ k, Own n B g vs k → W.heap.size ≤ k
section
variable {W w w' w1 : World} {B g n lim : Nat} {vs vs1 vs' : Nat → Value} {f f' : F}
theorem Out.off {v : Value} {l : List Int} (h : Out w w' n B g vs vs' v l) : Off w' n B g vs' v l := h.mono fun k h => h.1
theorem Off.goes {v : Value} {l : List Int} (h : Off w n B g vs v l) (hG : Goes w w' n B g vs vs') : Off w' n B g vs' v l :=
  (h.and_lt.kept hG.1 (fun k e => e.1)).mono fun k e o => by
    rcases hG.2 k o with o1 | o1
    · exact e.1 o1
    · have := e.2; omega
theorem Off.below {v : Value} {l : List Int} (h : Off w n B g vs v l) (hb : Below w.heap.size w w') : Off w' n B g vs v l := Res.below h hb
theorem Fresh.off {v : Value} {l : List Int} {T : TypeId} (h : Fresh w w' v l) (ha : NearG w T B g vs n lim f) : Off w' n B g vs v l :=
  h.mono fun k (e : w.heap.size ≤ k) o => by have := ha.own_lt o; omega
theorem One.goes (h : One W w B g vs n lim f) (ha : NearG w' 48 B g vs' n lim f') (hG : Goes w w' n B g vs vs') (hf : Fine n lim f') : One W w' B g vs' n lim f' :=
  ⟨ha, hf, below_kept h.low hG.1 h.ge, fun k o => by
    rcases hG.2 k o with o | o
    · exact h.ge k o
    · exact Nat.le_trans h.low.size o⟩
theorem One.below (h : One W w B g vs n lim f) (hb : Below w.heap.size w w') : One W w' B g vs n lim f := h.goes (h.a.below hb) (Goes.of_below hb) h.fine
theorem oPut (h : One W w B g vs n lim f) {cpu page er : Int} {out : List Int} (hr : PutIs n lim f cpu page out er f') :
    Calls Try.prog 15 #[.pointer (some ⟨B, 0, none⟩), .int .i64 cpu, .int .i64 page] w fun e w' => ∃ v vs', e = .returned (.tuple #[v, .int .i64 er]) ∧ One W w' B g vs' n lim f' ∧ Goes w w' n B g vs vs' ∧ Off w' n B g vs' v out :=
  (cPut h.a h.fine hr).mono fun e w' ⟨v, vs', h1, h2, h3, h4⟩ => ⟨v, vs', h1, h.goes h2 h3 (hr.fine h.fine), h3, h4.off⟩
theorem oTake (h : One W w B g vs n lim f) {cpu x : Int} {q : Bool} (hr : TakeIs n f cpu x q f') :
    Calls Try.prog 16 #[.pointer (some ⟨B, 0, none⟩), .int .i64 cpu] w fun e w' => ∃ vs', e = .returned (.tuple #[.int .i64 x, .bool q]) ∧ One W w' B g vs' n lim f' ∧ Goes w w' n B g vs vs' :=
  (cTake h.a hr).mono fun e w' ⟨vs', h1, h2, h3⟩ => ⟨vs', h1, h.goes h2 h3 (hr.fine h.fine), h3⟩
theorem oDrain (h : One W w B g vs n lim f) {cpu : Int} {l : List Int} (hr : DrainIs n f cpu l f') :
    Calls Try.prog 17 #[.pointer (some ⟨B, 0, none⟩), .int .i64 cpu] w fun e w' => ∃ v vs', e = .returned v ∧ One W w' B g vs' n lim f' ∧ Goes w w' n B g vs vs' ∧ Off w' n B g vs' v l :=
  (cDrain h.a hr).mono fun e w' ⟨v, vs', h1, h2, h3, h4⟩ => ⟨v, vs', h1, h.goes h2 h3 (hr.fine h.fine), h3, h4.off⟩
theorem oHas (h : One W w B g vs n lim f) {x : Int} {q : Bool} (hq : hasB f n x = q) :
    Calls Try.prog 18 #[.pointer (some ⟨B, 0, none⟩), .int .i64 x] w fun e w' => e = .returned (.bool q) ∧ One W w' B g vs n lim f ∧ Below w.heap.size w w' :=
  (cHas h.a x q hq).mono fun e w' ⟨h1, h2⟩ => ⟨h1, h.below h2, h2⟩
theorem oList (h : One W w B g vs n lim f) (cpu : Int) :
    Calls Try.prog 10 #[.pointer (some ⟨B, 0, none⟩), .int .i64 cpu] w fun e w' => ∃ v, e = .returned v ∧ One W w' B g vs n lim f ∧ Below w.heap.size w w' ∧ Fresh w w' v (listOf f n cpu) :=
  (cList h.a cpu).mono fun e w' ⟨v, h1, h2, h3⟩ => ⟨v, h1, h.below h3, h3, h2⟩
/-- one that New has made -/
def OneOk (W : World) (n lim : Nat) (e : Ending) (w' : World) : Prop := ∃ B g, e = .returned (.tuple #[.pointer (some ⟨B, 0, none⟩), .int .i64 0]) ∧ One W w' B g noV n lim noF
theorem fine_no (n lim : Nat) : Fine n lim noF := fun i _ => by simp [noF]
theorem oNew (cpus limit : Int) (n lim : Nat) (w : World) (h1 : cpus = n) (h2 : limit = lim) (hn : 1 ≤ n ∧ n ≤ 8) (hl : lim ≤ 64) (hb : Below W.heap.size W w) :
    Calls Try.prog 7 #[.int .i64 cpus, .int .i64 limit] w (OneOk W n lim) := by
  subst h1 h2
  exact (cNew n lim w hn hl).mono fun e w' ⟨B, g, h1, h2, h3, h4⟩ => ⟨B, g, h1, h2, fine_no n lim, below_then hb h3, fun k o => Nat.le_trans hb.size (h4 k o)⟩
end
/-! ### the chapter's pages -/
def aF (l : List Int) : F := upd noF 0 l
theorem hasA (l : List Int) (n : Nat) (x : Int) (h : x ∉ l) : hasB (aF l) n x = false := hasB_no.2 fun i hi => by
  by_cases e : i = 0
  · subst e; rw [show aF l 0 = l from upd_same _ _ _]; exact h
  · rw [show aF l i = [] from upd_other _ _ e]; simp
theorem upd_a (l m : List Int) : upd (aF l) 0 m = aF m := upd_upd _ _ _ _
theorem put_a {n lim : Nat} {l : List Int} {page : Int} (hn : 1 ≤ n) (h1 : 0 ≤ page) (h2 : page < 1024) (h3 : page ∉ l) (h4 : l.length + 1 ≤ lim) : PutIs n lim (aF l) 0 page [] 0 (aF (l ++ [page])) := by
  have := PutIs.ok (n := n) (lim := lim) (f := aF l) 0 page hn h1 h2 (hasA l n page h3) (by rw [show aF l 0 = l from upd_same _ _ _]; exact h4)
  rw [upd_a, show aF l 0 = l from upd_same _ _ _] at this
  exact this
theorem p1 : PutIs 2 2 noF 0 5 [] 0 (aF [5]) := by
  have := PutIs.ok (n := 2) (lim := 2) (f := noF) 0 5 (by decide) (by decide) (by decide) (by decide) (by decide)
  exact this
theorem p2 : PutIs 2 2 (aF [5]) 0 6 [] 0 (aF [5, 6]) := put_a (l := [5]) (by decide) (by decide) (by decide) (by decide) (by decide)
theorem p3 : PutIs 2 2 (aF [5, 6]) 1 5 [] 60 (aF [5, 6]) := PutIs.block 1 5 (by decide) (by decide) (by decide) (by decide)
theorem t4 : TakeIs 2 (aF [5, 6]) 0 6 true (aF [5]) := by
  have := TakeIs.yes (n := 2) (f := aF [5, 6]) 0 [5] 6 (by decide) rfl
  rw [upd_a] at this
  exact this
theorem p7 : PutIs 2 2 (aF [5, 6]) 0 7 [5, 6] 0 (aF [7]) := by
  have := PutIs.cut (n := 2) (lim := 2) (f := aF [5, 6]) 0 7 2 (by decide) (by decide) (by decide) (by decide) (by decide) (by decide)
  rw [upd_a] at this
  exact this
theorem d9 : DrainIs 2 (aF [7]) 0 [7] (aF []) := by
  have := DrainIs.yes (n := 2) (f := aF [7]) 0 (by decide)
  rw [upd_a] at this
  exact this
theorem t10 : TakeIs 2 (aF []) 0 0 false (aF []) := TakeIs.none 0 (by decide) rfl
theorem p11 : PutIs 2 2 (aF []) 2 1 [] 9 (aF []) := PutIs.range 2 1 (by decide)
theorem Off.len0 {w : World} {n B g : Nat} {vs : Nat → Value} {v : Value} (h : Off w n B g vs v []) : ∃ a cap, v = .slice a 0 cap := by
  obtain ⟨a, cap, e, _⟩ := h.shows.form
  exact ⟨a, cap, e⟩
set_option maxHeartbeats 16000000 in
set_option maxRecDepth 100000 in
theorem cWorks (w : World) : Calls Try.prog 13 #[] w fun e w' => e = .returned (.bool true) ∧ Below w.heap.size w w' := by
  go_enter Try.func13, Try.ntmps13
  go_wp2_with fail
  refine (oNew (W := w) 2 2 2 2 w rfl rfl (by decide) (by decide) (Below.refl _ _)).mono ?_
  rintro e w1 ⟨B, g, rfl, h1⟩
  have H1 := Lib.hid h1
  clear h1
  go_wp2_with fail
  refine (oPut H1.out p1).mono ?_
  rintro e w2 ⟨v2, vs2, rfl, h, _, ho⟩
  obtain ⟨a2, cp2, rfl⟩ := ho.len0
  have H2 := Lib.hid h
  clear h ho
  go_wp2_with fail
  refine (oPut H2.out p2).mono ?_
  rintro e w3 ⟨v3, vs3, rfl, h, _, ho⟩
  obtain ⟨a3, cp3, rfl⟩ := ho.len0
  have H3 := Lib.hid h
  clear h ho
  go_wp2_with fail
  refine (oPut H3.out p3).mono ?_
  rintro e w4 ⟨v4, vs4, rfl, h, _, ho⟩
  have H4 := Lib.hid h
  clear h ho
  go_wp2_with fail
  refine (oTake H4.out t4).mono ?_
  rintro e w5 ⟨vs5, rfl, h, _⟩
  have H5 := Lib.hid h
  clear h
  go_wp2_with fail
  refine (oHas H5.out (x := 6) (q := false) (by decide)).mono ?_
  rintro e w6 ⟨rfl, h, _⟩
  have H6 := Lib.hid h
  clear h
  go_wp2_with fail
  refine (oPut H6.out p2).mono ?_
  rintro e w7 ⟨v7, vs7, rfl, h, _, ho⟩
  have H7 := Lib.hid h
  clear h ho
  go_wp2_with fail
  refine (oPut H7.out p7).mono ?_
  rintro e w8 ⟨v8, vs8, rfl, h, _, ho⟩
  have H8 := Lib.hid (And.intro h ho)
  clear h ho
  go_wp2_with fail
  refine (oList H8.out.1 0).mono ?_
  rintro e w9 ⟨v9, rfl, h, hb, hf⟩
  have H9 := Lib.hid (And.intro h (And.intro (H8.out.2.below hb) (hf.off H8.out.1.a)))
  clear h hb hf
  go_wp2_with fail
  refine (oDrain H9.out.1 d9).mono ?_
  rintro e w10 ⟨v10, vs10, rfl, h, hg, ho⟩
  have H10 := Lib.hid (And.intro h (And.intro (H9.out.2.1.goes hg) (And.intro (H9.out.2.2.goes hg) ho)))
  clear h hg ho
  go_wp2_with fail
  refine (oTake H10.out.1 t10).mono ?_
  rintro e w11 ⟨vs11, rfl, h, hg⟩
  have H11 := Lib.hid (And.intro h (And.intro (H10.out.2.1.goes hg) (And.intro (H10.out.2.2.1.goes hg) (H10.out.2.2.2.goes hg))))
  clear h hg
  go_wp2_with fail
  refine (oPut H11.out.1 p11).mono ?_
  rintro e w12 ⟨v12, vs12, rfl, h, hg, _⟩
  have H12 := Lib.hid (And.intro h (And.intro (H11.out.2.1.goes hg) (And.intro (H11.out.2.2.1.goes hg) (H11.out.2.2.2.goes hg))))
  clear h hg H1 H2 H3 H4 H5 H6 H7 H8 H9 H10 H11
  go_wp2_with fail
  refine (cEqInts _ _ [5, 6] [5, 6] _ (H12.out.2.1.shows.below (below_one (Below.refl _ _) _)) (lit_i w12 3 [5, 6] 2 rfl (by decide))).mono ?_
  rintro e w13 ⟨rfl, hb⟩
  rw [decide_eq_true rfl]
  have HB13 := Lib.hid (below_then (below_one (Below.refl _ _) _) hb)
  clear hb
  go_wp2_with fail
  refine (cEqInts _ _ [7] [7] _ (H12.out.2.2.1.shows.below (below_one HB13.out _)) (lit_i w13 3 [7] 1 rfl (by decide))).mono ?_
  rintro e w14 ⟨rfl, hb⟩
  rw [decide_eq_true rfl]
  have HB14 := Lib.hid (below_then (below_one HB13.out _) hb)
  clear hb
  go_wp2_with fail
  refine (cEqInts _ _ [7] [7] _ (H12.out.2.2.2.shows.below (below_one HB14.out _)) (lit_i w14 3 [7] 1 rfl (by decide))).mono ?_
  rintro e w15 ⟨rfl, hb⟩
  rw [decide_eq_true rfl]
  have HB15 := Lib.hid (below_then (below_one HB14.out _) hb)
  clear hb
  go_wp2
  go_ret
  exact ⟨rfl, below_then H12.out.1.low HB15.out⟩
end Go.Proofs.Ytpmlmpkjmgebnaa
