/-
  The document's Zone: Alloc and Free whole, New.
-/
import Derived.Test.YtlljomnpdgmifaaRB
set_option linter.unusedVariables false
set_option linter.unusedSimpArgs false
namespace Go.Proofs.Ytlljomnpdgmifaa
open Go Go.RowKit

section
variable {w w' w'' : World} {z n : Nat} {N N' N'' : Rn} {l l' : List Pg} {f f' : F} {t : Int → Option Pg}
set_option maxHeartbeats 4000000 in
set_option maxRecDepth 100000 in
theorem rzAlloc (h : RC w z N n l f) (hi : ZInv n l f) {cpu order cache p e : Int} (hr : AlIs n l f cpu order cache p e l' f') :
    Calls Try.prog 26 #[.pointer (some ⟨z, 0, none⟩), .int .i64 cpu, .int .i64 order, .int .i64 cache] w fun en w' => en = .returned (.tuple #[.int .i64 p, .int .i64 e]) ∧ ∃ N', RC w' z N' n l' f' ∧ RGoes w w' n z N N' := by
  have HZ := Lib.hid h
  cases hr with
  | range _ _ _ hc =>
    clear h hi
    go_enter Try.func26, Try.ntmps26
    go_wp2_with fail
    refine (rzHas HZ.out cpu false (decide_eq_false hc)).mono ?_
    rintro e w1 ⟨rfl, rfl⟩
    clear hc
    go_wp2
    go_ret2
    exact ⟨rfl, N, HZ.out, RGoes.refl _ _ _ _⟩
  | arg c _ _ hc hbad =>
    clear h hi
    have hor : order < 0 ∨ (¬ order < 0 ∧ 10 < order) ∨ (¬ order < 0 ∧ ¬ 10 < order ∧ cache < 0) ∨ (¬ order < 0 ∧ ¬ 10 < order ∧ ¬ cache < 0 ∧ 8 < cache) := by
      unfold ArgOk at hbad
      omega
    clear hbad
    rcases hor with h1 | ⟨h1, h2⟩ | ⟨h1, h2, h3⟩ | ⟨h1, h2, h3, h4⟩
    all_goals
      go_enter Try.func26, Try.ntmps26
      go_wp2_with fail
      refine (rzHas HZ.out c true (decide_eq_true (by omega))).mono ?_
      rintro e w1 ⟨rfl, rfl⟩
      go_wp2
      go_ret2
      exact ⟨rfl, N, HZ.out, RGoes.refl _ _ _ _⟩
  | blk c o _ _ _ _ _ hc h1 h2 h3 hb => exact rzAllocIn h hi hc h1 h2 h3 hb
set_option maxHeartbeats 8000000 in
set_option maxRecDepth 100000 in
theorem rzFree (h : RC w z N n l f) (hi : ZInv n l f) {cpu page e : Int} (hr : FrIs n l f cpu page e l' f') :
    Calls Try.prog 29 #[.pointer (some ⟨z, 0, none⟩), .int .i64 cpu, .int .i64 page] w fun en w' => en = .returned (.int .i64 e) ∧ ∃ N', RC w' z N' n l' f' ∧ RGoes w w' n z N N' := by
  have HZ := Lib.hid h
  obtain ⟨c0, c1⟩ := h.cells
  have d0 := h.bud.self
  have hcap := h.bud.cap
  have hn2 := h.bud.n2
  unfold maxLen at hcap
  cases hr with
  | range _ _ hc =>
    clear h hi
    go_enter Try.func29, Try.ntmps29
    go_wp2_with fail
    refine (rzHas HZ.out cpu false (decide_eq_false hc)).mono ?_
    rintro e w1 ⟨rfl, rfl⟩
    clear hc
    go_wp2
    go_ret
    exact ⟨rfl, N, HZ.out, RGoes.refl _ _ _ _⟩
  | block c _ hc hno =>
    have HO : Hid (OutQ n l f page false) := Lib.hid (.inr ⟨rfl, hno⟩)
    clear h hi hno
    go_enter Try.func29, Try.ntmps29
    go_wp2_with fail
    refine (rzHas HZ.out c true (decide_eq_true (by omega))).mono ?_
    rintro e w1 ⟨rfl, rfl⟩
    go_wp2_with fail
    refine (rzOut HZ.out HO.out).mono ?_
    rintro e w1 ⟨rfl, rfl⟩
    go_wp2
    go_ret
    exact ⟨rfl, N, HZ.out, RGoes.refl _ _ _ _⟩
  | big c p o ca hc ho h0 =>
    have HO : Hid (OutQ n l f (p : Int) true) := Lib.hid (.inl ⟨rfl, p, rfl, _, ho⟩)
    obtain ⟨⟨hp, hk, _⟩, he⟩ := ot_some.1 ho
    obtain ⟨_, t1, _⟩ := h.bud.tab.cells hp
    rw [he] at t1
    dsimp only at t1
    have HFR : Hid (FreeIs l (p : Int) 0 (freeL l p)) := Lib.hid (.ok p hp hk)
    have HST := Lib.hid hi.std
    have hnl : ¬ l.length ≤ p := by omega
    have hpos : (0 : Int) < (o : Int) := by omega
    clear h hi ho he hk
    go_enter Try.func29, Try.ntmps29
    go_wp2_with fail
    refine (rzHas HZ.out c true (decide_eq_true (by omega))).mono ?_
    rintro e w1 ⟨rfl, rfl⟩
    go_wp2_with fail
    refine (rzOut HZ.out HO.out).mono ?_
    rintro e w1 ⟨rfl, rfl⟩
    go_wp2_with fail
    refine (rFreeB HZ.out.bud HST.out HFR.out).mono ?_
    rintro e w3 ⟨rfl, hb3, hk3⟩
    have H3 := Lib.hid (HZ.out.budded hb3 hk3)
    clear hb3 hk3 c0 c1 d0 t1
    go_wp2
    go_ret
    exact ⟨rfl, N, H3.out⟩
  | one c p ca out _ hc ho hput =>
    obtain ⟨_, hnr, hnd, hd⟩ := put_facts hi h.fine hc ho hput
    have HO : Hid (OutQ n l f (p : Int) true) := Lib.hid (.inl ⟨rfl, p, rfl, _, ho⟩)
    obtain ⟨⟨hp, hk, _⟩, he⟩ := ot_some.1 ho
    obtain ⟨_, t1, t2⟩ := h.bud.tab.cells hp
    have tf := h.bud.tab.frozen (p * 3 + 2)
    rw [he] at t1 t2
    dsimp only at t1 t2
    have HNR := Lib.hid (And.intro hnr (And.intro hnd (setC_std (c := 0) hi.std hp hk (by decide) (by decide))))
    have HPT := Lib.hid hput
    have hnl : ¬ l.length ≤ p := by omega
    have H1 := Lib.hid (HZ.out.cached hp 0)
    clear h hi ho he hk hnr hnd hput hd
    go_enter Try.func29, Try.ntmps29
    go_wp2_with fail
    refine (rzHas HZ.out c true (decide_eq_true (by omega))).mono ?_
    rintro e w1 ⟨rfl, rfl⟩
    go_wp2_with fail
    refine (rzOut HZ.out HO.out).mono ?_
    rintro e w1 ⟨rfl, rfl⟩
    obtain ⟨e0, e1⟩ := H1.out.1.cells
    go_wp2_with fail
    refine (rPut H1.out.1.nr H1.out.1.fine HPT.out).mono ?_
    rintro e w3 ⟨v, vs', rfl, hN, hG, hO⟩
    have H3a := H1.out.1.neared hN (HPT.out.fine H1.out.1.fine) hG
    have H3 := Lib.hid (And.intro H3a.1 (And.intro (H1.out.2.trans H3a.2) (Res.mono hO (C := fun _ => True) (fun _ _ => trivial))))
    clear H3a hN hG hO c0 c1 d0 t1 t2 tf e0 e1
    go_wp2_with fail
    refine (rzBackCall H3.out.1 HNR.out.2.2 H3.out.2.2 HNR.out.1 HNR.out.2.1).mono ?_
    rintro e w4 ⟨rfl, hz4, hg4⟩
    have H4 := Lib.hid (And.intro hz4 (H3.out.2.1.trans hg4))
    clear hz4 hg4
    go_wp2
    go_ret
    exact ⟨rfl, _, H4.out⟩
end
def RNewOk (w : World) (n m : Nat) (e : Ending) (w' : World) : Prop :=
  ∃ z N, e = .returned (.tuple #[.pointer (some ⟨z, 0, none⟩), .int .i64 0]) ∧ RC w' z N n (ini m) noF ∧ (∀ k, ROwn n z N k → w.heap.size ≤ k) ∧ Below w.heap.size w w'
set_option maxHeartbeats 4000000 in
set_option maxRecDepth 100000 in
theorem rzNew (n m : Nat) (w : World) (h1 : 1 ≤ n ∧ n ≤ 8) (h2 : 1 ≤ m ∧ m ≤ 1024) : Calls Try.prog 9 #[.int .i64 n, .int .i64 m] w (RNewOk w n m) := by
  go_enter Try.func9, Try.ntmps9
  go_wp2_with fail
  refine (nRNew n 6 w h1 (by decide)).mono ?_
  rintro e w1 ⟨bN, gN, rfl, hN, hbN, hge⟩
  have H1 := Lib.hid (And.intro hN (And.intro hbN hge))
  clear hN hbN hge
  go_wp2_with fail
  refine (rNew m h2.1 h2.2 _).mono ?_
  rintro e w2 ⟨bB, gB, cp, rfl, hB, hgeB, hbB⟩
  have H2 := Lib.hid (And.intro hB (And.intro hgeB hbB))
  clear hB hgeB hbB
  go_wp2
  go_ret2
  refine ⟨_, ⟨bB, gB, cp, bN, gN, noV⟩, rfl, ⟨?_, ?_, ?_, fine_noF _ _⟩, ?_, ?_⟩
  · exact heap_new _ _
  · exact H2.out.1.below (below_one (Below.refl _ _) _)
  · exact (H1.out.1.below H2.out.2.2).below (below_one (Below.refl _ _) _)
  · have s1 := H1.out.2.1.size
    have s2 := H2.out.2.2.size
    have s3 := H2.out.2.1
    rintro k (o | o | o | o)
    · omega
    · dsimp only at o; omega
    · dsimp only at o; omega
    · exact H1.out.2.2 k o
  · exact below_one (below_then H1.out.2.1 H2.out.2.2) _
set_option maxHeartbeats 4000000 in
theorem rzNewBad (cpus pages : Int) (w : World) (h : ¬ ((1 ≤ cpus ∧ cpus ≤ 8) ∧ 1 ≤ pages ∧ pages ≤ 1024)) : Calls Try.prog 9 #[.int .i64 cpus, .int .i64 pages] w fun e w' => e = .returned (.tuple #[.pointer none, .int .i64 2]) ∧ Below w.heap.size w w' := by
  by_cases hc : 1 ≤ cpus ∧ cpus ≤ 8
  · obtain ⟨n, rfl⟩ : ∃ n : Nat, cpus = n := ⟨cpus.toNat, by omega⟩
    have hp : pages < 1 ∨ 1024 < pages := by omega
    clear h
    go_enter Try.func9, Try.ntmps9
    go_wp2_with fail
    refine (nRNew n 6 w (by omega) (by decide)).mono ?_
    rintro e w1 ⟨bN, gN, rfl, _, hbN, _⟩
    have H1 := Lib.hid hbN
    clear hbN
    go_wp2_with fail
    refine (rNewBad pages hp _).mono ?_
    rintro e w2 ⟨rfl, rfl⟩
    go_wp2
    go_ret2
    exact ⟨rfl, H1.out⟩
  · clear h
    by_cases hp : 1 ≤ pages ∧ pages ≤ 1024
    · obtain ⟨m, rfl⟩ : ∃ m : Nat, pages = m := ⟨pages.toNat, by omega⟩
      go_enter Try.func9, Try.ntmps9
      go_wp2_with fail
      refine (nRNewBad cpus 6 w (fun e => hc e.1)).mono ?_
      rintro e w1 ⟨rfl, rfl⟩
      go_wp2_with fail
      refine (rNew m (by omega) (by omega) _).mono ?_
      rintro e w2 ⟨bB, gB, cp, rfl, _, _, hbB⟩
      have H1 := Lib.hid hbB
      clear hbB
      go_wp2
      go_ret2
      exact ⟨rfl, H1.out⟩
    · have hp2 : pages < 1 ∨ 1024 < pages := by omega
      clear hp
      go_enter Try.func9, Try.ntmps9
      go_wp2_with fail
      refine (nRNewBad cpus 6 w (fun e => hc e.1)).mono ?_
      rintro e w1 ⟨rfl, rfl⟩
      go_wp2_with fail
      refine (rNewBad pages hp2 _).mono ?_
      rintro e w2 ⟨rfl, rfl⟩
      go_wp2
      go_ret2
      exact ⟨rfl, Below.refl _ _⟩
end Go.Proofs.Ytlljomnpdgmifaa
