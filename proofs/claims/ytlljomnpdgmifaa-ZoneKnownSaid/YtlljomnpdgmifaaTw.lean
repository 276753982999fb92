/-
  The program's Zone and the document's in one world; outs, same.
-/
import Derived.Test.YtlljomnpdgmifaaRF
import Derived.Test.YtlljomnpdgmifaaPd
set_option linter.unusedVariables false
set_option linter.unusedSimpArgs false
namespace Go.Proofs.Ytlljomnpdgmifaa
open Go Go.RowKit

structure Z2 (W w : World) (z : Nat) (N : Zn) (n : Nat) (l : List Pg) (f : F) (t : Int → Option Pg) (y : Nat) (R : Rn) (l2 : List Pg) (f2 : F) : Prop where
  a : ZC w z N n l f t
  r : RC w y R n l2 f2
  low : Below W.heap.size W w
  ge : ∀ k, ZOwn n z N k → W.heap.size ≤ k
  ge2 : ∀ k, ROwn n y R k → W.heap.size ≤ k
  dis : ∀ k, ZOwn n z N k → ¬ ROwn n y R k
section
variable {W w w' : World} {z y n : Nat} {N N' : Zn} {R R' : Rn} {l l' l2 : List Pg} {f f' f2 : F} {t t' : Int → Option Pg}
theorem Z2.left (h : Z2 W w z N n l f t y R l2 f2) (ha : ZC w' z N' n l' f' t') (hG : ZGoes w w' n z N N') : Z2 W w' z N' n l' f' t' y R l2 f2 :=
  ⟨ha, h.r.kept hG.1 (fun k o2 o1 => h.dis k o1 o2), below_kept h.low hG.1 h.ge, fun k o => by
    rcases hG.2 k o with o | o
    · exact h.ge k o
    · exact Nat.le_trans h.low.size o, h.ge2, fun k o o2 => by
    rcases hG.2 k o with o | o
    · exact h.dis k o o2
    · have := h.r.own_lt o2; omega⟩
theorem Z2.right (h : Z2 W w z N n l f t y R l2 f2) (hr : RC w' y R' n l' f') (hG : RGoes w w' n y R R') : Z2 W w' z N n l f t y R' l' f' :=
  ⟨h.a.kept hG.1 (fun k o1 o2 => h.dis k o1 o2), hr, below_kept h.low hG.1 h.ge2, h.ge, fun k o => by
    rcases hG.2 k o with o | o
    · exact h.ge2 k o
    · exact Nat.le_trans h.low.size o, fun k o o2 => by
    rcases hG.2 k o2 with o2 | o2
    · exact h.dis k o o2
    · have := h.a.zb.own_lt o; omega⟩
theorem Z2.below (h : Z2 W w z N n l f t y R l2 f2) (hb : Below w.heap.size w w') : Z2 W w' z N n l f t y R l2 f2 := h.left (h.a.below hb) (ZGoes.of_below hb)
theorem look_is (t : Int → Option Pg) (x : Int) : ∃ a c d q, LookIs t x a c d q := by
  cases ht : t x with
  | none => exact ⟨_, _, _, _, .inr ⟨ht, rfl, rfl, rfl, rfl⟩⟩
  | some T =>
    obtain ⟨a, c, d⟩ := T
    exact ⟨_, _, _, _, .inl ⟨ht, rfl⟩⟩
theorem cell_one_behind (w : World) (o : Obj) (x : Value) (t : TypeId) : ∀ j u, [x][j]? = some u → ((w.alloc o).alloc (.cells #[x] t)).cell? ((⟨w.heap.size + 1, 0, none⟩ : Addr).add j) = some u := by
  rw [← size_alloc w o]
  exact cell_one_new _ _ _
/-! ### outs -/
def otq (n : Nat) (l : List Pg) (f : F) (i : Nat) : Bool := (ot n l f i).isSome
abbrev outL (n : Nat) (l : List Pg) (f : F) : List Int := ids (otq n l f) l.length
set_option maxHeartbeats 8000000 in
set_option maxRecDepth 100000 in
theorem rOuts (h : RC w y R n l f) (hi : ZInv n l f) (tg : TG n l f t) : Calls Try.prog 28 #[.pointer (some ⟨y, 0, none⟩)] w fun e w' => ∃ v, e = .returned v ∧ ShowI w' v (outL n l f) ∧ Below w.heap.size w w' := by
  have HA := Lib.hid h
  have HI := Lib.hid (And.intro hi tg)
  have hl := h.bud.n2
  have hcap := h.bud.cap
  unfold maxLen at hcap
  obtain ⟨c0, c1⟩ := h.cells
  have d0 := h.bud.self
  clear h hi tg
  obtain ⟨i0, hi, hz0, hz1, hz2⟩ := info_parts infoI
  have HC := Lib.hid (And.intro c0 d0)
  clear c0 c1 d0
  go_enter Try.func28, Try.ntmps28
  go_wp2
  go_loopw [3, 4] (fun v x wr => ∃ k : Nat, k ≤ l.length ∧ x = .int .i64 k ∧ wr.ownsRow w.heap.size 3 1 v (ids (otq n l f) k).length (nms (ids (otq n l f) k)) ∧ Below w.heap.size w wr) (fun _ x _ => l.length - (intOf x).toNat)
  case atStart => exact ⟨0, by omega, rfl, World.ownsRow_nil _ _ _ _, Below.refl _ _⟩
  case round =>
    obtain ⟨k, hk, rfl, hown, hb⟩ := hrel
    have e0 := cell_keep hb HC.out.1
    have e1 := cell_keep hb HC.out.2
    have hkl := ids_le (otq n l f) k
    have HAK := Lib.hid (HA.out.below hb)
    by_cases hlt : k < l.length
    · have HY := Lib.hid (ids_yes (q := otq n l f) (k := k))
      have HN := Lib.hid (ids_no (q := otq n l f) (k := k))
      have HOWN := Lib.hid hown
      have HB := Lib.hid hb
      clear hown hb
      cases hq : otq n l f k
      · have HN1 := Lib.hid (HN.out hq)
        have hot : ot n l f k = none := by
          unfold otq at hq
          cases h : ot n l f k with
          | none => rfl
          | some x => rw [h] at hq; cases hq
        obtain ⟨a, c, d, q, hlk⟩ := look_is t (k : Int)
        have hne : q = true → (a == (k : Int)) = false := fun hqt => by
          rcases hlk with ⟨e, _⟩ | ⟨_, _, _, _, e⟩
          · rw [beq_eq_false_iff_ne]
            rintro rfl
            obtain ⟨p, e2, e3⟩ := HI.out.2.at_head e rfl
            obtain rfl : p = k := by omega
            rw [hot] at e3
            cases e3
          · rw [hqt] at e; cases e
        have HLK := Lib.hid hlk
        clear HY HN hq hot hlk
        cases q
        · clear hne
          go_wp2_with fail
          refine (rzTag HAK.out HI.out.1 HI.out.2 HLK.out).mono ?_
          rintro e w3 ⟨rfl, hb3⟩
          have HB4 := Lib.hid (below_one (below_then HB.out hb3) (.cells #[.int .i64 a, .int .i64 c, .int .i64 d] 78))
          have HO3 := Lib.hid (own_below (own_below HOWN.out hb3) (below_one (Below.refl _ w3) (.cells #[.int .i64 a, .int .i64 c, .int .i64 d] 78)))
          clear hb3 e0 e1
          go_wp2
          go_roundw
          case rel => exact ⟨k + 1, by omega, by go_num, by rw [HN1.out]; exact HO3.out, HB4.out⟩
          case measure => simp [intOf]; omega
        · have hne1 := hne rfl
          clear hne
          go_wp2_with fail
          refine (rzTag HAK.out HI.out.1 HI.out.2 HLK.out).mono ?_
          rintro e w3 ⟨rfl, hb3⟩
          have HB4 := Lib.hid (below_one (below_then HB.out hb3) (.cells #[.int .i64 a, .int .i64 c, .int .i64 d] 78))
          have HO3 := Lib.hid (own_below (own_below HOWN.out hb3) (below_one (Below.refl _ w3) (.cells #[.int .i64 a, .int .i64 c, .int .i64 d] 78)))
          clear hb3 e0 e1
          go_wp2
          go_roundw
          case rel => exact ⟨k + 1, by omega, by go_num, by rw [HN1.out]; exact HO3.out, HB4.out⟩
          case measure => simp [intOf]; omega
      · have HY1 := Lib.hid (HY.out hq)
        obtain ⟨X, hot⟩ : ∃ X, ot n l f k = some X := by
          unfold otq at hq
          cases h : ot n l f k with
          | none => rw [h] at hq; cases hq
          | some x => exact ⟨x, rfl⟩
        obtain ⟨kk, o, ca⟩ := X
        obtain rfl : kk = 2 := by
          obtain ⟨⟨_, h2, _⟩, h3⟩ := ot_some.1 hot
          rw [h3] at h2
          exact h2
        have HLK : Hid (LookIs t (k : Int) k o ca true) := Lib.hid (.inl ⟨HI.out.2.head hot, rfl⟩)
        clear HY HN hq hot
        go_wp2_with fail
        refine (rzTag HAK.out HI.out.1 HI.out.2 HLK.out).mono ?_
        rintro e w3 ⟨rfl, hb3⟩
        have hown := own_below (own_below HOWN.out hb3) (below_one (Below.refl _ w3) (.cells #[.int .i64 (k : Int), .int .i64 o, .int .i64 ca] 78))
        have hb4 := below_one (below_then HB.out hb3) (.cells #[.int .i64 (k : Int), .int .i64 o, .int .i64 ca] 78)
        have hzz := (below_then HB.out hb3).size
        obtain ⟨M, hM⟩ : ∃ M, (ids (otq n l f) k).length = M := ⟨_, rfl⟩
        obtain ⟨xs, hxs⟩ : ∃ xs, nms (ids (otq n l f) k) = xs := ⟨_, rfl⟩
        rw [hM, hxs] at hown
        rw [hM] at hkl
        have HX := Lib.hid (And.intro hM hxs)
        have HB4 := Lib.hid hb4
        clear hM hxs hb3 hb4 e0 e1
        go_wp2_with (at_builtin; refine wpList_append_own _ (by rfl) _ _ 73 (by rfl) w.heap.size 3 i0 (.int .i64 0) 1 8 Try.underlying73 hi hz0 hz1 hz2 (by rfl) (by decide) _ M xs (by rfl) (hown.alloc _) ⟨w3.heap.size + 1, 0, none⟩ 1 1 [.int .i64 (k : Int)] (by rfl) (by rfl) (cell_one_behind _ _ _ _) (ints_oneCell .i64 [(k : Int)]) (by unfold maxLen; omega) (by omega) (by first | omega | (rw [size_alloc]; omega) | (rw [size_alloc, size_alloc]; omega) | (simp only [size_alloc]; omega)) ?_)
        intro v' w5 hown' hg _
        have hb5 : Below w.heap.size w w5 := (below_one HB4.out _).grown hg (by have := HB4.out.size; rw [size_alloc]; omega) (own_ge hown)
        go_wp2
        go_roundw
        case rel => exact ⟨k + 1, by omega, by go_num, by rw [HY1.out]; simpa [nms, HX.out.1, ← HX.out.2] using hown', hb5⟩
        case measure => simp [intOf]; omega
    · obtain rfl : k = l.length := by omega
      have hs := own_i hown
      go_wp2
      go_ret
      exact ⟨_, rfl, hs, hb⟩
end
end Go.Proofs.Ytlljomnpdgmifaa
