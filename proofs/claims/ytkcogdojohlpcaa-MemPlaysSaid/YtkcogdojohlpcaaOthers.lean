/-
  MemOthers: an access changes no word but those that it names.
-/
import Derived.Test.YtkcogdojohlpcaaWorks
import Derived.Test.YtkcogdojohlpcaaOpen
set_option linter.unusedVariables false
set_option linter.unusedSimpArgs false
namespace Go.Proofs.Ytkcogdojohlpcaa
open Go Go.RowKit

theorem wBring {x : Int} {n r : Nat} (h : bring x n = r) (w : World) (h1 : 1 ≤ n) (h2 : n ≤ 1000000) :
    Calls Try.prog 18 #[.int .i64 x, .int .i64 n] w fun e w' => e = .returned (.int .i64 r) ∧ w' = w := by
  subst h
  exact cBring x n w h1 h2
/-! what an access leaves, whatever it answers -/
section
variable {w : World} {a b k n c : Nat} {F : Nat → Int}
theorem oStore (h : MemAt w a b k n F c) (i : Nat) (v : Int) (hi : i < n) (hc : c ≤ 1000000) :
    Calls Try.prog 21 #[.pointer (some ⟨a, 0, none⟩), .int .i64 i, .int .u64 v] w fun e w' => (∃ r, e = .returned r) ∧ (∃ G c', MemAt w' a b k n G c' ∧ c' ≤ c + 1 ∧ ∀ j, j ≠ i → G j = F j) ∧ Kept (fun x => x = a ∨ x = b) w w' := by
  refine (mStore h i v hi hc (fun _ _ => rfl)).mono ?_
  rintro e w' ⟨he, hm, hk⟩
  exact ⟨⟨_, he⟩, ⟨_, _, hm, Nat.le_refl _, fun j hj => by simp [hj]⟩, hk⟩
theorem oAdd (h : MemAt w a b k n F c) (i : Nat) (v : Int) (hi : i < n) (hc : c ≤ 1000000) :
    Calls Try.prog 19 #[.pointer (some ⟨a, 0, none⟩), .int .i64 i, .int .u64 v] w fun e w' => (∃ r, e = .returned r) ∧ (∃ G c', MemAt w' a b k n G c' ∧ c' ≤ c + 1 ∧ ∀ j, j ≠ i → G j = F j) ∧ Kept (fun x => x = a ∨ x = b) w w' := by
  refine (mAdd h i v hi hc rfl (fun _ _ => rfl)).mono ?_
  rintro e w' ⟨he, hm, hk⟩
  exact ⟨⟨_, he⟩, ⟨_, _, hm, Nat.le_refl _, fun j hj => by simp [hj]⟩, hk⟩
theorem oCas (h : MemAt w a b k n F c) (i : Nat) (old to : Int) (hi : i < n) (hc : c ≤ 1000000) :
    Calls Try.prog 23 #[.pointer (some ⟨a, 0, none⟩), .int .i64 i, .int .u64 old, .int .u64 to] w fun e w' => (∃ r, e = .returned r) ∧ (∃ G c', MemAt w' a b k n G c' ∧ c' ≤ c + 1 ∧ ∀ j, j ≠ i → G j = F j) ∧ Kept (fun x => x = a ∨ x = b) w w' := by
  by_cases ho : F i = old
  · refine (mCasYes h i old to hi hc ho (fun _ _ => rfl)).mono ?_
    rintro e w' ⟨he, hm, hk⟩
    exact ⟨⟨_, he⟩, ⟨_, _, hm, Nat.le_refl _, fun j hj => by simp [hj]⟩, hk⟩
  · refine (mCasNo h i old to hi hc ho).mono ?_
    rintro e w' ⟨he, hm, hk⟩
    exact ⟨⟨_, he⟩, ⟨_, _, hm, Nat.le_refl _, fun j hj => rfl⟩, hk⟩
theorem oCas2 (h : MemAt w a b k n F c) (i : Nat) (old second to other : Int) (hi : i < n) (hc : c ≤ 1000000) :
    Calls Try.prog 22 #[.pointer (some ⟨a, 0, none⟩), .int .i64 i, .int .u64 old, .int .u64 second, .int .u64 to, .int .u64 other] w fun e w' => (∃ r, e = .returned r) ∧ (∃ G c', MemAt w' a b k n G c' ∧ c' ≤ c + 1 ∧ ∀ j, j ≠ i → j ≠ i + 1 → G j = F j) ∧ Kept (fun x => x = a ∨ x = b) w w' := by
  by_cases h2 : i + 1 < n
  · by_cases ho : F i = old ∧ F (i + 1) = second
    · refine (cCas2Yes h i old second to other h2 hc ho.1 ho.2).mono ?_
      rintro e w' ⟨he, hm, hk⟩
      exact ⟨⟨_, he⟩, ⟨_, _, hm, Nat.le_refl _, fun j hj hj2 => by simp [hj, hj2]⟩, hk⟩
    · refine (cCas2No h i old second to other h2 hc ho).mono ?_
      rintro e w' ⟨he, hm, hk⟩
      exact ⟨⟨_, he⟩, ⟨_, _, hm, Nat.le_refl _, fun j hj hj2 => rfl⟩, hk⟩
  · refine (mCas2Bad h i old second to other (by simp only [okAt, Bool.and_eq_false_iff, decide_eq_false_iff_not]; omega)).mono ?_
    rintro e w' ⟨he, hm, hk⟩
    exact ⟨⟨_, he⟩, ⟨_, _, hm, by omega, fun j hj hj2 => rfl⟩, hk⟩
end
/-- the cells of an access in memory -/
def Box (w : World) (g : Nat) (x : Do) : Prop := w.cell? ⟨g, 0, none⟩ = some (.int .i64 x.kind) ∧ w.cell? ⟨g, 1, none⟩ = some (.int .i64 x.at_) ∧ w.cell? ⟨g, 2, none⟩ = some (.int .u64 x.a) ∧ w.cell? ⟨g, 3, none⟩ = some (.int .u64 x.b) ∧ w.cell? ⟨g, 4, none⟩ = some (.int .u64 x.c) ∧ w.cell? ⟨g, 5, none⟩ = some (.int .u64 x.d)
theorem Box.kept {S : Nat → Prop} {w w' : World} {g : Nat} {x : Do} (h : Box w g x) (hk : Kept S w w') (hn : ¬ S g) : Box w' g x :=
  ⟨cell_kept h.1 hk hn, cell_kept h.2.1 hk hn, cell_kept h.2.2.1 hk hn, cell_kept h.2.2.2.1 hk hn, cell_kept h.2.2.2.2.1 hk hn, cell_kept h.2.2.2.2.2 hk hn⟩
theorem box_new (w : World) (x : Do) (t : TypeId) : Box (w.alloc (.cells #[.int .i64 x.kind, .int .i64 x.at_, .int .u64 x.a, .int .u64 x.b, .int .u64 x.c, .int .u64 x.d] t)) w.heap.size x := by
  have h := heap_new w (.cells #[.int .i64 x.kind, .int .i64 x.at_, .int .u64 x.a, .int .u64 x.b, .int .u64 x.c, .int .u64 x.d] t)
  refine ⟨?_, ?_, ?_, ?_, ?_, ?_⟩ <;> (unfold World.cell?; dsimp only; rw [h]; rfl)
set_option maxHeartbeats 4000000 in
set_option maxRecDepth 100000 in
theorem walkOthers (u : Value) (l : List Do) (at_ : Int) (W : World) (hs : ShowDos W u l) :
    Calls Try.prog 6 #[u, .int .i64 at_] W fun e w' => e = .returned (.bool true) ∧ Below W.heap.size W w' := by
  obtain ⟨ao, cap, rfl, hcap, hat⟩ := hs.form
  clear hs
  obtain ⟨kb, hkb⟩ : ∃ kb, bring at_ 12 = kb := ⟨_, rfl⟩
  have hkn : kb < 12 := by rw [← hkb]; exact bring_lt _ _ (by decide)
  have HKB := Lib.hid hkb
  clear hkb
  go_enter Try.func6, Try.ntmps6
  go_wp2_with fail
  refine (cNew 12 _ (by decide) (by decide)).mono ?_
  rintro e w1 ⟨a, b, kk, rfl, hm, hb, ha, hbb, hkk⟩
  have hS := ab_ge ha hbb
  go_wp2_with fail
  refine (wBring HKB.out _ (by decide) (by decide)).mono ?_
  rintro e w2 ⟨rfl, rfl⟩
  go_wp2
  go_loopw [8] (fun x wr => ∃ j c : Nat, j ≤ l.length ∧ j ≤ 40 ∧ x = .int .i64 j ∧ c ≤ 3 * j ∧ (∃ F, MemAt wr a b kk 12 F c) ∧ Below W.heap.size W wr) (fun x _ => l.length - (intOf x).toNat)
  case atStart => exact ⟨0, 0, by omega, by omega, rfl, by omega, ⟨_, hm⟩, hb⟩
  case round =>
    obtain ⟨j, c, hj, hj40, rfl, hc, ⟨F, hm⟩, hb⟩ := hrel
    by_cases hlt : j < l.length ∧ j < 40
    · obtain ⟨hlt, h40⟩ := hlt
      obtain ⟨b1, o1, rfl, c0, c1, c2, c3, c4, c5⟩ := hat j hlt
      have lc := World.block_lt_of_cell? W _ c0
      obtain ⟨⟨kind, at2, xa, xb, xc, xd⟩, hx⟩ : ∃ x, l[j] = x := ⟨_, rfl⟩
      rw [hx] at c0 c1 c2 c3 c4 c5
      dsimp only at c0 c1 c2 c3 c4 c5
      clear hx
      go_wp2_with fail
      refine (mLoad hm kb hkn (by omega) (x := F kb) rfl).mono ?_
      rintro e w3 ⟨rfl, hm3, hk3⟩
      have hb3 := below_kept hb hk3 hS
      clear hm hb hk3
      have d0 := (hb3.cell (p := ⟨b1, o1 + j * 6, none⟩) lc).trans c0
      have d1 := (hb3.cell (p := ⟨b1, o1 + j * 6 + 1, none⟩) lc).trans c1
      have d2 := (hb3.cell (p := ⟨b1, o1 + j * 6 + 2, none⟩) lc).trans c2
      have d3 := (hb3.cell (p := ⟨b1, o1 + j * 6 + 3, none⟩) lc).trans c3
      have d4 := (hb3.cell (p := ⟨b1, o1 + j * 6 + 4, none⟩) lc).trans c4
      have d5 := (hb3.cell (p := ⟨b1, o1 + j * 6 + 5, none⟩) lc).trans c5
      obtain ⟨i, hi⟩ : ∃ i, bring at2 12 = i := ⟨_, rfl⟩
      have hin : i < 12 := by rw [← hi]; exact bring_lt _ _ (by decide)
      have HI := Lib.hid hi
      obtain ⟨kd, hkd⟩ : ∃ kd, bring kind 5 = kd := ⟨_, rfl⟩
      have hkd5 : kd < 5 := by rw [← hkd]; exact bring_lt _ _ (by decide)
      have HKD := Lib.hid hkd
      clear hi hkd
      go_wp2_with fail
      refine (wBring HI.out _ (by decide) (by decide)).mono ?_
      rintro e w4 ⟨rfl, rfl⟩
      go_wp2_with fail
      refine (wBring HKD.out _ (by decide) (by decide)).mono ?_
      rintro e w4 ⟨rfl, hw4⟩
      have hgl := hm3.lt
      have hbx : Box w4 w3.heap.size ⟨kind, i, xa, xb, xc, xd⟩ := by rw [hw4]; exact box_new w3 ⟨kind, i, xa, xb, xc, xd⟩ _
      have hm4 : MemAt w4 a b kk 12 F (c + 1) := by rw [hw4]; exact hm3.alloc _
      have hb4 : Below W.heap.size W w4 := by rw [hw4]; exact below_one hb3 _
      have hgn : ¬ (w3.heap.size = a ∨ w3.heap.size = b) := by omega
      clear hw4 hm3 hb3 d0 d1 d2 d3 d4 d5 c0 c1 c2 c3 c4 c5 hat hgl
      obtain ⟨b0, b1', b2, b3, b4, b5⟩ := id hbx
      dsimp only at b0 b1' b2 b3 b4 b5
      have hkc : kd = 0 ∨ kd = 1 ∨ kd = 2 ∨ kd = 3 ∨ kd = 4 := by omega
      clear hkd5
      rcases hkc with rfl | rfl | rfl | rfl | rfl
      · have hm5 := hm4
        have hb5 := hb4
        have hbx5 := hbx
        clear hm4 hb4 hbx
        by_cases hik : i = kb
        · subst hik
          go_wp2_with fail
          refine (mLoad hm5 i hin (by omega) (x := F i) rfl).mono ?_
          rintro e w6 ⟨rfl, hm6, hk6⟩
          have hb6 := below_kept hb5 hk6 hS
          obtain ⟨b0, b1', b2, b3, b4, b5⟩ := hbx5.kept hk6 hgn
          dsimp only at b0 b1' b2 b3 b4 b5
          clear hm5 hk6 hb5 hbx5
          go_wp2
          go_roundw
          case rel => exact ⟨j + 1, _, by omega, by omega, by go_num, (by omega : c + 1 + 1 ≤ 3 * (j + 1)), ⟨_, hm6⟩, hb6⟩
          case measure => simp [intOf]; omega
        · go_wp2_with fail
          refine (mLoad hm5 kb hkn (by omega) (x := F kb) rfl).mono ?_
          rintro e w6 ⟨rfl, hm6, hk6⟩
          have hb6 := below_kept hb5 hk6 hS
          obtain ⟨b0, b1', b2, b3, b4, b5⟩ := hbx5.kept hk6 hgn
          dsimp only at b0 b1' b2 b3 b4 b5
          clear hm5 hk6 hb5 hbx5
          go_wp2_with fail
          refine (wBring HKD.out _ (by decide) (by decide)).mono ?_
          rintro e w7 ⟨rfl, rfl⟩
          go_wp2
          go_roundw
          case rel => exact ⟨j + 1, _, by omega, by omega, by go_num, (by omega : c + 1 + 1 ≤ 3 * (j + 1)), ⟨_, hm6⟩, hb6⟩
          case measure => simp [intOf]; omega
      · go_wp2_with fail
        refine (oStore hm4 i xa hin (by omega)).mono ?_
        rintro e w5 ⟨⟨r, rfl⟩, ⟨G, c', hm5, hc', hG⟩, hk5⟩
        have hb5 := below_kept hb4 hk5 hS
        have hbx5 := hbx.kept hk5 hgn
        clear hm4 hb4 hbx hk5 b0 b1' b2 b3 b4 b5
        obtain ⟨b0, b1', b2, b3, b4, b5⟩ := id hbx5
        dsimp only at b0 b1' b2 b3 b4 b5
        have HG := Lib.hid hG
        clear hG
        by_cases hik : i = kb
        · subst hik
          go_wp2_with fail
          refine (mLoad hm5 i hin (by omega) (x := G i) rfl).mono ?_
          rintro e w6 ⟨rfl, hm6, hk6⟩
          have hb6 := below_kept hb5 hk6 hS
          obtain ⟨b0, b1', b2, b3, b4, b5⟩ := hbx5.kept hk6 hgn
          dsimp only at b0 b1' b2 b3 b4 b5
          clear hm5 hk6 hb5 hbx5
          go_wp2
          go_roundw
          case rel => exact ⟨j + 1, _, by omega, by omega, by go_num, (by omega : c' + 1 ≤ 3 * (j + 1)), ⟨_, hm6⟩, hb6⟩
          case measure => simp [intOf]; omega
        · have HGF : Hid (G kb = F kb) := Lib.hid (HG.out kb (fun h => hik h.symm))
          go_wp2_with fail
          refine (mLoad hm5 kb hkn (by omega) (x := F kb) HGF.out).mono ?_
          rintro e w6 ⟨rfl, hm6, hk6⟩
          have hb6 := below_kept hb5 hk6 hS
          obtain ⟨b0, b1', b2, b3, b4, b5⟩ := hbx5.kept hk6 hgn
          dsimp only at b0 b1' b2 b3 b4 b5
          clear hm5 hk6 hb5 hbx5
          go_wp2_with fail
          refine (wBring HKD.out _ (by decide) (by decide)).mono ?_
          rintro e w7 ⟨rfl, rfl⟩
          go_wp2
          go_roundw
          case rel => exact ⟨j + 1, _, by omega, by omega, by go_num, (by omega : c' + 1 ≤ 3 * (j + 1)), ⟨_, hm6⟩, hb6⟩
          case measure => simp [intOf]; omega
      · go_wp2_with fail
        refine (oCas hm4 i xa xb hin (by omega)).mono ?_
        rintro e w5 ⟨⟨r, rfl⟩, ⟨G, c', hm5, hc', hG⟩, hk5⟩
        have hb5 := below_kept hb4 hk5 hS
        have hbx5 := hbx.kept hk5 hgn
        clear hm4 hb4 hbx hk5 b0 b1' b2 b3 b4 b5
        obtain ⟨b0, b1', b2, b3, b4, b5⟩ := id hbx5
        dsimp only at b0 b1' b2 b3 b4 b5
        have HG := Lib.hid hG
        clear hG
        by_cases hik : i = kb
        · subst hik
          go_wp2_with fail
          refine (mLoad hm5 i hin (by omega) (x := G i) rfl).mono ?_
          rintro e w6 ⟨rfl, hm6, hk6⟩
          have hb6 := below_kept hb5 hk6 hS
          obtain ⟨b0, b1', b2, b3, b4, b5⟩ := hbx5.kept hk6 hgn
          dsimp only at b0 b1' b2 b3 b4 b5
          clear hm5 hk6 hb5 hbx5
          go_wp2
          go_roundw
          case rel => exact ⟨j + 1, _, by omega, by omega, by go_num, (by omega : c' + 1 ≤ 3 * (j + 1)), ⟨_, hm6⟩, hb6⟩
          case measure => simp [intOf]; omega
        · have HGF : Hid (G kb = F kb) := Lib.hid (HG.out kb (fun h => hik h.symm))
          go_wp2_with fail
          refine (mLoad hm5 kb hkn (by omega) (x := F kb) HGF.out).mono ?_
          rintro e w6 ⟨rfl, hm6, hk6⟩
          have hb6 := below_kept hb5 hk6 hS
          obtain ⟨b0, b1', b2, b3, b4, b5⟩ := hbx5.kept hk6 hgn
          dsimp only at b0 b1' b2 b3 b4 b5
          clear hm5 hk6 hb5 hbx5
          go_wp2_with fail
          refine (wBring HKD.out _ (by decide) (by decide)).mono ?_
          rintro e w7 ⟨rfl, rfl⟩
          go_wp2
          go_roundw
          case rel => exact ⟨j + 1, _, by omega, by omega, by go_num, (by omega : c' + 1 ≤ 3 * (j + 1)), ⟨_, hm6⟩, hb6⟩
          case measure => simp [intOf]; omega
      · go_wp2_with fail
        refine (oCas2 hm4 i xa xb xc xd hin (by omega)).mono ?_
        rintro e w5 ⟨⟨r, rfl⟩, ⟨G, c', hm5, hc', hG⟩, hk5⟩
        have hb5 := below_kept hb4 hk5 hS
        have hbx5 := hbx.kept hk5 hgn
        clear hm4 hb4 hbx hk5 b0 b1' b2 b3 b4 b5
        obtain ⟨b0, b1', b2, b3, b4, b5⟩ := id hbx5
        dsimp only at b0 b1' b2 b3 b4 b5
        have HG := Lib.hid hG
        clear hG
        by_cases hik : i = kb
        · subst hik
          go_wp2_with fail
          refine (mLoad hm5 i hin (by omega) (x := G i) rfl).mono ?_
          rintro e w6 ⟨rfl, hm6, hk6⟩
          have hb6 := below_kept hb5 hk6 hS
          obtain ⟨b0, b1', b2, b3, b4, b5⟩ := hbx5.kept hk6 hgn
          dsimp only at b0 b1' b2 b3 b4 b5
          clear hm5 hk6 hb5 hbx5
          go_wp2
          go_roundw
          case rel => exact ⟨j + 1, _, by omega, by omega, by go_num, (by omega : c' + 1 ≤ 3 * (j + 1)), ⟨_, hm6⟩, hb6⟩
          case measure => simp [intOf]; omega
        · by_cases hik2 : i + 1 = kb
          · have hk1 : kb ≤ i + 1 := by omega
            have hk2 : i + 1 ≤ kb := by omega
            clear hik2
            go_wp2_with fail
            refine (mLoad hm5 kb hkn (by omega) (x := G kb) rfl).mono ?_
            rintro e w6 ⟨rfl, hm6, hk6⟩
            have hb6 := below_kept hb5 hk6 hS
            obtain ⟨b0, b1', b2, b3, b4, b5⟩ := hbx5.kept hk6 hgn
            dsimp only at b0 b1' b2 b3 b4 b5
            clear hm5 hk6 hb5 hbx5
            go_wp2_with fail
            refine (wBring HKD.out _ (by decide) (by decide)).mono ?_
            rintro e w7 ⟨rfl, rfl⟩
            go_wp2
            go_roundw
            case rel => exact ⟨j + 1, _, by omega, by omega, by go_num, (by omega : c' + 1 ≤ 3 * (j + 1)), ⟨_, hm6⟩, hb6⟩
            case measure => simp [intOf]; omega
          · have HGF : Hid (G kb = F kb) := Lib.hid (HG.out kb (fun h => hik h.symm) (fun h => hik2 h.symm))
            go_wp2_with fail
            refine (mLoad hm5 kb hkn (by omega) (x := F kb) HGF.out).mono ?_
            rintro e w6 ⟨rfl, hm6, hk6⟩
            have hb6 := below_kept hb5 hk6 hS
            obtain ⟨b0, b1', b2, b3, b4, b5⟩ := hbx5.kept hk6 hgn
            dsimp only at b0 b1' b2 b3 b4 b5
            clear hm5 hk6 hb5 hbx5
            go_wp2_with fail
            refine (wBring HKD.out _ (by decide) (by decide)).mono ?_
            rintro e w7 ⟨rfl, rfl⟩
            go_wp2
            go_roundw
            case rel => exact ⟨j + 1, _, by omega, by omega, by go_num, (by omega : c' + 1 ≤ 3 * (j + 1)), ⟨_, hm6⟩, hb6⟩
            case measure => simp [intOf]; omega
      · go_wp2_with fail
        refine (oAdd hm4 i xa hin (by omega)).mono ?_
        rintro e w5 ⟨⟨r, rfl⟩, ⟨G, c', hm5, hc', hG⟩, hk5⟩
        have hb5 := below_kept hb4 hk5 hS
        have hbx5 := hbx.kept hk5 hgn
        clear hm4 hb4 hbx hk5 b0 b1' b2 b3 b4 b5
        obtain ⟨b0, b1', b2, b3, b4, b5⟩ := id hbx5
        dsimp only at b0 b1' b2 b3 b4 b5
        have HG := Lib.hid hG
        clear hG
        by_cases hik : i = kb
        · subst hik
          go_wp2_with fail
          refine (mLoad hm5 i hin (by omega) (x := G i) rfl).mono ?_
          rintro e w6 ⟨rfl, hm6, hk6⟩
          have hb6 := below_kept hb5 hk6 hS
          obtain ⟨b0, b1', b2, b3, b4, b5⟩ := hbx5.kept hk6 hgn
          dsimp only at b0 b1' b2 b3 b4 b5
          clear hm5 hk6 hb5 hbx5
          go_wp2
          go_roundw
          case rel => exact ⟨j + 1, _, by omega, by omega, by go_num, (by omega : c' + 1 ≤ 3 * (j + 1)), ⟨_, hm6⟩, hb6⟩
          case measure => simp [intOf]; omega
        · have HGF : Hid (G kb = F kb) := Lib.hid (HG.out kb (fun h => hik h.symm))
          go_wp2_with fail
          refine (mLoad hm5 kb hkn (by omega) (x := F kb) HGF.out).mono ?_
          rintro e w6 ⟨rfl, hm6, hk6⟩
          have hb6 := below_kept hb5 hk6 hS
          obtain ⟨b0, b1', b2, b3, b4, b5⟩ := hbx5.kept hk6 hgn
          dsimp only at b0 b1' b2 b3 b4 b5
          clear hm5 hk6 hb5 hbx5
          go_wp2_with fail
          refine (wBring HKD.out _ (by decide) (by decide)).mono ?_
          rintro e w7 ⟨rfl, rfl⟩
          go_wp2
          go_roundw
          case rel => exact ⟨j + 1, _, by omega, by omega, by go_num, (by omega : c' + 1 ≤ 3 * (j + 1)), ⟨_, hm6⟩, hb6⟩
          case measure => simp [intOf]; omega
    · by_cases hjl : j = l.length
      · subst hjl
        go_wp2_with fail
        refine (works _).mono ?_
        rintro e w3 ⟨rfl, hb3⟩
        go_wp2
        go_ret
        exact ⟨rfl, below_then hb hb3⟩
      · obtain rfl : j = 40 := by omega
        have hl40 : 40 < l.length := by omega
        go_wp2_with fail
        refine (works _).mono ?_
        rintro e w3 ⟨rfl, hb3⟩
        go_wp2
        go_ret
        exact ⟨rfl, below_then hb hb3⟩
end Go.Proofs.Ytkcogdojohlpcaa
