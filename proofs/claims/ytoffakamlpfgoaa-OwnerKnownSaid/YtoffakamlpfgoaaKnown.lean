/-
  The law OwnerKnown, walked.
-/
import Derived.Test.YtoffakamlpfgoaaPlays
import Derived.StillTailTactics
set_option linter.unusedVariables false
set_option linter.unusedSimpArgs false
namespace Go.Proofs.Ytoffakamlpfgoaa
open Go Go.RowKit

theorem lit_d (w : World) (t : TypeId) (l : List Qd) (n : Nat) (hn : l.length = n) (hm : n ≤ 10000) : ShowD (w.alloc (.cells (qds l).toArray t)) (.slice (some ⟨w.heap.size, 0, none⟩) n n) l := by
  subst hn
  refine ⟨qds_length l, _, _, rfl, by unfold maxLen; omega, fun _ => ⟨_, 0, rfl, fun j hj => ?_⟩⟩
  have hb := heap_new w (.cells (qds l).toArray t)
  unfold World.cell?
  dsimp only
  rw [hb]
  simp
theorem qds_one (l : List Qd) : ∀ u ∈ qds l, u.oneCell' = true := by
  intro u hu
  obtain ⟨c, _, hc⟩ := List.mem_flatMap.1 hu
  simp only [Qd.cells, List.mem_cons, List.mem_nil_iff, or_false] at hc
  rcases hc with rfl | rfl | rfl | rfl | rfl <;> rfl
theorem infoD : (Try.prog.info? 31).map (fun i => (i.zero, i.size, i.bytes)) = some (some (.agg #[.int .i64 0, .int .i64 0, .int .i64 0, .int .i64 0, .int .i64 0]), 5, 40) := by kernel_rfl
/-- a list of calls of one's own -/
abbrev OwnQ (B : Nat) (w : World) (v : Value) (l : List Qd) : Prop := w.ownsRow B 31 5 v l.length (qds l)
theorem OwnQ.shows {B : Nat} {w : World} {v : Value} {l : List Qd} (h : OwnQ B w v l) : ShowD w v l := Shows.ofOwns h
theorem run_appendQ {w : World} {B : Nat} {v u : Value} {l b : List Qd} (hown : OwnQ B w v l) (hu : ShowD w u b) (hb0 : 0 < b.length) (hl : l.length + b.length ≤ 1000) (hB : B ≤ w.heap.size) (ty : TypeId) :
    ∃ ao cap w', (Builtin.append_ #[22, 22] ty #[v, u]).run Try.prog w = .ok (.slice ao (l ++ b).length cap) w' ∧ OwnQ B w' (.slice ao (l ++ b).length cap) (l ++ b) ∧ Below B w w' := by
  obtain ⟨i0, hi, hz0, hz1, hz2⟩ := info_parts infoD
  obtain ⟨_, ao, cap, rfl, hcap, hat⟩ := hu
  obtain ⟨b1, o1, rfl, hc⟩ := hat hb0
  have hnews : ∀ j v, (qds b)[j]? = some v → w.cell? ((⟨b1, o1, none⟩ : Addr).add j) = some v := by
    intro j v hj
    have hlt : j < b.length * 5 := by
      have := (List.getElem?_eq_some_iff.1 hj).1
      rwa [qds_length] at this
    rw [plain_add, hc j hlt, hj]
  obtain ⟨v', w', hr, hown', hg, _, _⟩ := run_append_own_at (P := Try.prog) w B 22 ty 31 i0 _ 5 40 Try.underlying22 hi hz0 hz1 hz2 rfl (by decide) v l.length (qds l) hown ⟨b1, o1, none⟩ b.length cap (qds b) (qds_length b) hnews (qds_one b) (by unfold maxLen; omega) (by omega) hB
  have hown2 : OwnQ B w' v' (l ++ b) := by
    unfold OwnQ
    rw [List.length_append, show qds (l ++ b) = qds l ++ qds b by simp [qds]]
    exact hown'
  obtain ⟨a', c', rfl, _⟩ := own_shape hown2
  exact ⟨a', c', w', hr, hown2, (Below.refl _ w).grown hg hB (own_ge hown)⟩
theorem wpList_appendQ {ops : Array Oper} {rest : List Oper} {o : Oper} {a : Act} {Q : Exit → Act → World → Prop} {w : World} (hgd : o.guard = none) (s x : Operand)
    (ho : o.op = .call { callee := .builtin .append, args := #[s, x], argTypes := #[22, 22] })
    (B : Nat) (v u : Value) (l b : List Qd) (hs : a.eval s = v) (hx : a.eval x = u) (hown : OwnQ B w v l) (hu : ShowD w u b) (hb0 : 0 < b.length) (hl : l.length + b.length ≤ 1000) (hB : B ≤ w.heap.size)
    (h : ∀ ao cap n w', (l ++ b).length = n → OwnQ B w' (.slice ao n cap) (l ++ b) → Below B w w' → wpList Try.prog ops Q rest (a.put o.dst (.slice ao n cap)) w') :
    wpList Try.prog ops Q (o :: rest) a w := by
  refine wpList_plain hgd fun K hK => ?_
  obtain ⟨ao, cap, w', hr, h1, h2⟩ := run_appendQ hown hu hb0 hl hB o.type
  unfold Oper.wp execOp
  simp only [ho, resolve, invoke, builtin, Sem.run_bind, Sem.run_pure, Result.andThen_ok, List.map_toArray, List.map_cons, List.map_nil, hs, hx, hr]
  exact hK _ _ (h _ _ _ _ rfl h1 h2)
def moreL : List Qd := [⟨2, 0, 0, 1, 17⟩, ⟨2, 0, 0, 0, 1⟩, ⟨2, 0, 0, 4, 4⟩, ⟨2, 0, 0, 5, 16⟩, ⟨0, -1, 0, 1, 0⟩, ⟨0, 300, 0, 1, 0⟩, ⟨0, 0, 0, 17, 0⟩, ⟨0, 0, 0, 16, 0⟩, ⟨0, 0, 16, 1, 0⟩]
def szL : List Int := [0, 1, 1, 0, 257, 1, 1, 17, 256, 16, 1, 1, 3, 16, -1, -1]
theorem lit_sz (w : World) (t : TypeId) {j : Nat} (hj : j < 16) : (w.alloc (.cells (nms szL).toArray t)).cell? ⟨w.heap.size, j, none⟩ = some (.int .i64 (pk szL j)) :=
  self_cell (heap_new w _) j _ (by rw [List.getElem?_toArray]; exact nms_at (show j < szL.length from hj))
set_option maxHeartbeats 8000000 in
set_option maxRecDepth 100000 in
theorem walkKnown (W : World) : Calls Try.prog 6 #[] W fun e W' => e = .returned (.bool true) ∧ Below W.heap.size W W' := by
  go_enter Try.func6, Try.ntmps6
  go_wp2
  go_loopw [1, 2] (fun p i wr => ∃ (k : Nat) (a : Option Addr), k ≤ 2 ∧ i = .int .i64 k ∧ p = .pointer a ∧ Hid (OZ wr a) ∧ Hid (Below W.heap.size W wr)) (fun _ i _ => 2 - (intOf i).toNat)
  case atStart => exact ⟨0, none, by omega, rfl, rfl, Lib.hid (.inl rfl), Lib.hid (Below.refl _ _)⟩
  case round =>
    obtain ⟨k, a, hk, rfl, rfl, HZ, HB⟩ := hrel
    by_cases hlt : k < 2
    · go_wp2_with fail
      refine (zClear HZ.out _ _).mono ?_
      rintro e w1 ⟨rfl, hb1⟩
      have HZ1 := Lib.hid (HZ.out.below hb1)
      have HB1 := Lib.hid (below_then HB.out hb1)
      clear hb1 HZ HB
      go_wp2_with fail
      refine (zMove HZ1.out _ _).mono ?_
      rintro e w2 ⟨rfl, rfl⟩
      go_wp2_with fail
      refine (zOf HZ1.out _ _).mono ?_
      rintro e w3 ⟨rfl, rfl⟩
      go_wp2_with fail
      refine (zCount HZ1.out _).mono ?_
      rintro e w4 ⟨rfl, rfl⟩
      go_wp2_with fail
      refine (zSet HZ1.out _ _ _).mono ?_
      rintro e w5 ⟨rfl, hb5⟩
      have HZ5 := Lib.hid (HZ1.out.below hb5)
      have HB5 := Lib.hid (below_then HB1.out hb5)
      clear hb5 HZ1 HB1
      go_wp2_with fail
      refine (zEmpty HZ5.out _).mono ?_
      rintro e w6 ⟨rfl, rfl⟩
      go_wp2
      go_roundw
      case rel => exact ⟨k + 1, _, by omega, by go_num, rfl, Lib.hid (.inr ⟨_, rfl, heap_new _ _⟩), Lib.hid (below_one HB5.out _)⟩
      case measure => simp [intOf]; omega
    · obtain rfl : k = 2 := by omega
      rw [show ((2 : Nat) : Int) = 2 from rfl]
      clear HZ hlt hk
      obtain ⟨B, hB⟩ : ∃ B, wr.heap.size = B := ⟨_, rfl⟩
      have HE0 : Hid (OwnQ B wr (.slice none 0 0) []) := Lib.hid (World.ownsRow_nil _ _ _ _)
      have HBB : Hid (B ≤ wr.heap.size) := Lib.hid (by omega)
      have HWB : Hid (W.heap.size ≤ B) := Lib.hid (by rw [← hB]; exact HB.out.size)
      clear hB
      go_wp2
      go_loopw [7, 8] (fun v i wx => ∃ (j : Nat) (l : List Qd), j ≤ 20 ∧ i = .int .i64 j ∧ Hid (OwnQ B wx v l) ∧ Hid (Below W.heap.size W wx) ∧ Hid (B ≤ wx.heap.size) ∧ Hid (l.length = 2 * j)) (fun _ i _ => 20 - (intOf i).toNat)
      case atStart => exact ⟨0, [], by omega, rfl, HE0, HB, HBB, Lib.hid rfl⟩
      case round =>
        clear HE0 HB HBB
        obtain ⟨j, l, hj, rfl, HE, HB, HBB, HL⟩ := hrel
        by_cases hj20 : j < 20
        · have HL40 : Hid (l.length + 2 ≤ 1000) := Lib.hid (by have := HL.out; omega)
          have HU : Hid (ShowD (wr.alloc (.cells #[.int .i64 0, .int .i64 ((j : Int) % 3), .int .i64 ((j : Int) - 2), .int .i64 ((j : Int) - 1), .int .i64 0, .int .i64 1, .int .i64 ((j : Int) % 4), .int .i64 ((j : Int) - 3), .int .i64 0, .int .i64 0] 31)) (.slice (some ⟨wr.heap.size, 0, none⟩) 2 2) [⟨0, (j : Int) % 3, (j : Int) - 2, (j : Int) - 1, 0⟩, ⟨1, (j : Int) % 4, (j : Int) - 3, 0, 0⟩]) := Lib.hid (lit_d wr _ [⟨0, (j : Int) % 3, (j : Int) - 2, (j : Int) - 1, 0⟩, ⟨1, (j : Int) % 4, (j : Int) - 3, 0, 0⟩] 2 rfl (by decide))
          go_wp2_with (at_builtin; refine wpList_appendQ (by rfl) _ _ (by rfl) B _ _ l [⟨0, (j : Int) % 3, (j : Int) - 2, (j : Int) - 1, 0⟩, ⟨1, (j : Int) % 4, (j : Int) - 3, 0, 0⟩] (by rfl) (by rfl) (own_below HE.out (below_one (Below.refl _ _) _)) HU.out (Nat.zero_lt_succ _) HL40.out (Nat.le_trans HBB.out (by rw [size_alloc]; omega)) ?_)
          intro ao c n w5 hn h5 hb5
          have H5 := Lib.hid h5
          have HN := Lib.hid hn
          have HB5 := Lib.hid ((below_one HB.out _).trans (hb5.mono HWB.out))
          have HBB5 : Hid (B ≤ w5.heap.size) := Lib.hid (Nat.le_trans (Nat.le_trans HBB.out (by rw [size_alloc]; omega)) hb5.size)
          clear h5 hb5 HE HB HBB hn HU
          go_wp2
          go_roundw
          case rel => exact ⟨j + 1, _, by omega, by go_num, H5, HB5, HBB5, Lib.hid (by have := HL.out; simp; omega)⟩
          case measure => simp [intOf]; omega
        · obtain rfl : j = 20 := by omega
          rw [show ((20 : Nat) : Int) = 20 from rfl]
          obtain ⟨va, vc, hv, hv1, hv2⟩ := own_shape HE.out
          have HL40 : Hid (l.length + 9 ≤ 1000) := Lib.hid (by have := HL.out; omega)
          have HU : Hid (ShowD (wr.alloc (.cells (qds moreL).toArray 31)) (.slice (some ⟨wr.heap.size, 0, none⟩) 9 9) moreL) := Lib.hid (lit_d wr _ moreL 9 rfl (by decide))
          go_wp2_with (at_builtin; refine wpList_appendQ (by rfl) _ _ (by rfl) B _ _ l moreL (by rfl) (by rfl) (own_below HE.out (below_one (Below.refl _ _) _)) HU.out (Nat.zero_lt_succ _) HL40.out (Nat.le_trans HBB.out (by rw [size_alloc]; omega)) ?_)
          intro ao c n w5 hn h5 hb5
          have HQ := Lib.hid h5.shows
          have HB5 := Lib.hid ((below_one HB.out _).trans (hb5.mono HWB.out))
          clear h5 hb5 HE HB HBB hn HU hv hv1 hv2
          have HS : Hid (∀ j, j < 16 → (w5.alloc (.cells (nms szL).toArray 48)).cell? ⟨w5.heap.size, j, none⟩ = some (.int .i64 (pk szL j))) := Lib.hid (fun j hj => lit_sz w5 _ hj)
          have HQ6 := Lib.hid (HQ.out.below (below_one (Below.refl _ _) (.cells (nms szL).toArray 48)))
          have HB6 := Lib.hid (below_one HB5.out (.cells (nms szL).toArray 48))
          clear HQ HB5
          go_wp2
          change Code.wp _ _ _ _ (w5.alloc (.cells (nms szL).toArray 48))
          generalize w5.alloc (.cells (nms szL).toArray 48) = wt at HS HQ6 HB6 ⊢
          generalize w5.heap.size = K at HS ⊢
          go_loopw [10] (fun i wr => ∃ j : Nat, j ≤ 8 ∧ i = .int .i64 j ∧ Hid (Below wt.heap.size wt wr)) (fun i _ => 8 - (intOf i).toNat)
          case atStart => exact ⟨0, by omega, rfl, Lib.hid (Below.refl _ _)⟩
          case round =>
            obtain ⟨m, hm, rfl, HE⟩ := hrel
            by_cases hm8 : m < 8
            · have hmb : (0 : Int) ≤ (m : Int) ∧ (m : Int) < 8 := by omega
              have c5 := cell_keep HE.out (HS.out (m * 2) (by omega))
              have c6 := cell_keep HE.out (HS.out (m * 2 + 1) (by omega))
              generalize pk szL (m * 2) = X at c5
              generalize pk szL (m * 2 + 1) = Y at c6
              have HQ7 := Lib.hid (HQ6.out.below (HE.out.drew))
              go_wp2
              refine wp_region_still_tail 11 (by kernel_rfl) (by kernel_rfl) ?_
              simp only [List.take_succ_cons, List.take_zero, List.drop_succ_cons, List.drop_zero]
              repeat still_step
              refine wpStill_nil ?_
              change wpList _ _ _ _ _ wr.drew
              go_wp2_with fail
              refine (walkPlays _ _ _ _ _ HQ7.out).mono ?_
              rintro e w8 ⟨rfl, hb8⟩
              have HE8 := Lib.hid (below_then HE.out.drew hb8)
              clear hb8 HE HQ7 c5 c6
              go_wp2
              go_roundw
              case rel => exact ⟨m + 1, by omega, by go_num, HE8⟩
              case measure => simp [intOf]; omega
            · obtain rfl : m = 8 := by omega
              rw [show ((8 : Nat) : Int) = 8 from rfl]
              go_wp2_with fail
              refine (works _).mono ?_
              rintro e w9 ⟨rfl, hb⟩
              have HB9 := Lib.hid (below_then HB6.out (below_then HE.out hb))
              clear hb
              go_wp2
              go_ret
              exact ⟨rfl, HB9.out⟩
end Go.Proofs.Ytoffakamlpfgoaa
