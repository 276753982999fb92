/-
  MemPlays's step: an access of both memories is alike.
-/
import Derived.Test.YtkcogdojohlpcaaGen
import Derived.Test.YtkcogdojohlpcaaOthers
set_option linter.unusedVariables false
set_option linter.unusedSimpArgs false
namespace Go.Proofs.Ytkcogdojohlpcaa
open Go Go.RowKit

/-- both memories, and what has changed since w0 -/
structure St (w0 w : World) (a b k ra rb n : Nat) (F : Nat → Int) (c : Nat) (G : Nat → Int) (d : Nat) : Prop where
  mem : MemAt w a b k n F c
  ref : RefAt w ra rb n G d
  keep : Kept (fun x => x = a ∨ x = b ∨ x = ra ∨ x = rb) w0 w
  apart : ra ≠ a ∧ ra ≠ b ∧ rb ≠ a ∧ rb ≠ b ∧ ra ≠ k ∧ rb ≠ k
section
variable {w0 w w' : World} {a b k ra rb n c d c' d' : Nat} {F G F' G' : Nat → Int}
theorem St.m (h : St w0 w a b k ra rb n F c G d) (hm : MemAt w' a b k n F' c') (hk : Kept (fun x => x = a ∨ x = b) w w') : St w0 w' a b k ra rb n F' c' G d :=
  ⟨hm, h.ref.kept hk (by have := h.apart; omega) (by have := h.apart; omega), h.keep.trans (hk.mono (by rintro x (h | h); exact .inl h; exact .inr (.inl h))), h.apart⟩
theorem St.r (h : St w0 w a b k ra rb n F c G d) (hm : RefAt w' ra rb n G' d') (hk : Kept (fun x => x = ra ∨ x = rb) w w') : St w0 w' a b k ra rb n F c G' d' :=
  ⟨h.mem.kept hk (by have := h.apart; omega) (by have := h.apart; omega) (by have := h.apart; omega), hm, h.keep.trans (hk.mono (by rintro x (h | h); exact .inr (.inr (.inl h)); exact .inr (.inr (.inr h)))), h.apart⟩
theorem St.below (h : St w0 w a b k ra rb n F c G d) (hb : Below w.heap.size w w') : St w0 w' a b k ra rb n F c G d :=
  ⟨h.mem.below hb, h.ref.below hb, h.keep.trans (Kept.ofBelow hb), h.apart⟩
theorem St.drew (h : St w0 w a b k ra rb n F c G d) : St w0 w.drew a b k ra rb n F c G d := h.below (Below.refl _ _).drew
theorem St.alloc (h : St w0 w a b k ra rb n F c G d) (o : Obj) : St w0 (w.alloc o) a b k ra rb n F c G d := h.below (below_one (Below.refl _ _) o)
/-- a store into a block that is none of theirs, and new since w0 -/
theorem St.store (h : St w0 w a b k ra rb n F c G d) {g : Nat} (hg : w0.heap.size ≤ g) (hne : g ≠ a ∧ g ≠ b ∧ g ≠ k ∧ g ≠ ra ∧ g ≠ rb) (i : Nat) (v : Value) : St w0 (w.setCell ⟨g, i, none⟩ v) a b k ra rb n F c G d := by
  have hk : Kept (fun x => x = g) w (w.setCell ⟨g, i, none⟩ v) := (Kept.refl (fun x => x = g) w).setCell (p := ⟨g, i, none⟩) rfl v
  refine ⟨h.mem.kept hk (by omega) (by omega) (by omega), h.ref.kept hk (by omega) (by omega), ⟨hk.os.trans h.keep.os, hk.tape.trans h.keep.tape, hk.output.trans h.keep.output, Nat.le_trans h.keep.size hk.size, fun j hj hn => (hk.block j (Nat.lt_of_lt_of_le hj h.keep.size) (by omega)).trans (h.keep.block j hj hn)⟩, h.apart⟩
end
theorem Box.drew {w : World} {g : Nat} {x : Do} (h : Box w g x) : Box w.drew g x := h.kept (S := fun _ => False) (Kept.refl _ _).drew id

theorem box12 {w : World} {g : Nat} {kind at_ xa xb xc xd : Int} (h : Box w g ⟨kind, at_, xa, xb, xc, xd⟩) : w.cell? ⟨g, 1, none⟩ = some (.int .i64 at_) ∧ w.cell? ⟨g, 2, none⟩ = some (.int .u64 xa) := ⟨h.2.1, h.2.2.1⟩
section
variable {w0 w : World} {a b k ra rb n c d : Nat} {F G : Nat → Int}
theorem stStore (h : St w0 w a b k ra rb n F c G d) (i v : Int) (hc : c ≤ 1000000) :
    Calls Try.prog 21 #[.pointer (some ⟨a, 0, none⟩), .int .i64 i, .int .u64 v] w fun e w' => e = .returned (.int .i64 (eOf n i 1)) ∧ St w0 w' a b k ra rb n (fStore n F i v) (upOf n i 1 c) G d ∧ ∀ g x, ¬ (g = a ∨ g = b) → Box w g x → Box w' g x := by
  refine (gStore h.mem i v hc).mono ?_
  rintro e w' ⟨he, hm, hk⟩
  exact ⟨he, h.m hm hk, fun g x hg hb => hb.kept hk hg⟩
theorem stStoreR (h : St w0 w a b k ra rb n F c G d) (i v : Int) (hc : d ≤ 1000000) :
    Calls Try.prog 26 #[.pointer (some ⟨ra, 0, none⟩), .int .i64 i, .int .u64 v] w fun e w' => e = .returned (.int .i64 (eOf n i 1)) ∧ St w0 w' a b k ra rb n F c (fStore n G i v) (upOf n i 1 d) ∧ ∀ g x, ¬ (g = ra ∨ g = rb) → Box w g x → Box w' g x := by
  refine (sStore h.ref i v hc).mono ?_
  rintro e w' ⟨he, hm, hk⟩
  exact ⟨he, h.r hm hk, fun g x hg hb => hb.kept hk hg⟩
end
set_option maxHeartbeats 2000000 in
set_option maxRecDepth 100000 in
theorem cStep (w : World) (a b k ra rb n : Nat) (F : Nat → Int) (c : Nat) (x : Do) (h0 : St w w a b k ra rb n F c F c) (hc : c ≤ 100000) :
    Calls Try.prog 11 #[.pointer (some ⟨a, 0, none⟩), .pointer (some ⟨ra, 0, none⟩), x.agg] w fun e w' => e = .returned (.bool true) ∧ ∃ G c', c' ≤ c + 1 ∧ St w w' a b k ra rb n G c' G c' := by
  obtain ⟨kind, at_, xa, xb, xc, xd⟩ := x
  unfold Do.agg
  dsimp only
  obtain ⟨kd, hkd⟩ : ∃ kd, bring kind 6 = kd := ⟨_, rfl⟩
  have hkd6 : kd < 6 := by rw [← hkd]; exact bring_lt _ _ (by decide)
  have HKD := Lib.hid hkd
  clear hkd
  have hbx : Box (w.alloc (.cells #[.int .i64 kind, .int .i64 at_, .int .u64 xa, .int .u64 xb, .int .u64 xc, .int .u64 xd] 34)) w.heap.size ⟨kind, at_, xa, xb, xc, xd⟩ := box_new w ⟨kind, at_, xa, xb, xc, xd⟩ _
  have hst := h0.alloc (.cells #[.int .i64 kind, .int .i64 at_, .int .u64 xa, .int .u64 xb, .int .u64 xc, .int .u64 xd] 34)
  have hg : ¬ (w.heap.size = a ∨ w.heap.size = b) := by have := h0.mem.lt; omega
  have hg2 : ¬ (w.heap.size = ra ∨ w.heap.size = rb) := by have := h0.ref.lt; omega
  clear h0
  go_enter Try.func11, Try.ntmps11
  go_wp2_with fail
  refine (wBring HKD.out _ (by decide) (by decide)).mono ?_
  rintro e w1 ⟨rfl, hw1⟩
  rw [← hw1] at hbx hst
  clear hw1
  obtain ⟨b0, b1, b2, b3, b4, b5⟩ := id hbx
  dsimp only at b0 b1 b2 b3 b4 b5
  have hkc : kd = 0 ∨ kd = 1 ∨ kd = 2 ∨ kd = 3 ∨ kd = 4 ∨ kd = 5 := by omega
  clear hkd6
  rcases hkc with rfl | rfl | rfl | rfl | rfl | rfl
  · go_wp2_with fail
    refine (gLoad hst.mem at_ (by omega)).mono ?_
    rintro e w2 ⟨rfl, hm, hk⟩
    have hst2 := hst.m hm hk
    obtain ⟨b0, b1, b2, b3, b4, b5⟩ := hbx.kept hk hg
    dsimp only at b0 b1 b2 b3 b4 b5
    clear hst hbx hm hk
    go_wp2_with fail
    refine (sLoad hst2.ref at_ (by omega)).mono ?_
    rintro e w3 ⟨rfl, hm, hk⟩
    have hst3 := hst2.r hm hk
    clear hst2 hm hk
    go_wp2
    go_ret
    exact ⟨rfl, _, _, upOf_le _ _ _ _, hst3⟩
  · have hstd := hst.drew
    have hbxd := hbx.drew
    clear hst hbx
    go_wp2
    go_region_held3 (fun w' => w'.cell? ⟨w.heap.size, 1, none⟩ = some (.int .i64 at_) ∧ w'.cell? ⟨w.heap.size, 2, none⟩ = some (.int .u64 xa))
      (first | exact box12 (by assumption))
      (first
        | (go_at_call 21; refine (stStore (by assumption) at_ xa (by omega)).mono ?_; rintro e w2 ⟨rfl, hst2, hB⟩; have hbx2 := hB _ _ hg (show Box _ _ _ from by assumption))
        | (go_at_call 26; refine (stStoreR (by assumption) at_ xa (by omega)).mono ?_; rintro e w3 ⟨rfl, hst3, hB⟩; have hbx3 := hB _ _ hg2 (show Box _ _ _ from by assumption)))
    all_goals go_wp2
    all_goals go_ret
    all_goals exact ⟨rfl, _, _, upOf_le _ _ _ _, by assumption⟩
  · go_wp2_with fail
    refine (gCas hst.mem at_ xa xb (by omega)).mono ?_
    rintro e w2 ⟨rfl, hm, hk⟩
    have hst2 := hst.m hm hk
    obtain ⟨b0, b1, b2, b3, b4, b5⟩ := hbx.kept hk hg
    dsimp only at b0 b1 b2 b3 b4 b5
    clear hst hbx hm hk
    go_wp2_with fail
    refine (sCas hst2.ref at_ xa xb (by omega)).mono ?_
    rintro e w3 ⟨rfl, hm, hk⟩
    have hst3 := hst2.r hm hk
    clear hst2 hm hk
    go_wp2
    go_ret
    exact ⟨rfl, _, _, upOf_le _ _ _ _, hst3⟩
  · go_wp2_with fail
    refine (gCas2 hst.mem at_ xa xb xc xd (by omega)).mono ?_
    rintro e w2 ⟨rfl, hm, hk⟩
    have hst2 := hst.m hm hk
    obtain ⟨b0, b1, b2, b3, b4, b5⟩ := hbx.kept hk hg
    dsimp only at b0 b1 b2 b3 b4 b5
    clear hst hbx hm hk
    go_wp2_with fail
    refine (sCas2 hst2.ref at_ xa xb xc xd (by omega)).mono ?_
    rintro e w3 ⟨rfl, hm, hk⟩
    have hst3 := hst2.r hm hk
    clear hst2 hm hk
    go_wp2
    go_ret
    exact ⟨rfl, _, _, upOf_le _ _ _ _, hst3⟩
  · go_wp2_with fail
    refine (gAdd hst.mem at_ xa (by omega)).mono ?_
    rintro e w2 ⟨rfl, hm, hk⟩
    have hst2 := hst.m hm hk
    obtain ⟨b0, b1, b2, b3, b4, b5⟩ := hbx.kept hk hg
    dsimp only at b0 b1 b2 b3 b4 b5
    clear hst hbx hm hk
    go_wp2_with fail
    refine (sAdd hst2.ref at_ xa (by omega)).mono ?_
    rintro e w3 ⟨rfl, hm, hk⟩
    have hst3 := hst2.r hm hk
    clear hst2 hm hk
    go_wp2
    go_ret
    exact ⟨rfl, _, _, upOf_le _ _ _ _, hst3⟩
  · go_wp2_with fail
    refine (cWords hst.mem).mono ?_
    rintro e w2 ⟨g, cap, rfl, hcap, hgw, hW, hs, hb2⟩
    have hst2 := hst.below hb2
    have hS2 := Lib.hid hs
    clear hbx
    go_wp2_with fail
    refine (rWords hst2.ref).mono ?_
    rintro e w3 ⟨g', cap', rfl, hcap', hgw', hW', hs', hb3⟩
    have hst3 := hst2.below hb3
    have hW3 := hW.kept (S := fun _ => False) (Kept.ofBelow hb3) id
    clear hW' hW hcap'
    go_wp2_with fail
    refine (eqWordsT _ _ _ _ (hS2.out.below hb3) hs').mono ?_
    rintro e w4 ⟨rfl, hb4⟩
    have hst4 := hst3.below hb4
    have hW4 := hW3.kept (S := fun _ => False) (Kept.ofBelow hb4) id
    have hn1 := hst4.mem.n1
    have hn2 := hst4.mem.n2
    have hgl := hW4.lt
    have hst0 := hst4.mem.lt
    have hst1 := hst4.ref.lt
    clear hs hs' hst2 hst3 hb3 hb4 hW3
    have hgw0 : w.heap.size ≤ g := by have := hst.keep.size; omega
    have hgne : g ≠ a ∧ g ≠ b ∧ g ≠ k ∧ g ≠ ra ∧ g ≠ rb := by
      have l2 := hst.mem.lt
      have l3 := hst.ref.lt
      omega
    clear hst hst0 hst1 hgl hgw hgw' hb2
    go_wp2
    go_loopw [25] (fun y wr => ∃ i : Nat, i ≤ n ∧ y = .int .i64 i ∧ Wrow wr g n ∧ St w wr a b k ra rb n F c F c) (fun y _ => n - (intOf y).toNat)
    case atStart => exact ⟨0, by omega, rfl, hW4, hst4⟩
    case round =>
      obtain ⟨i, hi, rfl, hW5, hst5⟩ := hrel
      by_cases hlt : i < n
      · obtain ⟨x, d0, f0⟩ := hW5.at hlt
        go_wp2
        go_roundw
        case rel => exact ⟨i + 1, by omega, by go_num, hW5.set i _, hst5.store hgw0 hgne i _⟩
        case measure => simp [intOf]; omega
      · obtain rfl : i = n := by omega
        go_wp2
        go_ret
        exact ⟨rfl, F, c, by omega, hst5⟩
end Go.Proofs.Ytkcogdojohlpcaa
