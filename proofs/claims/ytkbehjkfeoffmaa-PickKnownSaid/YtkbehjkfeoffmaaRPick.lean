/-
  Pick, of the document's answer; both in one sentence each.
-/
import Derived.Test.YtkbehjkfeoffmaaPickC
set_option linter.unusedVariables false
set_option linter.unusedSimpArgs false
namespace Go.Proofs.Ytkbehjkfeoffmaa
open Go Go.RowKit

theorem own_ge {w : World} {B n : Nat} {t : TypeId} {v : Value} {xs : List Value} (h : w.ownsRow B t 1 v n xs) : ∀ j, v.ownBlock = some j → B ≤ j := by
  intro j ej
  rcases h.2 with ⟨rfl, _⟩ | ⟨g, cap, cur, rfl, hb, _, _⟩
  · simp [Value.ownBlock] at ej
  · obtain rfl : g = j := by simpa [Value.ownBlock] using ej
    exact hb
theorem own_form {w : World} {B n : Nat} {t : TypeId} {v : Value} {xs : List Value} (h : w.ownsRow B t 1 v n xs) : (v = .slice none 0 0 ∧ n = 0) ∨ ∃ g cap, v = .slice (some ⟨g, 0, none⟩) n cap ∧ (n ≤ cap ∧ cap ≤ 9223372036854775807) ∧ ∀ j, j < n → w.cell? ⟨g, j, none⟩ = xs[j]? := by
  rcases h.2 with ⟨rfl, he⟩ | ⟨g, cap, cur, rfl, hb, hg, hc, hm, _⟩
  · left
    refine ⟨rfl, ?_⟩
    have := h.1
    rw [he] at this
    simp at this
    omega
  · exact .inr ⟨g, cap, rfl, ⟨hc, by unfold maxLen at hm; omega⟩, fun j hj => h.cellAt j (by omega)⟩
theorem pickF_none {l : List Bool} {x : Int} (h : (idx l l.length).length = 0) : pickF l x = none := by
  unfold pickF
  rw [if_pos (List.length_eq_zero_iff.1 h)]
theorem pickF_some {l : List Bool} {x : Int} (h : 1 ≤ (idx l l.length).length) : pickF l x = some ((idx l l.length).getD (bring x (idx l l.length).length) 0) := by
  unfold pickF
  rw [if_neg]
  intro e
  rw [e] at h
  simp at h
set_option maxHeartbeats 4000000 in
set_option maxRecDepth 100000 in
theorem rPick (u : Value) (l : List Bool) (x : Int) (hlen : l.length ≤ 1048576) (w : World) (hs : ShowB w u l) :
    Calls Try.prog 10 #[u, .int .i64 x] w fun e W' => e = .returned (pairOf (pickF l x)) ∧ Below w.heap.size w W' := by
  obtain ⟨ao, cap, rfl, hcap, hat⟩ := hs.form
  clear hs
  obtain ⟨i0, hi, hz0, hz1, hz2⟩ := info_parts infoI
  go_enter Try.func10, Try.ntmps10
  go_wp2
  go_loopw [6, 7] (fun v y wr => ∃ k : Nat, k ≤ l.length ∧ y = .int .i64 k ∧ wr.ownsRow w.heap.size 3 1 v (idx l k).length (nats (idx l k)) ∧ Below w.heap.size w wr) (fun v y _ => l.length - (intOf y).toNat)
  case atStart => exact ⟨0, by omega, rfl, World.ownsRow_nil _ _ _ _, Below.refl _ _⟩
  case round =>
    obtain ⟨k, hk, rfl, hown, hb⟩ := hrel
    have hkl := idx_le l k
    by_cases hlt : k < l.length
    · obtain ⟨b, o, rfl, hc⟩ := hat k hlt
      have hcx := (hb.cell (p := ⟨b, o + k, none⟩) (World.block_lt_of_cell? w _ hc)).trans hc
      have HY := Lib.hid (idx_yes (l := l) (k := k))
      have HN := Lib.hid (idx_no (l := l) (k := k))
      generalize run l k = q at hcx HY HN
      clear hc
      cases q
      · have HN1 := Lib.hid (HN.out rfl)
        clear HY HN
        go_wp2
        go_roundw
        case rel => exact ⟨k + 1, by omega, by go_num, by rw [HN1.out]; exact hown, hb⟩
        case measure => simp [intOf]; omega
      · have HY1 := Lib.hid (HY.out rfl)
        clear HY HN
        obtain ⟨N, hN⟩ : ∃ N, (idx l k).length = N := ⟨_, rfl⟩
        obtain ⟨xs, hxs⟩ : ∃ xs, nats (idx l k) = xs := ⟨_, rfl⟩
        rw [hN, hxs] at hown
        rw [hN] at hkl
        have HX := Lib.hid (And.intro hN hxs)
        clear hN hxs
        go_wp2_with (at_builtin; refine wpList_append_own _ (by rfl) _ _ 27 (by rfl) w.heap.size 3 i0 (.int .i64 0) 1 8 Try.underlying27 hi hz0 hz1 hz2 (by rfl) (by decide) _ N xs (by rfl) (hown.alloc _) ⟨wr.heap.size, 0, none⟩ 1 1 [.int .i64 (k : Int)] (by rfl) (by rfl) (cell_one_new _ _ _) (by intro u hu; simp at hu; subst hu; rfl) (by unfold maxLen; omega) (by omega) (by have := hb.size; rw [size_alloc]; omega) ?_)
        intro v' w1 hown' hg _
        have hb1 : Below w.heap.size w w1 := (below_one hb _).grown hg (by have := hb.size; rw [size_alloc]; omega) (own_ge hown)
        go_wp2
        go_roundw
        case rel => exact ⟨k + 1, by omega, by go_num, by rw [HY1.out]; simpa [nats, HX.out.1, ← HX.out.2] using hown', hb1⟩
        case measure => simp [intOf]; omega
    · obtain rfl : k = l.length := by omega
      rcases own_form hown with ⟨rfl, h0⟩ | ⟨g, cp, rfl, hcp, hcells⟩
      · have HP := Lib.hid (pickF_none (x := x) h0)
        go_wp2
        go_ret2
        exact ⟨(ret_pair HP.out).symm, hb⟩
      · by_cases h0 : (idx l l.length).length = 0
        · have HP := Lib.hid (pickF_none (x := x) h0)
          rw [h0]
          go_wp2
          go_ret2
          exact ⟨(ret_pair HP.out).symm, hb⟩
        · have hm1 : 1 ≤ (idx l l.length).length := by omega
          have HP := Lib.hid (pickF_some (x := x) hm1)
          have hj := bring_lt x _ hm1
          have hcl := hcells _ hj
          rw [show (nats (idx l l.length))[bring x (idx l l.length).length]? = some (.int .i64 (((idx l l.length).getD (bring x (idx l l.length).length) 0 : Nat) : Int)) by simp [nats, hj]] at hcl
          obtain ⟨c, hcc⟩ : ∃ c, (idx l l.length).getD (bring x (idx l l.length).length) 0 = c := ⟨_, rfl⟩
          rw [hcc] at HP hcl
          obtain ⟨m, hm⟩ : ∃ m, (idx l l.length).length = m := ⟨_, rfl⟩
          rw [hm] at hm1 hj hcl hkl hcp ⊢
          have hne : ((m : Int) == 0) = false := by simp; omega
          have hmb : m ≤ 1099511627776 := by omega
          clear hcells hown hcc hm h0
          go_wp2_with fail
          refine (cBring x m _ hm1 hmb).mono ?_
          rintro e w1 ⟨rfl, rfl⟩
          obtain ⟨j, hjj⟩ : ∃ j, bring x m = j := ⟨_, rfl⟩
          rw [hjj] at hj hcl ⊢
          clear hjj
          go_wp2
          go_ret2
          exact ⟨(ret_pair HP.out).symm, hb⟩
theorem cPick (u : Value) (l : List Bool) (x : Int) (hlen : l.length ≤ 1048576) (w : World) (hs : ShowB w u l) :
    Calls Try.prog 9 #[u, .int .i64 x] w fun e W' => e = .returned (pairOf (pickF l x)) ∧ Below w.heap.size w W' :=
  callsIn_wide.1 (Pick_in u l x hlen w hs)
end Go.Proofs.Ytkbehjkfeoffmaa
