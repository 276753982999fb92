/-
  Words of both memories; the small helpers EqWords, Bring.
-/
import Derived.Test.YtkcogdojohlpcaaAcc
import Derived.Deep.RegionHeldLaw
import Derived.Deep.AppendLies
import Derived.Maps.AppendAt
import Derived.Lib.SliceRun
set_option linter.unusedVariables false
set_option linter.unusedSimpArgs false
namespace Go.Proofs.Ytkcogdojohlpcaa
open Go Go.RowKit

/-- A block whose first n cells are words. -/
def Wrow (w : World) (g n : Nat) : Prop := ∃ c t, w.heap[g]? = some (.cells c t (0, 0)) ∧ ∀ j, j < n → ∃ x, c[j]? = some (.int .u64 x)
section
variable {w : World} {g n : Nat}
theorem Wrow.at (h : Wrow w g n) {j : Nat} (hj : j < n) : ∃ x, w.cell? ⟨g, j, none⟩ = some (.int .u64 x) ∧ w.frozen? ⟨g, j, none⟩ = false := by
  obtain ⟨c, t, hb, hc⟩ := h
  obtain ⟨x, hx⟩ := hc j hj
  exact ⟨x, by simp [World.cell?, hb, hx], by simp [World.frozen?, hb]⟩
theorem Wrow.set (h : Wrow w g n) (i : Nat) (v : Int) : Wrow (w.setCell ⟨g, i, none⟩ (.int .u64 v)) g n := by
  obtain ⟨c, t, hb, hc⟩ := h
  refine ⟨c.setIfInBounds i (.int .u64 v), t, by simp [World.setCell, Array.getElem?_modify, hb], fun j hj => ?_⟩
  obtain ⟨x, hx⟩ := hc j hj
  rw [Array.getElem?_setIfInBounds]
  by_cases e : i = j
  · subst e
    have := (Array.getElem?_eq_some_iff.1 hx).1
    exact ⟨v, by simp [this]⟩
  · exact ⟨x, by simp [e, hx]⟩
theorem Wrow.drewN (h : Wrow w g n) (m : Nat) : Wrow (w.drewN m) g n := h
theorem Wrow.kept {S : Nat → Prop} {w' : World} (h : Wrow w g n) (hk : Kept S w w') (hn : ¬ S g) : Wrow w' g n := by
  obtain ⟨c, t, hb, hc⟩ := h
  exact ⟨c, t, (hk.block g (Array.getElem?_eq_some_iff.1 hb).1 hn).trans hb, hc⟩
theorem Wrow.lt (h : Wrow w g n) : g < w.heap.size := by
  obtain ⟨c, t, hb, hc⟩ := h
  exact (Array.getElem?_eq_some_iff.1 hb).1
end
/-- what an append to nothing owns -/
theorem own_out {w : World} {B n : Nat} {v : Value} {l : List Int} (h : w.ownsRow B 32 1 v n (wds l)) (h0 : 0 < n) (hl : l.length = n) :
    ∃ g cap, v = .slice (some ⟨g, 0, none⟩) n cap ∧ (n ≤ cap ∧ cap ≤ 9223372036854775807) ∧ B ≤ g ∧ Wrow w g n ∧ ShowU w v l := by
  have hs := Shows.ofOwns h
  rcases h.2 with ⟨rfl, e⟩ | ⟨g, cap, cur, rfl, hb, hg, hc, hm, hsz, ht⟩
  · omega
  · refine ⟨g, cap, rfl, ⟨hc, by unfold maxLen at hm; omega⟩, hb, ⟨cur, _, hg, fun j hj => ?_⟩, by unfold ShowU; rw [hl]; exact hs⟩
    have h1 : (cur.toList.take (n * 1))[j]? = (wds l)[j]? := by rw [ht]
    rw [List.getElem?_take, if_pos (by omega)] at h1
    have h2 : (wds l)[j]? = some (.int .u64 (l[j]'(by omega))) := by simp [wds, show j < l.length by omega]
    rw [h2] at h1
    exact ⟨_, by simpa using h1⟩
theorem info_parts {P : Program} {t : TypeId} {z : Value} {s b : Nat} (h : (P.info? t).map (fun i => (i.zero, i.size, i.bytes)) = some (some z, s, b)) : ∃ i, P.info? t = some i ∧ i.zero = some z ∧ i.size = s ∧ i.bytes = b := by
  cases hi : P.info? t with
  | none => rw [hi] at h; simp at h
  | some i =>
    rw [hi] at h
    simp at h
    exact ⟨i, rfl, h.1, h.2.1, h.2.2⟩
theorem infoU : (Try.prog.info? 32).map (fun i => (i.zero, i.size, i.bytes)) = some (some (.int .u64 0), 1, 8) := by kernel_rfl
/-- the words of a row, as news to append -/
theorem news_of_row {w : World} {b n : Nat} {t : TypeId} {F : Nat → Int} (h : w.rowIs b t n (fun i => .int .u64 (F i))) : ∀ j u, (wds (wl n F))[j]? = some u → w.cell? ((⟨b, 0, none⟩ : Addr).add j) = some u := by
  intro j u hj
  have hlt : j < n := by
    have := (List.getElem?_eq_some_iff.1 hj).1
    simpa [wds, wl] using this
  rw [show (⟨b, 0, none⟩ : Addr).add j = ⟨b, j, none⟩ by
    by_cases hj0 : j = 0
    · subst hj0; rfl
    · simp [Addr.add, hj0], h.cell hlt]
  simpa [wds, wl, hlt] using hj
theorem wds_one (l : List Int) : ∀ u ∈ wds l, u.oneCell' = true := by
  intro u hu
  simp at hu
  obtain ⟨y, _, rfl⟩ := hu
  rfl

set_option maxHeartbeats 1000000 in
theorem cClone {w : World} {b n : Nat} {F : Nat → Int} (h : w.rowIs b 32 n (fun i => .int .u64 (F i))) (h1 : 1 ≤ n) (h2 : n ≤ 4096) :
    Calls Try.prog 30 #[.slice (some ⟨b, 0, none⟩) n n] w fun e w' => ∃ g cap, e = .returned (.slice (some ⟨g, 0, none⟩) n cap) ∧ (n ≤ cap ∧ cap ≤ 9223372036854775807) ∧ w.heap.size ≤ g ∧ Wrow w' g n ∧ ShowU w' (.slice (some ⟨g, 0, none⟩) n cap) (wl n F) ∧ Below w.heap.size w w' := by
  obtain ⟨i0, hi, hz0, hz1, hz2⟩ := info_parts infoU
  have hnews := news_of_row (h.alloc (.cells #[] 32))
  have hown := World.ownsRow_lit (base := w.heap.size) (e := 32) (size := 1) w #[] 0 (Nat.le_refl _) (Nat.zero_le _) rfl
  have HH := Lib.hid h
  clear h
  have hnil : ∀ w', (binOp .eql 37 (.slice (some ⟨b, 0, none⟩) n n) (.slice none 0 0)).run Try.prog w' = .ok (.bool false) w' := fun w' => Lib.run_eql_slice_nil w' _ _ _ _ _ _ _ Try.underlying37
  go_enter Try.func30, Try.ntmps30
  go_wp2_with (at_builtin; refine wpList_append_own_at (w := w.alloc (.cells #[] 32)) (by rfl) _ _ _ (by rfl) w.heap.size 32 i0 _ 1 8 Try.underlying37 hi hz0 hz1 hz2 (by rfl) (by decide) _ 0 [] (by rfl) hown ⟨b, 0, none⟩ n n (wds (wl n F)) (by rfl) (by simp [wds, wl]) hnews (wds_one _) (by unfold maxLen; omega) (by omega) (by rw [size_alloc]; omega) ?_)
  intro v w' hown' hg _ _
  try simp only [Nat.zero_add, List.nil_append] at hown'
  obtain ⟨g, cap, rfl, hcap, hgb, hW, hS⟩ := own_out hown' (by omega) (wl_length n F)
  go_wp2
  go_ret
  exact ⟨g, cap, rfl, hcap, hgb, hW, hS, (below_one (Below.refl _ w) _).grown hg (by rw [size_alloc]; omega) (fun k hk => by simp [Value.ownBlock] at hk; omega)⟩
set_option maxHeartbeats 1000000 in
theorem cWords {w : World} {a b k n c : Nat} {F : Nat → Int} (h : MemAt w a b k n F c) :
    Calls Try.prog 16 #[.pointer (some ⟨a, 0, none⟩)] w fun e w' => ∃ g cap, e = .returned (.slice (some ⟨g, 0, none⟩) n cap) ∧ (n ≤ cap ∧ cap ≤ 9223372036854775807) ∧ w.heap.size ≤ g ∧ Wrow w' g n ∧ ShowU w' (.slice (some ⟨g, 0, none⟩) n cap) (wl n F) ∧ Below w.heap.size w w' := by
  obtain ⟨c0, c1, c2, f1, k0⟩ := h.cells
  go_enter Try.func16, Try.ntmps16
  go_wp2_with fail
  refine (cClone h.words h.n1 h.n2).mono ?_
  rintro e w1 ⟨g, cap, rfl, h1, h2, h3, h4, h5⟩
  go_wp2
  go_ret
  exact ⟨g, cap, rfl, h1, h2, h3, h4, h5⟩
set_option maxHeartbeats 1000000 in
theorem rWords {w : World} {a b n c : Nat} {F : Nat → Int} (h : RefAt w a b n F c) :
    Calls Try.prog 17 #[.pointer (some ⟨a, 0, none⟩)] w fun e w' => ∃ g cap, e = .returned (.slice (some ⟨g, 0, none⟩) n cap) ∧ (n ≤ cap ∧ cap ≤ 9223372036854775807) ∧ w.heap.size ≤ g ∧ Wrow w' g n ∧ ShowU w' (.slice (some ⟨g, 0, none⟩) n cap) (wl n F) ∧ Below w.heap.size w w' := by
  obtain ⟨c0, c1, f1⟩ := h.cells
  obtain ⟨i0, hi, hz0, hz1, hz2⟩ := info_parts infoU
  have hnews := news_of_row h.words
  have h1 := h.n1
  have h2 := h.n2
  have HH := Lib.hid h
  clear h
  go_enter Try.func17, Try.ntmps17
  go_wp2_with (at_builtin; refine wpList_append_own_at (w := w) (by rfl) _ _ _ (by rfl) w.heap.size 32 i0 _ 1 8 Try.underlying37 hi hz0 hz1 hz2 (by rfl) (by decide) _ 0 [] (by rfl) (World.ownsRow_nil _ _ _ _) ⟨b, 0, none⟩ n n (wds (wl n F)) (by rfl) (by simp [wds, wl]) hnews (wds_one _) (by unfold maxLen; omega) (by omega) (Nat.le_refl _) ?_)
  intro v w' hown' hg _ _
  try simp only [Nat.zero_add, List.nil_append] at hown'
  obtain ⟨g, cap, rfl, hcap, hgb, hW, hS⟩ := own_out hown' (by omega) (wl_length n F)
  go_wp2
  go_ret
  exact ⟨g, cap, rfl, hcap, hgb, hW, hS, (Below.refl _ w).grown hg (Nat.le_refl _) (fun k hk => by simp [Value.ownBlock] at hk)⟩

theorem take_eq_succ {α : Type} (a b : List α) (k : Nat) (ha : k < a.length) (hb : k < b.length) (h : a.take k = b.take k) (he : a[k] = b[k]) : a.take (k + 1) = b.take (k + 1) := by
  rw [List.take_succ_eq_append_getElem ha, List.take_succ_eq_append_getElem hb, h, he]
theorem ne_of_at {α : Type} (a b : List α) (k : Nat) (ha : k < a.length) (hb : k < b.length) (he : a[k] ≠ b[k]) : a ≠ b := by
  rintro rfl
  exact he rfl
set_option maxHeartbeats 2000000 in
set_option maxRecDepth 100000 in
theorem cEqWords (u v : Value) (a b : List Int) (w : World) (hu : ShowU w u a) (hv : ShowU w v b) :
    Calls Try.prog 15 #[u, v] w fun e w' => e = .returned (.bool (decide (a = b))) ∧ Below w.heap.size w w' := by
  obtain ⟨ao, cap, rfl, hcap, hat⟩ := hu.form
  obtain ⟨bo, cbp, rfl, hcbp, hbt⟩ := hv.form
  clear hu hv
  by_cases hl : a.length = b.length
  · have hl1 : a.length ≤ b.length := by omega
    have hl2 : b.length ≤ a.length := by omega
    have HLE := Lib.hid hl
    have hne : ((a.length : Int) != (b.length : Int)) = false := by simp [hl]
    clear hl
    go_enter Try.func15, Try.ntmps15
    go_wp2
    go_loopw [5] (fun i wr => ∃ k : Nat, k ≤ a.length ∧ i = .int .i64 k ∧ a.take k = b.take k ∧ Below w.heap.size w wr) (fun i _ => a.length - (intOf i).toNat)
    case atStart => exact ⟨0, by omega, rfl, rfl, Below.refl _ _⟩
    case round =>
      obtain ⟨k, hk, rfl, htk, hb⟩ := hrel
      have HT := Lib.hid htk
      clear htk
      by_cases hlt : k < a.length
      · have hlb : k < b.length := by omega
        obtain ⟨b1, o1, rfl, c1⟩ := hat k hlt
        obtain ⟨b2, o2, rfl, c2⟩ := hbt k hlb
        have d1 := (hb.cell (p := ⟨b1, o1 + k, none⟩) (World.block_lt_of_cell? w _ c1)).trans c1
        have d2 := (hb.cell (p := ⟨b2, o2 + k, none⟩) (World.block_lt_of_cell? w _ c2)).trans c2
        clear c1 c2
        have HS : Hid (a[k] = b[k] → a.take (k + 1) = b.take (k + 1)) := Lib.hid (take_eq_succ a b k hlt hlb HT.out)
        have HN : Hid (a[k] ≠ b[k] → a ≠ b) := Lib.hid (ne_of_at a b k hlt hlb)
        generalize a[k] = x at d1 HS HN
        generalize b[k] = y at d2 HS HN
        by_cases hxy : x = y
        · subst hxy
          have HS1 := Lib.hid (HS.out rfl)
          clear HS HN
          go_wp2
          go_quiet (fail)
          go_wp2
          go_roundw
          case rel => exact ⟨k + 1, by omega, by go_num, HS1.out, below_drewN hb _⟩
          case measure => simp [intOf]; omega
        · have HN1 := Lib.hid (HN.out hxy)
          have hne' : (x != y) = true := by simpa using hxy
          clear HS HN
          go_wp2
          go_quiet (fail)
          go_wp2
          go_ret
          exact ⟨ret_bool (by rw [decide_eq_false HN1.out]), below_drewN hb _⟩
      · have hke : k = a.length := by omega
        subst hke
        have HE : Hid (a = b) := Lib.hid (by have := HT.out; rwa [List.take_length, HLE.out, List.take_length] at this)
        go_wp2
        go_ret
        exact ⟨ret_bool (by rw [decide_eq_true HE.out]), hb⟩
  · have hne : ((a.length : Int) != (b.length : Int)) = true := by simp; omega
    have HN : Hid (a ≠ b) := Lib.hid (fun e => hl (by rw [e]))
    go_enter Try.func15, Try.ntmps15
    go_wp2
    go_ret
    exact ⟨ret_bool (by rw [decide_eq_false HN.out]), Below.refl _ _⟩
theorem eqWordsT (u v : Value) (a : List Int) (w : World) (hu : ShowU w u a) (hv : ShowU w v a) :
    Calls Try.prog 15 #[u, v] w fun e w' => e = .returned (.bool true) ∧ Below w.heap.size w w' := by
  refine (cEqWords u v a a w hu hv).mono ?_
  rintro e w' ⟨rfl, h⟩
  exact ⟨ret_bool (by simp), h⟩

/-- a number brought to be from 0 to below n -/
def bring (x : Int) (n : Nat) : Nat := if x.tmod n < 0 then (x.tmod n + n).toNat else (x.tmod n).toNat
theorem bring_lt (x : Int) (n : Nat) (h1 : 1 ≤ n) : bring x n < n := by
  have hl : x.tmod n < n := Int.tmod_lt_of_pos _ (by omega)
  unfold bring
  split <;> omega
set_option maxHeartbeats 1000000 in
theorem cBring (x : Int) (n : Nat) (w : World) (h1 : 1 ≤ n) (h2 : n ≤ 1000000) :
    Calls Try.prog 18 #[.int .i64 x, .int .i64 n] w fun e w' => e = .returned (.int .i64 (bring x n)) ∧ w' = w := by
  have hl : x.tmod n < n := Int.tmod_lt_of_pos _ (by omega)
  have hg : -(n : Int) < x.tmod n := by
    have := Int.tmod_lt_of_pos (-x) (b := (n : Int)) (by omega)
    rw [Int.neg_tmod] at this
    omega
  by_cases hx : 0 ≤ x
  · have h0 : 0 ≤ x % n := Int.emod_nonneg _ (by omega)
    have h3 : x % n < n := Int.emod_lt_of_pos _ (by omega)
    have HB : Hid ((bring x n : Int) = x % n) := Lib.hid (by
      unfold bring
      rw [Int.tmod_eq_emod_of_nonneg hx, if_neg (by omega), Int.toNat_of_nonneg h0])
    clear hl hg
    go_enter Try.func18, Try.ntmps18
    go_wp2
    go_ret
    exact ⟨(ret_int HB.out).symm, rfl⟩
  · by_cases h4 : x.tmod n < 0
    · have HB : Hid ((bring x n : Int) = x.tmod n + n) := Lib.hid (by
        unfold bring
        rw [if_pos h4, Int.toNat_of_nonneg (by omega)])
      go_enter Try.func18, Try.ntmps18
      go_wp2
      go_ret
      exact ⟨(ret_int HB.out).symm, rfl⟩
    · have HB : Hid ((bring x n : Int) = x.tmod n) := Lib.hid (by
        unfold bring
        rw [if_neg h4, Int.toNat_of_nonneg (by omega)])
      go_enter Try.func18, Try.ntmps18
      go_wp2
      go_ret
      exact ⟨(ret_int HB.out).symm, rfl⟩
end Go.Proofs.Ytkcogdojohlpcaa
