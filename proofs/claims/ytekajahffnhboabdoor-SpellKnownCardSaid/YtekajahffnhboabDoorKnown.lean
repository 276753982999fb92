/-
  The closed statement SpellKnown: its walk. All runes up to U+0500 and a list of texts.
-/
import Derived.Test.YtekajahffnhboabDoorLaws
import Derived.Laws.Runes
import Derived.Deep.RegionHeld3
import Derived.Deep.Cut
import Derived.IntWalk
set_option linter.unusedVariables false
set_option linter.unusedSimpArgs false
namespace Go.Proofs.YtekajahffnhboabDoor.fnSpellKnown
open Go Go.Proofs.YtekajahffnhboabDoor Go.RowKit

theorem kNames (w0 : World) (s : ByteArray) (hs : s.size ≤ 1048576) (w : World) (h : St w0 w) : Calls Tryd.prog 4 #[.string s] w fun e w' => e = .returned (.bool true) ∧ St w0 w' :=
  (fnSpellNames.walk s w h.1 hs).mono fun _ _ ⟨he, hb⟩ => ⟨he, h.step hb⟩
theorem kFold (w0 : World) (s : ByteArray) (hs : s.size ≤ 1048576) (w : World) (h : St w0 w) : Calls Tryd.prog 5 #[.string s] w fun e w' => e = .returned (.bool true) ∧ St w0 w' :=
  (fnSpellFold.walk s w h.1 hs).mono fun _ _ ⟨he, hb⟩ => ⟨he, h.step hb⟩
theorem kPairs (w0 : World) (s t : ByteArray) (hs : s.size ≤ 1048576) (ht : t.size ≤ 1048576) (w : World) (h : St w0 w) : Calls Tryd.prog 6 #[.string s, .string t] w fun e w' => e = .returned (.bool true) ∧ St w0 w' :=
  (fnSpellPairs.walk s t w h.1 hs ht).mono fun _ _ ⟨he, hb⟩ => ⟨he, h.step hb⟩
theorem kCuts (w0 : World) (s : ByteArray) (n : Int) (hs : s.size ≤ 1048576) (hn0 : -1 ≤ n) (hn1 : n ≤ 19) (w : World) (h : St w0 w) : Calls Tryd.prog 7 #[.string s, .int .i64 n] w fun e w' => e = .returned (.bool true) ∧ St w0 w' :=
  (fnSpellCuts.walk s n w h.1 hs (by omega) (by omega)).mono fun _ _ ⟨he, hb⟩ => ⟨he, h.step hb⟩
theorem kCut (w0 : World) (s : ByteArray) (n : Int) (hs : s.size ≤ 1048576) (hn0 : -1 ≤ n) (hn1 : n ≤ 19) (w : World) (h : St w0 w) : Calls Tryd.prog 8 #[.string s, .int .i64 n] w fun e w' => e = .returned (.bool true) ∧ St w0 w' :=
  (fnSpellCut.walk s n w h.1 hs (by omega) (by omega)).mono fun _ _ ⟨he, hb⟩ => ⟨he, h.step hb⟩

theorem st_drewN {w0 w : World} (h : St w0 w) (n : Nat) : St w0 (w.drewN n) := ⟨h.1, h.2.1, below_drewN h.2.2 n⟩
theorem st_drew {w0 w : World} (h : St w0 w) : St w0 w.drew := ⟨h.1, h.2.1, h.2.2.drew⟩
theorem st_alloc {w0 w : World} (h : St w0 w) (o : Obj) : St w0 (w.alloc o) := h.step ((Below.refl _ w).alloc (Nat.le_refl _) o)
theorem st_cell {w0 w : World} (h : St w0 w) {p : Addr} (hp : p.block < w0.heap.size) : w.cell? p = w0.cell? p := h.2.2.cell hp

/-- The list of texts. -/
abbrev moreL : List ByteArray := [⟨#[255, 254]⟩, ⟨#[97, 195]⟩, ⟨#[237, 160, 128]⟩, ⟨#[240, 159, 152, 128]⟩, ⟨#[230, 151, 165, 230, 156, 172]⟩, ⟨#[97, 97, 97, 97, 97, 97, 97, 97, 97, 97, 97, 97, 97, 97, 97, 97]⟩, ⟨#[97, 97, 97, 97, 97, 97, 97, 97, 97, 97, 97, 97, 97, 97, 97, 97, 97]⟩, ⟨#[195, 164, 195, 182, 195, 188, 195, 164, 195, 182, 195, 188, 195, 164, 195, 182, 195, 188, 195, 164, 195, 182, 195, 188, 195, 164, 195, 182, 195, 188, 195, 164]⟩, ⟨#[195, 164, 195, 182, 195, 188, 195, 164, 195, 182, 195, 188, 195, 164, 195, 182, 195, 188, 195, 164, 195, 182, 195, 188, 195, 164, 195, 182, 195, 188, 195, 164, 195, 182]⟩, ⟨#[97, 0]⟩, ⟨#[45, 97]⟩, ⟨#[95, 97]⟩, ⟨#[97, 45, 95, 57]⟩]
abbrev moreV : Array Value := (moreL.map Value.string).toArray
theorem more_size : ∀ s ∈ moreL, s.size ≤ 1048576 := by
  intro s hs
  simp only [moreL, List.mem_cons, List.not_mem_nil, or_false] at hs
  rcases hs with rfl | rfl | rfl | rfl | rfl | rfl | rfl | rfl | rfl | rfl | rfl | rfl | rfl <;> exact of_decide_eq_true (by kernel_rfl)
theorem more_at (w : World) (j : Nat) (hj : j < 13) : ∃ s : ByteArray, s.size ≤ 1048576 ∧ (w.alloc (.cells moreV 9)).cell? ⟨w.heap.size, j, none⟩ = some (.string s) := by
  have hl : moreL.length = 13 := rfl
  refine ⟨moreL[j]'(by omega), more_size _ (List.getElem_mem _), ?_⟩
  rw [World.cell?_alloc_at _ _ _ _ rfl]
  simp only [moreV, List.getElem?_toArray, List.getElem?_map]
  rw [List.getElem?_eq_getElem (show j < moreL.length by omega)]
  rfl

/-- What the region's loads and calls need, at whatever world. -/
def Key (W1 : World) (g i j : Nat) (s t : ByteArray) (w : World) : Prop := w.cell? ⟨g, i, none⟩ = some (.string s) ∧ w.cell? ⟨g, j, none⟩ = some (.string t) ∧ St W1 w
theorem key {W1 w : World} {g i j : Nat} {s t : ByteArray} (h1 : Hid (∀ w, St W1 w → w.cell? ⟨g, i, none⟩ = some (.string s))) (h2 : Hid (∀ w, St W1 w → w.cell? ⟨g, j, none⟩ = some (.string t))) (h : St W1 w) :
    w.cell? ⟨g, i, none⟩ = some (.string s) ∧ w.cell? ⟨g, j, none⟩ = some (.string t) ∧ St W1 w := ⟨h1.out w h, h2.out w h, h⟩

set_option maxHeartbeats 4000000 in
set_option maxRecDepth 100000 in
theorem walk (W : World) (ht : Tab W) : Calls Tryd.prog 3 #[] W fun e w' => e = .returned (.bool true) ∧ Below W.heap.size W w' := by
  have h0 := St.start ht
  go_enter Tryd.func3, Tryd.ntmps3
  go_wp2
  go_loopw [1] (fun r wr => ∃ k : Nat, k ≤ 1280 ∧ r = .int .i32 k ∧ St W wr) (fun r _ => 1280 - (intOf r).toNat)
  case atStart => exact ⟨0, by omega, rfl, h0⟩
  case round =>
    obtain ⟨k, hk, rfl, hst⟩ := hrel
    clear h0
    by_cases hlt : k < 1280
    · go_upto_region 5 with (fail)
      have hz1 := encode_size_le (k : Int)
      generalize Utf8.encode (k : Int) = s1 at *
      go_wp2_with fail
      refine (kNames W s1 (by omega) _ hst).mono ?_
      rintro e w1 ⟨rfl, h1⟩
      clear hst
      go_wp2_with fail
      refine (kNames W _ (by rw [ByteArray.size_append]; exact (show 1 + s1.size ≤ 1048576 by omega)) _ h1).mono ?_
      rintro e w2 ⟨rfl, h2⟩
      clear h1
      go_wp2_with fail
      refine (kFold W s1 (by omega) _ h2).mono ?_
      rintro e w3 ⟨rfl, h3⟩
      clear h2
      go_wp2_with fail
      have hz2 := encode_size_le ((k : Int) + 32)
      generalize Utf8.encode ((k : Int) + 32) = s2 at *
      refine (kPairs W s1 s2 (by omega) (by omega) _ h3).mono ?_
      rintro e w4 ⟨rfl, h4⟩
      go_wp2
      go_roundw
      case rel => exact ⟨k + 1, by omega, by go_num, h4⟩
      case measure => simp [intOf]; omega
    · go_wp2
      change Code.wp _ _ _ _ (wr.alloc (.cells moreV 9))
      have hbase : St W (wr.alloc (.cells moreV 9)) := st_alloc hst _
      have hmore := more_at wr
      obtain ⟨W1, hW1⟩ : ∃ W1, W1 = wr.alloc (.cells moreV 9) := ⟨_, rfl⟩
      have hgs : wr.heap.size < W1.heap.size := by rw [hW1]; simp
      rw [← hW1] at hbase hmore ⊢
      obtain ⟨g, hg⟩ : ∃ g, wr.heap.size = g := ⟨_, rfl⟩
      rw [hg] at hmore hgs ⊢
      clear hW1 hst hk hlt hg
      have h1 : St W1 W1 := St.start hbase.1
      go_loopw [4] (fun iv w2 => ∃ i : Nat, i ≤ 13 ∧ iv = .int .i64 i ∧ St W1 w2) (fun iv _ => 13 - (intOf iv).toNat)
      case atStart => exact ⟨0, by omega, rfl, h1⟩
      case round =>
        obtain ⟨i, hi, rfl, h2⟩ := hrel
        clear h1
        by_cases hlt : i < 13
        · have hi0 : (0 : Int) ≤ (i : Int) := by omega
          have hi1 : (i : Int) < 13 := by omega
          obtain ⟨s, hsz, hc1⟩ := hmore i hlt
          have hcell : ∀ w, St W1 w → w.cell? ⟨g, i, none⟩ = some (.string s) := fun w h => (st_cell h hgs).trans hc1
          have HCELL := Lib.hid hcell
          have HMORE := Lib.hid hmore
          clear hcell hc1 hmore
          go_wp2
          go_loopw [5] (fun kv w3 => ∃ z : Int, -1 ≤ z ∧ z ≤ 19 ∧ kv = .int .i64 z ∧ St W1 w3) (fun kv _ => (19 - intOf kv).toNat)
          case atStart => exact ⟨-1, by omega, by omega, rfl, h2⟩
          case round =>
            obtain ⟨z, hz0, hz1, rfl, h3⟩ := hrel
            clear h2
            by_cases hzl : z < 19
            · have hci := HCELL.out _ h3
              go_wp2_with fail
              refine (kCuts W1 s z hsz hz0 hz1 _ h3).mono ?_
              rintro e w4 ⟨rfl, h4⟩
              have hci4 := HCELL.out _ h4
              clear hci h3
              go_wp2_with fail
              refine (kCut W1 s z hsz hz0 hz1 _ h4).mono ?_
              rintro e w5 ⟨rfl, h5⟩
              go_wp2
              go_roundw
              case rel =>
                exact ⟨z + 1, by omega, by omega, rfl, h5⟩
              case measure => simp [intOf]; omega
            · obtain ⟨j, hj, hjl⟩ : ∃ j : Nat, Nat.mod (Nat.succ i) 13 = j ∧ j < 13 := ⟨_, rfl, Nat.mod_lt _ (Nat.succ_pos 12)⟩
              obtain ⟨t, htz, hct⟩ := HMORE.out j hjl
              have HCT : Hid (∀ w, St W1 w → w.cell? ⟨g, j, none⟩ = some (.string t)) := Lib.hid (fun w h => (st_cell h hgs).trans hct)
              clear hct
              have e1 : IntKind.i64.wrap ((i : Int) + 1) = (i : Int) + 1 := IntWalk.i64_in _ (by omega)
              have e2 : ((i : Int) + 1).tmod 13 = (j : Int) := by have hj2 : (i + 1) % 13 = j := hj; rw [Int.tmod_eq_emod_of_nonneg (by omega)]; omega
              have hj0 : (0 : Int) ≤ (j : Int) := by omega
              have hj1 : (j : Int) < 13 := by omega
              clear hj
              go_wp2
              go_region_held3 (fun w' => w'.cell? ⟨g, i, none⟩ = some (.string s) ∧ w'.cell? ⟨g, j, none⟩ = some (.string t) ∧ St W1 w') (first | exact key HCELL HCT (by assumption) | exact key HCELL HCT (st_drew (by assumption)))
                (first
                  | (go_at_call 4; refine (kNames W1 s hsz _ ?_).mono ?_; exact (show _ ∧ _ ∧ St W1 _ from by assumption).2.2; rintro e w6 ⟨rfl, h6⟩)
                  | (go_at_call 5; refine (kFold W1 s hsz _ ?_).mono ?_; exact (show _ ∧ _ ∧ St W1 _ from by assumption).2.2; rintro e w6 ⟨rfl, h6⟩)
                  | (go_at_call 6; refine (kPairs W1 s t hsz htz _ ?_).mono ?_; exact (show _ ∧ _ ∧ St W1 _ from by assumption).2.2; rintro e w6 ⟨rfl, h6⟩))
              go_wp2
              go_roundw
              case rel => exact ⟨i + 1, by omega, by go_num, by assumption⟩
              case measure => simp [intOf]; omega
        · have hi13 : (13 : Int) ≤ (i : Int) := by omega
          go_wp2_with fail
          refine (works_any W1 _ h2).mono ?_
          rintro e w7 ⟨rfl, h7⟩
          go_wp2
          go_ret
          exact ⟨rfl, hbase.2.2.trans (h7.2.2.mono hbase.2.1)⟩
end Go.Proofs.YtekajahffnhboabDoor.fnSpellKnown
