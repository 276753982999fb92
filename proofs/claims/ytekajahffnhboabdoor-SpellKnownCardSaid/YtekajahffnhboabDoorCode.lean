/-
  What the program's own Check, Runes, Fold, Cut, Same and Less answer, of every text that is not too great for a machine.
-/
import Derived.Test.YtekajahffnhboabDoorTab
import Derived.Test.YtekajahffnhboabDoorShelf
import Derived.BigCall
set_option linter.unusedVariables false
set_option linter.unusedSimpArgs false
namespace Go.Proofs.YtekajahffnhboabDoor
open Go Go.RowKit

theorem iter_new (w : World) (s : ByteArray) : (w.alloc (.stringIter s 0)).heap[w.heap.size]? = some (.stringIter s 0) := World.iter_heap w s 0

set_option maxHeartbeats 4000000 in
set_option maxRecDepth 100000 in
theorem cRunes (s : ByteArray) (w : World) (hs : s.size ≤ 35184372088832) :
    Calls Tryd.prog 12 #[.string s] w fun e w' => e = .returned (.int .i64 (sp.at' s 0).length) ∧ Below w.heap.size w w' := by
  have hal := sp.at_length s
  go_enter Tryd.func12, Tryd.ntmps12
  go_wp2
  go_loopw [3] (fun n wr => ∃ (pos k : Nat), wr.heap[w.heap.size]? = some (.stringIter s pos) ∧ Below w.heap.size w wr ∧ n = .int .i64 k ∧ k + (sp.at' s pos).length = (sp.at' s 0).length) (fun _ wr => s.size - wr.iterPos w.heap.size)
  case atStart => exact ⟨0, 0, iter_new w s, (Below.refl _ w).alloc (Nat.le_refl _) _, rfl, by omega⟩
  case round =>
    obtain ⟨pos, k, hit, hbw, rfl, hk⟩ := hrel
    have HK := Lib.hid hk
    have hkl : k ≤ s.size := by omega
    clear hk
    by_cases hp : pos < s.size
    · have hnx : ∀ ty, (Instr.next (.pointer (some ⟨w.heap.size, 0, none⟩)) true ty).run Tryd.prog wr = _ := fun ty => Lib.run_next_any_at wr w.heap.size s pos ty hit hp
      have hwd := sp.width_pos s pos
      have hit2 := Lib.iterAt_heap wr w.heap.size s pos (pos + (Utf8.decode s pos).2) hit
      have hbw2 := Lib.below_iterAt hbw (k := w.heap.size) (Nat.le_refl _) s (pos + (Utf8.decode s pos).2)
      have HS := Lib.hid (sp.at_step s pos hp)
      go_wp2
      go_roundw
      case rel =>
        refine ⟨pos + (Utf8.decode s pos).2, k + 1, hit2, hbw2, by go_num, ?_⟩
        have := HK.out
        rw [HS.out, List.length_cons] at this
        omega
      case measure =>
        simp only [World.iterPos, hit2, hit]
        omega
    · have hnx : ∀ ty, (Instr.next (.pointer (some ⟨w.heap.size, 0, none⟩)) true ty).run Tryd.prog wr = _ := fun ty => Lib.run_next_end_at wr w.heap.size s pos ty hit hp
      have he := sp.at_end s pos hp
      have HE := Lib.hid he
      clear he
      go_wp2
      go_ret
      have := HK.out
      rw [HE.out, List.length_nil] at this
      exact ⟨ret_int (by omega), hbw⟩

/-- Check's number. -/
def errOf (b : Bool) : Int := if b then 0 else 10

set_option maxHeartbeats 8000000 in
set_option maxRecDepth 100000 in
theorem cCheck (s : ByteArray) (w : World) (ht : Tab w) (hs : s.size ≤ 35184372088832) :
    Calls Tryd.prog 10 #[.string s] w fun e w' => e = .returned (.int .i64 (errOf (sp.chk 0 (sp.at' s 0)))) ∧ Below w.heap.size w w' := by
  go_enter Tryd.func10, Tryd.ntmps10
  go_wp2
  go_loopw [3] (fun n wr => ∃ (pos k : Nat), wr.heap[w.heap.size]? = some (.stringIter s pos) ∧ Below w.heap.size w wr ∧ n = .int .i64 k ∧ k ≤ 16 ∧ sp.chk k (sp.at' s pos) = sp.chk 0 (sp.at' s 0)) (fun _ wr => s.size - wr.iterPos w.heap.size)
  case atStart => exact ⟨0, 0, iter_new w s, (Below.refl _ w).alloc (Nat.le_refl _) _, rfl, by omega, rfl⟩
  case round =>
    obtain ⟨pos, k, hit, hbw, rfl, hk16, hk⟩ := hrel
    have HK := Lib.hid hk
    clear hk
    by_cases hp : pos < s.size
    · have hnx : ∀ ty, (Instr.next (.pointer (some ⟨w.heap.size, 0, none⟩)) true ty).run Tryd.prog wr = _ := fun ty => Lib.run_next_any_at wr w.heap.size s pos ty hit hp
      have hwd := sp.width_pos s pos
      have hhi := sp.decode_hi s pos
      have hit2 := Lib.iterAt_heap wr w.heap.size s pos (pos + (Utf8.decode s pos).2) hit
      have hbw2 := Lib.below_iterAt hbw (k := w.heap.size) (Nat.le_refl _) s (pos + (Utf8.decode s pos).2)
      have ht2 : Tab (wr.iterAt w.heap.size s (pos + (Utf8.decode s pos).2)) := ht.below (Nat.le_refl _) hbw2
      have HS := Lib.hid (sp.at_step s pos hp)
      by_cases h16 : k = 16
      · subst h16
        have HR : Hid (sp.chk 0 (sp.at' s 0) = false) := by
          refine Lib.hid ?_
          rw [← HK.out, HS.out]
          simp [sp.chk]
        go_wp2
        go_ret
        exact ⟨ret_int (by rw [HR.out]; rfl), hbw2⟩
      · by_cases hm : sp.may (Utf8.decode s pos).1 k = true
        · have HR : Hid (sp.chk (k + 1) (sp.at' s (pos + (Utf8.decode s pos).2)) = sp.chk 0 (sp.at' s 0)) := by
            refine Lib.hid ?_
            rw [← HK.out, HS.out]
            simp [sp.chk, h16, hm]
          have hne : ((k : Int) == 16) = false := by simp; omega
          go_wp2_with (go_at_call 23; refine (mayStand_any _ k _ ht2 (by omega) (by omega) hk16).mono ?_; rintro e W1 ⟨rfl, b1⟩)
          go_roundw
          case rel =>
            refine ⟨pos + (Utf8.decode s pos).2, k + 1, ?_, hbw2.trans (b1.mono (by rw [Lib.iterAt_size]; have := hbw.size; omega)), by go_num, by omega, HR.out⟩
            rw [b1.block _ (by rw [Lib.iterAt_size]; exact (Array.getElem?_eq_some_iff.1 hit).1)]
            exact hit2
          case measure =>
            have hit3 : W1.heap[w.heap.size]? = some (.stringIter s (pos + (Utf8.decode s pos).2)) := by
              rw [b1.block _ (by rw [Lib.iterAt_size]; exact (Array.getElem?_eq_some_iff.1 hit).1)]
              exact hit2
            simp only [World.iterPos, hit3, hit]
            omega
        · have hm' : sp.may (Utf8.decode s pos).1 k = false := by simpa using hm
          clear hm
          have HR : Hid (sp.chk 0 (sp.at' s 0) = false) := by
            refine Lib.hid ?_
            rw [← HK.out, HS.out]
            simp [sp.chk, h16, hm']
          have hne : ((k : Int) == 16) = false := by simp; omega
          go_wp2_with (go_at_call 23; refine (mayStand_any _ k _ ht2 (by omega) (by omega) hk16).mono ?_; rintro e W1 ⟨rfl, b1⟩)
          go_ret
          exact ⟨ret_int (by rw [HR.out]; rfl), hbw2.trans (b1.mono (by rw [Lib.iterAt_size]; have := hbw.size; omega))⟩
    · have hnx : ∀ ty, (Instr.next (.pointer (some ⟨w.heap.size, 0, none⟩)) true ty).run Tryd.prog wr = _ := fun ty => Lib.run_next_end_at wr w.heap.size s pos ty hit hp
      have HE := Lib.hid (sp.at_end s pos hp)
      by_cases h0 : k = 0
      · subst h0
        go_wp2
        go_ret
        exact ⟨ret_int (by rw [← HK.out, HE.out]; rfl), hbw⟩
      · have hne : ((k : Int) == 0) = false := by simp; omega
        go_wp2
        go_ret
        exact ⟨ret_int (by rw [← HK.out, HE.out]; simp [sp.chk, h0, errOf]), hbw⟩

theorem grown_of_below {W W' : World} (hb : Below W.heap.size W W') : W.grownBy W' none := ⟨hb.os, hb.tape, hb.output, hb.size, fun k hk _ => hb.block k hk⟩
theorem builder_below {T e : TypeId} {B b : Nat} {bs : List Value} {W W' : World} (h : Lib.IsBuilderF T e B b bs W) (hb : Below W.heap.size W W') : Lib.IsBuilderF T e B b bs W' := by
  have one : ∀ p, Lib.BuilderAtF T e B b p bs W → Lib.BuilderAtF T e B b p bs W' := fun p h => by
    have hlt := h.lt
    obtain ⟨hB, v, hbk, hown, hne⟩ := h
    refine ⟨hB, v, by rw [hb.block _ hlt]; exact hbk, hown.kept (grown_of_below hb) ?_, hne⟩
    by_cases hv : v.ownBlock = none
    · exact .inl hv
    · exact .inr hv
  exact h.elim (fun x => .inl (one _ x)) (fun x => .inr (one _ x))
theorem iter_below {W W' : World} {k : Nat} {s : ByteArray} {pos : Nat} (h : W.heap[k]? = some (.stringIter s pos)) (hb : Below W.heap.size W W') : W'.heap[k]? = some (.stringIter s pos) := by
  rw [hb.block _ (Array.getElem?_eq_some_iff.1 h).1]
  exact h

/-- what a byte's rune encodes to: at most four bytes -/
theorem encs (r : Int) : (Lib.encodeRune r).length ≤ 4 := (sp.encodeRune_length r).2

set_option maxHeartbeats 4000000 in
set_option maxRecDepth 1000000 in
theorem cFold (s : ByteArray) (w : World) (ht : Tab w) (hs : s.size ≤ 8796093022208) :
    Calls Tryd.prog 14 #[.string s] w fun e w' => e = .returned (.string ⟨(sp.foldB s.data.toList).toArray⟩) ∧ Below w.heap.size w w' := by
  go_enter Tryd.func14, Tryd.ntmps14
  go_wp2
  go_loopw [] (fun wr => ∃ (pos : Nat) (acc : List UInt8), Lib.IsBuilderF 40 5 w.heap.size w.heap.size (Lib.byteCells acc) wr ∧ wr.heap[w.heap.size + 1]? = some (.stringIter s pos) ∧ Below w.heap.size w wr ∧ acc ++ sp.enc (sp.folds (sp.at' s pos)) = sp.foldB s.data.toList ∧ acc.length ≤ 4 * pos) (fun wr => s.size - wr.iterPos (w.heap.size + 1))
  case atStart =>
    refine ⟨0, [], (Lib.IsBuilderF.of (Lib.fresh_isBuilder 40 5 w)).alloc _, ?_, ((Below.refl _ w).alloc (Nat.le_refl _) _).alloc (by simp) _, by rw [sp.at_zero]; rfl, by simp⟩
    have := World.iter_heap (w.alloc (.cells #[.pointer none, .slice none 0 0] 40)) s 0
    simpa using this
  case round =>
    obtain ⟨pos, acc, hI, hit, hbw, hacc, hal⟩ := hrel
    have HA := Lib.hid hacc
    clear hacc
    have hsz : w.heap.size + 1 < wr.heap.size := (Array.getElem?_eq_some_iff.1 hit).1
    by_cases hp : pos < s.size
    · have hnx : ∀ ty, (Instr.next (.pointer (some ⟨w.heap.size + 1, 0, none⟩)) true ty).run Tryd.prog wr = _ := fun ty => Lib.run_next_any_at wr (w.heap.size + 1) s pos ty hit hp
      have hwd := sp.width_pos s pos
      have hhi := sp.decode_hi s pos
      have hI2 := hI.iterAt hit (pos + (Utf8.decode s pos).2)
      have hit2 := Lib.iterAt_heap wr (w.heap.size + 1) s pos (pos + (Utf8.decode s pos).2) hit
      have hbw2 := Lib.below_iterAt hbw (k := w.heap.size + 1) (by omega) s (pos + (Utf8.decode s pos).2)
      have hsz2 : w.heap.size + 1 < (wr.iterAt (w.heap.size + 1) s (pos + (Utf8.decode s pos).2)).heap.size := by rw [Lib.iterAt_size]; omega
      have ht2 : Tab (wr.iterAt (w.heap.size + 1) s (pos + (Utf8.decode s pos).2)) := ht.below (Nat.le_refl _) hbw2
      have HS := Lib.hid (sp.at_step s pos hp)
      have hfb := fold_bounds (r := (Utf8.decode s pos).1) (by omega) (by omega)
      go_wp2_with (go_at_call 28; refine (lower_any _ _ ht2 (by omega) (by omega)).mono ?_; rintro e W0 ⟨rfl, b0⟩)
      have hI3 := builder_below hI2 b0
      have hit3 := iter_below hit2 b0
      have hz0 := b0.size
      have hbw3 : Below w.heap.size w W0 := hbw2.trans (b0.mono (by omega))
      go_wp2_with (go_at_call 27; refine (bWriteRune w.heap.size w.heap.size _ _ (by omega) (by omega) _ hI3 (by rw [Lib.byteCells_length]; omega) (by omega)).mono ?_)
      rintro e W1 ⟨rfl, h1, b1, k1⟩
      go_wp2
      go_roundw
      case rel =>
        have hl4 := encs (sp.fold (Utf8.decode s pos).1)
        refine ⟨pos + (Utf8.decode s pos).2, acc ++ Lib.encodeRune (sp.fold (Utf8.decode s pos).1), ?_, k1.iter hit3 (by omega), hbw3.trans b1, ?_, by simp; omega⟩
        · rw [Lib.byteCells_append, Lib.byteCells_encodeRune]; exact Or.inr h1
        · rw [← HA.out, HS.out]
          simp [sp.folds, sp.enc_cons]
      case measure =>
        simp only [World.iterPos, k1.iter hit3 (by omega), hit]
        omega
    · have hnx : ∀ ty, (Instr.next (.pointer (some ⟨w.heap.size + 1, 0, none⟩)) true ty).run Tryd.prog wr = _ := fun ty => Lib.run_next_end_at wr (w.heap.size + 1) s pos ty hit hp
      go_wp2_with (go_at_call 29; refine (bString w.heap.size w.heap.size acc _ hI (by omega)).mono ?_)
      rintro e W1 ⟨rfl, _, b1, _⟩
      go_wp2
      go_ret
      have := HA.out
      rw [sp.at_end s pos hp] at this
      have : acc = sp.foldB s.data.toList := by simpa [sp.folds, sp.enc_nil] using this
      subst this
      exact ⟨rfl, hbw.trans b1⟩

set_option maxHeartbeats 4000000 in
set_option maxRecDepth 1000000 in
theorem cCut (s : ByteArray) (n : Int) (w : World) (hs : s.size ≤ 8796093022208) (hn0 : -9223372036854775808 ≤ n) (hn1 : n ≤ 9223372036854775807) :
    Calls Tryd.prog 21 #[.string s, .int .i64 n] w fun e w' => e = .returned (.string ⟨(sp.cutB s.data.toList n).toArray⟩) ∧ Below w.heap.size w w' := by
  go_enter Tryd.func21, Tryd.ntmps21
  go_wp2
  go_loopw [6] (fun left wr => ∃ (pos : Nat) (acc : List UInt8) (m : Int), Lib.IsBuilderF 40 5 w.heap.size w.heap.size (Lib.byteCells acc) wr ∧ wr.heap[w.heap.size + 1]? = some (.stringIter s pos) ∧ Below w.heap.size w wr ∧ acc ++ sp.enc ((sp.at' s pos).take m.toNat) = sp.cutB s.data.toList n ∧ acc.length ≤ 4 * pos ∧ left = .int .i64 m ∧ -9223372036854775808 ≤ m ∧ m ≤ 9223372036854775807) (fun _ wr => s.size - wr.iterPos (w.heap.size + 1))
  case atStart =>
    refine ⟨0, [], n, (Lib.IsBuilderF.of (Lib.fresh_isBuilder 40 5 w)).alloc _, ?_, ((Below.refl _ w).alloc (Nat.le_refl _) _).alloc (by simp) _, by rw [sp.at_zero]; rfl, by simp, rfl, hn0, hn1⟩
    have := World.iter_heap (w.alloc (.cells #[.pointer none, .slice none 0 0] 40)) s 0
    simpa using this
  case round =>
    obtain ⟨pos, acc, m, hI, hit, hbw, hacc, hal, rfl, hm0, hm1⟩ := hrel
    have HA := Lib.hid hacc
    clear hacc
    have hsz : w.heap.size + 1 < wr.heap.size := (Array.getElem?_eq_some_iff.1 hit).1
    by_cases hp : pos < s.size
    · have hnx : ∀ ty, (Instr.next (.pointer (some ⟨w.heap.size + 1, 0, none⟩)) true ty).run Tryd.prog wr = _ := fun ty => Lib.run_next_any_at wr (w.heap.size + 1) s pos ty hit hp
      have hwd := sp.width_pos s pos
      have hhi := sp.decode_hi s pos
      have hI2 := hI.iterAt hit (pos + (Utf8.decode s pos).2)
      have hit2 := Lib.iterAt_heap wr (w.heap.size + 1) s pos (pos + (Utf8.decode s pos).2) hit
      have hbw2 := Lib.below_iterAt hbw (k := w.heap.size + 1) (by omega) s (pos + (Utf8.decode s pos).2)
      have hsz2 : w.heap.size + 1 < (wr.iterAt (w.heap.size + 1) s (pos + (Utf8.decode s pos).2)).heap.size := by rw [Lib.iterAt_size]; omega
      have HS := Lib.hid (sp.at_step s pos hp)
      by_cases hm : m < 1
      · go_wp2_with (go_at_call 29; refine (bString w.heap.size w.heap.size acc _ hI2 (by omega)).mono ?_)
        rintro e W1 ⟨rfl, _, b1, _⟩
        go_wp2
        go_ret
        have := HA.out
        have h0 : m.toNat = 0 := by omega
        rw [h0, List.take_zero, sp.enc_nil, List.append_nil] at this
        subst this
        exact ⟨rfl, hbw2.trans b1⟩
      · have hm' : 1 ≤ m := by omega
        clear hm
        go_wp2_with (go_at_call 27; refine (bWriteRune w.heap.size w.heap.size _ _ (by omega) (by omega) _ hI2 (by rw [Lib.byteCells_length]; omega) (by omega)).mono ?_)
        rintro e W1 ⟨rfl, h1, b1, k1⟩
        go_wp2
        go_roundw
        case rel =>
          have hl4 := encs ((Utf8.decode s pos).1)
          refine ⟨pos + (Utf8.decode s pos).2, acc ++ Lib.encodeRune ((Utf8.decode s pos).1), m - 1, ?_, k1.iter hit2 (by omega), hbw2.trans b1, ?_, by simp; omega, rfl, by omega, by omega⟩
          · rw [Lib.byteCells_append, Lib.byteCells_encodeRune]; exact Or.inr h1
          · rw [← HA.out, HS.out]
            have e1 : m.toNat = (m - 1).toNat + 1 := by omega
            rw [e1, List.take_succ_cons, sp.enc_cons, List.append_assoc]
        case measure =>
          simp only [World.iterPos, k1.iter hit2 (by omega), hit]
          omega
    · have hnx : ∀ ty, (Instr.next (.pointer (some ⟨w.heap.size + 1, 0, none⟩)) true ty).run Tryd.prog wr = _ := fun ty => Lib.run_next_end_at wr (w.heap.size + 1) s pos ty hit hp
      go_wp2_with (go_at_call 29; refine (bString w.heap.size w.heap.size acc _ hI (by omega)).mono ?_)
      rintro e W1 ⟨rfl, _, b1, _⟩
      go_wp2
      go_ret
      have := HA.out
      rw [sp.at_end s pos hp] at this
      have : acc = sp.cutB s.data.toList n := by simpa [sp.enc_nil] using this
      subst this
      exact ⟨rfl, hbw.trans b1⟩

/-- Are two texts folded alike? -/
def sameB (a b : List UInt8) : Bool := sp.foldB a == sp.foldB b
/-- Does one, folded, come first? -/
def lessB (a b : List UInt8) : Bool := Op.bytesLess (sp.foldB a) (sp.foldB b)
theorem toL (l : List UInt8) : (⟨l.toArray⟩ : ByteArray).toList = l := by rw [ByteArray.toList_eq]

set_option maxHeartbeats 1000000 in
theorem cSame (a b : ByteArray) (w : World) (ht : Tab w) (ha : a.size ≤ 8796093022208) (hb : b.size ≤ 8796093022208) :
    Calls Tryd.prog 17 #[.string a, .string b] w fun e w' => e = .returned (.bool (sameB a.data.toList b.data.toList)) ∧ Below w.heap.size w w' := by
  go_enter Tryd.func17, Tryd.ntmps17
  go_wp2_with fail
  refine (cFold a _ ht ha).mono ?_
  rintro e W1 ⟨rfl, b1⟩
  have hz1 := b1.size
  go_wp2_with fail
  refine (cFold b _ (ht.below (Nat.le_refl _) b1) hb).mono ?_
  rintro e W2 ⟨rfl, b2⟩
  go_wp2
  go_ret
  refine ⟨ret_bool ?_, b1.trans (b2.mono hz1)⟩
  simp only [toL, sameB]

set_option maxHeartbeats 1000000 in
theorem cLess (a b : ByteArray) (w : World) (ht : Tab w) (ha : a.size ≤ 8796093022208) (hb : b.size ≤ 8796093022208) :
    Calls Tryd.prog 19 #[.string a, .string b] w fun e w' => e = .returned (.bool (lessB a.data.toList b.data.toList)) ∧ Below w.heap.size w w' := by
  go_enter Tryd.func19, Tryd.ntmps19
  go_wp2_with fail
  refine (cFold a _ ht ha).mono ?_
  rintro e W1 ⟨rfl, b1⟩
  have hz1 := b1.size
  go_wp2_with fail
  refine (cFold b _ (ht.below (Nat.le_refl _) b1) hb).mono ?_
  rintro e W2 ⟨rfl, b2⟩
  go_wp2
  go_ret
  refine ⟨ret_bool ?_, b1.trans (b2.mono hz1)⟩
  simp only [toL, lessB]
end Go.Proofs.YtekajahffnhboabDoor
