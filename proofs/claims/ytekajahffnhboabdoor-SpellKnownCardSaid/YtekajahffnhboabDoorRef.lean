/-
  What the document's own answers (Runes, Check, Fold, Same, Less, Cut of the reference) are, and the small helpers of the statements: great, one.
-/
import Derived.Test.YtekajahffnhboabDoorCode
import Derived.OwnWalk
import Derived.Laws.OwnMore
import Derived.Laws.AppendOwn
import Derived.Deep.QuietTactic
import Derived.BigQuiet
import Derived.WalkSmall
set_option linter.unusedVariables false
set_option linter.unusedSimpArgs false
namespace Go.Proofs.YtekajahffnhboabDoor
open Go Go.RowKit

theorem infoI32 : (Tryd.prog.info? 21).map (fun i => (i.zero, i.size, i.bytes)) = some (some (.int .i32 0), 1, 4) := by kernel_rfl
/-- runes as cells -/
abbrev cells (rs : List Int) : List Value := rs.map (Value.int .i32)

theorem ownsRow_iterAt {w : World} {B : Nat} {e : TypeId} {size n k pos : Nat} {v : Value} {xs : List Value} {s : ByteArray} (h : w.ownsRow B e size v n xs) (hk : w.heap[k]? = some (.stringIter s pos)) (pos' : Nat) :
    (w.iterAt k s pos').ownsRow B e size v n xs := by
  refine ⟨h.1, ?_⟩
  rcases h.2 with hn | ⟨g, cap, cur, rfl, hb, hg, rest⟩
  · exact .inl hn
  · refine .inr ⟨g, cap, cur, rfl, hb, ?_, rest⟩
    rw [Lib.iterAt_other]
    · exact hg
    · rintro rfl
      rw [hk] at hg
      cases hg
theorem own_ne_iter {w : World} {B : Nat} {e : TypeId} {size n k pos : Nat} {v : Value} {xs : List Value} {s : ByteArray} (h : w.ownsRow B e size v n xs) (hk : w.heap[k]? = some (.stringIter s pos)) : some k ≠ v.ownBlock := by
  rcases h.2 with ⟨rfl, _⟩ | ⟨g, cap, cur, rfl, hb, hg, rest⟩
  · simp [Value.ownBlock]
  · intro e
    simp [Value.ownBlock] at e
    subst e
    rw [hk] at hg
    cases hg

set_option maxHeartbeats 4000000 in
set_option maxRecDepth 100000 in
theorem rRunes (s : ByteArray) (w : World) (hs : s.size ≤ 8796093022208) :
    Calls Tryd.prog 24 #[.string s] w fun e w' => ∃ v, e = .returned v ∧ w'.ownsRow w.heap.size 21 1 v (sp.at' s 0).length (cells (sp.at' s 0)) ∧ Below w.heap.size w w' := by
  obtain ⟨i0, hi, hz0, hz1, hz2⟩ := info_parts infoI32
  have hal := sp.at_length s
  go_enter Tryd.func24, Tryd.ntmps24
  go_wp2
  go_loopw [3] (fun out wr => ∃ (pos : Nat) (acc : List Int), wr.heap[w.heap.size]? = some (.stringIter s pos) ∧ Below w.heap.size w wr ∧ wr.ownsRow w.heap.size 21 1 out acc.length (cells acc) ∧ acc ++ sp.at' s pos = sp.at' s 0) (fun _ wr => s.size - wr.iterPos w.heap.size)
  case atStart => exact ⟨0, [], iter_new w s, (Below.refl _ w).alloc (Nat.le_refl _) _, World.ownsRow_nil _ _ _ _, rfl⟩
  case round =>
    obtain ⟨pos, acc, hit, hbw, hown, hacc⟩ := hrel
    rename_i out
    have hlen : acc.length + (sp.at' s pos).length = (sp.at' s 0).length := by rw [← hacc, List.length_append]
    have HA := Lib.hid hacc
    clear hacc
    by_cases hp : pos < s.size
    · have hnx : ∀ ty, (Instr.next (.pointer (some ⟨w.heap.size, 0, none⟩)) true ty).run Tryd.prog wr = _ := fun ty => Lib.run_next_any_at wr w.heap.size s pos ty hit hp
      have hwd := sp.width_pos s pos
      have hhi := sp.decode_hi s pos
      have hit2 := Lib.iterAt_heap wr w.heap.size s pos (pos + (Utf8.decode s pos).2) hit
      have hbw2 := Lib.below_iterAt hbw (k := w.heap.size) (Nat.le_refl _) s (pos + (Utf8.decode s pos).2)
      have hown2 := ownsRow_iterAt hown hit (pos + (Utf8.decode s pos).2)
      have hne := own_ne_iter hown2 hit2
      have hst := sp.at_step s pos hp
      have hlen2 : acc.length + 1 ≤ s.size := by rw [hst, List.length_cons] at hlen; omega
      have HS := Lib.hid hst
      have hK : w.heap.size < wr.heap.size := (Array.getElem?_eq_some_iff.1 hit).1
      clear hst hlen
      go_wp2_with (at_builtin; refine wpList_append_own _ rfl _ _ 33 rfl w.heap.size 21 i0 (.int .i32 0) 1 4 Tryd.underlying33 hi hz0 hz1 hz2 rfl (by decide) _ _ _ rfl (hown2.alloc _) ⟨(wr.iterAt w.heap.size s (pos + (Utf8.decode s pos).2)).heap.size, 0, none⟩ 1 1 [.int .i32 (Utf8.decode s pos).1] rfl rfl ?c1 ?c2 ?c3 ?c4 ?c5 ?_)
      case c1 =>
        intro j u hj
        match j, hj with
        | 0, hj => simp at hj; subst hj; simp [Addr.add]
      case c2 => intro u hu; simp at hu; subst hu; rfl
      case c3 => unfold maxLen; omega
      case c4 => omega
      case c5 => simp [Lib.iterAt_size]; omega
      intro v' w2 hown' hgrow _
      have hit3 : w2.heap[w.heap.size]? = some (.stringIter s (pos + (Utf8.decode s pos).2)) := by
        rw [hgrow.block _ (by simp [Lib.iterAt_size]; omega) hne, Below.heap_alloc _ _ _ (by rw [Lib.iterAt_size]; omega)]
        exact hit2
      have hbw3 : Below w.heap.size w w2 := (hbw2.alloc (by rw [Lib.iterAt_size]; omega) _).grown hgrow (by simp [Lib.iterAt_size]; omega) (fun k hk => (hown2.lt k hk).1)
      go_wp2
      go_roundw
      case rel =>
        refine ⟨pos + (Utf8.decode s pos).2, acc ++ [((Utf8.decode s pos).1 : Int)], hit3, hbw3, ?_, ?_⟩
        · simpa [cells] using hown'
        · rw [← HA.out, HS.out]
          simp
      case measure =>
        simp only [World.iterPos, hit3, hit]
        omega
    · have hnx : ∀ ty, (Instr.next (.pointer (some ⟨w.heap.size, 0, none⟩)) true ty).run Tryd.prog wr = _ := fun ty => Lib.run_next_end_at wr w.heap.size s pos ty hit hp
      have HE := Lib.hid (sp.at_end s pos hp)
      clear hlen
      go_wp2
      go_ret
      have e : acc = sp.at' s 0 := by
        have := HA.out
        rw [HE.out, List.append_nil] at this
        exact this
      subst e
      exact ⟨_, rfl, hown, hbw⟩
end Go.Proofs.YtekajahffnhboabDoor
