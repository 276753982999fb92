/-
  Tag, block, Alloc, Free of a Zone.
-/
import Derived.Test.YtlljomnpdgmifaaZE
set_option linter.unusedVariables false
set_option linter.unusedSimpArgs false
namespace Go.Proofs.Ytlljomnpdgmifaa
open Go Go.RowKit

theorem resTag : Try.f16.results = #[.cell 4 44, .tmp 5] := rfl
theorem res_Tag (w : World) (tmps : Array Value) (K : Nat) (a b c : Int) (q : Bool) (h2 : tmps[4]?.getD undef = .pointer (some ⟨K, 0, none⟩)) (h3 : tmps[5]?.getD undef = .bool q) (h : w.heap[K]? = some (.cells #[.int .i64 a, .int .i64 b, .int .i64 c] 44 (0, 0))) :
    (results Try.f16 tmps).run Try.prog w = .ok (.tuple #[.agg #[.int .i64 a, .int .i64 b, .int .i64 c], .bool q]) w := by
  obtain ⟨r0, r1, r2⟩ := self3 h
  simp [results, resTag, go_sem, h2, h3, r0, r1, r2]
section
variable {w w' w'' : World} {z n : Nat} {N N' N'' : Zn} {l l' : List Pg} {f f' : F} {t t' : Int → Option Pg}
set_option maxHeartbeats 2000000 in
theorem zTagOf (h : ZB w z N n l f t) {x a c d : Int} {q : Bool} (hw : wf64 x) (hr : LookIs t x a c d q) :
    Calls Try.prog 16 #[.pointer (some ⟨z, 0, none⟩), .int .i64 x] w fun e w' => e = .returned (.tuple #[.agg #[.int .i64 a, .int .i64 c, .int .i64 d], .bool q]) ∧ Below w.heap.size w w' := by
  have HZ := Lib.hid (h.below (below_one (Below.refl _ w) (.cells #[.int .i64 0, .int .i64 0, .int .i64 0] 44)))
  obtain ⟨c0, c1, c2, c3⟩ := HZ.out.cells
  have HL := Lib.hid (And.intro hw hr)
  clear h hw hr
  go_enter Try.func16, Try.ntmps16
  go_wp2_with fail
  refine (zIsNone HZ.out).mono ?_
  rintro e w' ⟨rfl, rfl⟩
  go_wp2_with (at_lookup; refine wpList_look rfl _ _ rfl (by rfl) HZ.out.tags (by rfl) HL.out.1 HL.out.2 ?_)
  refine bodyPost_ret (res_Tag _ _ w.heap.size a c d q rfl rfl ?_) rfl ⟨rfl, ?_⟩
  · exact heap_new _ _
  · exact below_one (Below.refl _ _) _
end
end Go.Proofs.Ytlljomnpdgmifaa
