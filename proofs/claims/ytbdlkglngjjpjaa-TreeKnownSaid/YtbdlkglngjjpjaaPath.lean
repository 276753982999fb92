/-
  The groups of a path, gone through by a range function.
-/
import Derived.Test.YtbdlkglngjjpjaaTv
import Derived.RangeFuncBox
import Derived.RangeFuncLeaves
import Derived.RangeFuncNested
import Derived.RangeFuncBound
import Derived.RangeFuncCalls
import Derived.Shelf.Abstract
import Derived.Shelf.RegionOpen
import Derived.OwnWalkIn
import Derived.TacticsInMore
import Derived.LoopNIn
import Derived.LoopIn
set_option linter.unusedVariables false
set_option linter.unusedSimpArgs false
namespace Go.Proofs.Ytbdlkglngjjpjaa
open Go Go.RowKit Go.Shelf

attribute [local go_sem] Oper.semAt_some

/-- a tree, and the box in which the range function has it -/
structure TB (w : World) (p : Option Addr) (Bt : Nat) (t : Tr) : Prop where
  tq : TQ w p t
  bx : w.heap[Bt]? = some (.cells #[.pointer p] 23 (0, 0))
section
variable {S : Nat → Prop} {w w' : World} {p : Option Addr} {Bt : Nat} {t : Tr}
theorem TB.kept {Ts : List TypeId} (h : TB w p Bt t) (hk : Kept S w w') (hS : ∀ k, S k → Typ w Ts k) (hT : 49 ∉ Ts ∧ 51 ∉ Ts ∧ 23 ∉ Ts) : TB w' p Bt t :=
  ⟨h.tq.kept hk hS ⟨hT.1, hT.2.1⟩, box_kept h.bx hk hS hT.2.2⟩
theorem TB.below (h : TB w p Bt t) (hb : Below w.heap.size w w') : TB w' p Bt t :=
  h.kept (S := fun _ => False) (Ts := []) (Kept.ofBelow hb) (fun _ e => e.elim) (by decide)
theorem TB.putObj {l : Nat} {o : Obj} (h : TB w p Bt t) (o' : Obj) (hl : w.heap[l]? = some o) (ho : o.isCells = false) : TB (w.putObj l o') p Bt t := by
  have key : ∀ {j : Nat} {c : Array Value} {T : TypeId}, w.heap[j]? = some (.cells c T (0, 0)) → (w.putObj l o').heap[j]? = some (.cells c T (0, 0)) := by
    intro j c T hj
    refine (World.putObj_heap_other ?_).trans hj
    rintro rfl
    rw [hl] at hj
    cases hj
    cases ho
  refine ⟨?_, key h.bx⟩
  rcases h.tq with ⟨B, g, cap, e, h1, h2⟩ | ⟨e, e1 | ⟨B, e1, h1⟩⟩
  · exact .inl ⟨B, g, cap, e, ⟨key h1.box, ownsRow_putObj h1.row o' hl ho⟩, h2⟩
  · exact .inr ⟨e, .inl e1⟩
  · exact .inr ⟨e, .inr ⟨B, e1, key h1⟩⟩
end
/-- what a round keeps -/
def KeepT (p : Option Addr) (Bt : Nat) (t : Tr) (W W' : World) : Prop := TB W p Bt t → TB W' p Bt t
theorem KeepT.trans {p : Option Addr} {Bt : Nat} {t : Tr} {A B C : World} (h : KeepT p Bt t A B) (k : KeepT p Bt t B C) : KeepT p Bt t A C := fun e => k (h e)
theorem KeepT.refl (p : Option Addr) (Bt : Nat) (t : Tr) (W : World) : KeepT p Bt t W W := fun e => e
theorem keepT_b {p : Option Addr} {Bt : Nat} {t : Tr} {w : World} (W : World) (l : Nat) (o o' : Obj) (hl : w.heap.size ≤ l) (h : W.heap[l]? = some o) (ho : o.isCells = false) (_ : o.isWalk = false) : KeepT p Bt t W (W.putObj l o') := fun e => e.putObj o' h ho
theorem path_split {t : Tr} (hu : ∀ g, 1 ≤ g → g ≤ t.n → t.up g < g) {pre l : List Nat} {k : Nat} (hk : k < t.n) (h : pre ++ path t (k + 1) = l) : (pre ++ [k + 1]) ++ path t (t.up (k + 1)) = l := by
  rw [path_yes' hu (Nat.succ_pos k) hk] at h
  rw [← h]
  simp

set_option maxHeartbeats 4000000 in
set_option maxRecDepth 100000 in
theorem path1_in (n : Nat) (hn : 2 ≤ n) (r Bg Bt : Nat) (p : Option Addr) (t : Tr) (x : Int) (J Jx : List Nat → World → Prop)
    (hY : ∀ pre (x : Nat) W, J pre W → pre.length < 17 → YieldAt Fence.wide (n - 1) Try.prog r #[.int .i64 (x : Int)] W fun e W' =>
      (e = .returned (.bool true) ∧ J (pre ++ [x]) W' ∧ KeepT p Bt t W W') ∨ (e = .returned (.bool false) ∧ Jx (pre ++ [x]) W'))
    (W : World) (hg : W.cell? ⟨Bg, 0, none⟩ = some (.int .i64 x)) (hT : TB W p Bt t) (h0 : J [] W) :
    CallsIn Fence.wide n Try.prog 39 #[.func (.yield r) #[] #[], .pointer (some ⟨Bg, 0, none⟩), .pointer (some ⟨Bt, 0, none⟩)] W fun e W' => (∃ v, e = .returned v) ∧
      ((∃ ys, ys = path t (nu t.n x) ∧ J ys W') ∨ (∃ pre, (∃ rest, pre ++ rest = path t (nu t.n x)) ∧ Jx pre W')) := by
  have hro : Fence.wide.round = none := rfl
  have hn1 : 1 ≤ n := by omega
  have HU := Lib.hid hT.tq.hu
  have HN := Lib.hid hT.tq.n16
  have HT0 := Lib.hid hT
  have HL : Hid (∀ l : List Nat, l = path t (nu t.n x) → l.length ≤ 16) := Lib.hid (fun l e => by
    have key : ∀ g, g ≤ t.n → (path t g).length ≤ g := by
      have : ∀ N g, g ≤ N → g ≤ t.n → (path t g).length ≤ g := by
        intro N
        induction N with
        | zero =>
          intro g h1 _
          obtain rfl : g = 0 := by omega
          exact Nat.le_refl _
        | succ N ih =>
          intro g h1 h2
          by_cases e : 1 ≤ g
          · rw [path_yes' HU.out e h2, List.length_cons]
            have h3 := HU.out g e h2
            have := ih _ (by omega) (by omega : t.up g ≤ t.n)
            omega
          · obtain rfl : g = 0 := by omega
            exact Nat.le_refl _
      exact fun g => this g g (Nat.le_refl _)
    rw [e]
    have h1 := key _ (nu_le t.n x)
    have h2 := nu_le t.n x
    have h3 := HN.out
    omega)
  have hbt := self_cell hT.bx 0 _ rfl
  clear hT
  refine callsIn_of_wp Try.func39 rfl trivial ?_ hro
  simp only [Try.ntmps39, List.size_toArray, List.length_cons, List.length_nil, Nat.reduceAdd, Nat.reduceSub, Array.replicate_succ, Array.replicate_zero, List.push_toArray, List.append_toArray, List.nil_append, List.cons_append]
  gi_wp2
  gi_loopw [4] (fun i wr => ∃ (y : Int) (pre : List Nat), i = .int .i64 y ∧ Hid (pre ++ path t (nu t.n y) = path t (nu t.n x)) ∧ J pre wr ∧ Hid (TB wr p Bt t))
    (fun i _ => nu t.n (intOf i))
  case atStart => exact ⟨x, [], rfl, Lib.hid rfl, h0, HT0⟩
  case round =>
    obtain ⟨y, pre, rfl, HP, hJs, HT⟩ := hrel
    clear h0 hbt HT0 hg
    have hbt := self_cell HT.out.bx 0 _ rfl
    rcases nu_cases t.n y with ⟨k, hk, rfl, hny⟩ | ⟨hx, hny⟩
    · have HP1 := Lib.hid (path_split HU.out hk (show pre ++ path t (k + 1) = path t (nu t.n x) from hny ▸ HP.out))
      have hlen : pre.length < 17 := by
        have h1 := HL.out _ HP.out
        rw [List.length_append] at h1
        omega
      have HNY := Lib.hid hny
      have HKN := Lib.hid hk
      have hyy := hY pre (k + 1) wr hJs hlen
      rw [show ((k + 1 : Nat) : Int) = (k : Int) + 1 by omega] at hyy
      obtain ⟨fn, tmps, assign, body, hy, hR⟩ := hyy
      clear hny hk
      gi_wp2_with fail
      refine ⟨trivial, ?_⟩
      refine (callsIn_wide.2 (cHasYes HT.out.tq k HKN.out)).mono ?_
      rintro e w1 ⟨rfl, rfl⟩
      gi_wp2
      refine hR.mono ?_
      rintro e W3 (⟨rfl, hJ3, hk3⟩ | ⟨rfl, hJx3⟩)
      · have HT3 := Lib.hid (hk3 HT.out)
        have hbt3 := self_cell HT3.out.bx 0 _ rfl
        clear hbt
        gi_wp2_with fail
        refine ⟨trivial, ?_⟩
        refine (callsIn_wide.2 (cParent HT3.out.tq _ _ (by rw [HNY.out]))).mono ?_
        rintro e w1 ⟨rfl, rfl⟩
        gi_wp2
        go_roundw
        case rel =>
          refine ⟨_, _, rfl, Lib.hid ?_, hJ3, HT3⟩
          rw [← HP1.out]
          congr 1
          by_cases e : t.up (k + 1) = 0
          · rw [e, nu_nat0]
          · have := HU.out (k + 1) (by omega) (by have := HKN.out; omega)
            rw [nu_yes (by have := HKN.out; omega)]
        case measure =>
          have h1 := HU.out (k + 1) (by omega) (by have := HKN.out; omega)
          have h2 := nu_nat_le t.n (t.up (k + 1))
          have h3 := HNY.out
          simp only [intOf]
          omega
      · gi_wp2
        refine bodyPost_ret (results_none rfl _ _ _) rfl ?_
        exact ⟨⟨_, rfl⟩, .inr ⟨_, ⟨_, HP1.out⟩, hJx3⟩⟩
    · have HE : Hid (pre = path t (nu t.n x)) := Lib.hid (by have := HP.out; rw [hny, path_zero, List.append_nil] at this; exact this)
      gi_wp2_with fail
      refine ⟨trivial, ?_⟩
      refine (callsIn_wide.2 (cHasNo HT.out.tq y hx)).mono ?_
      rintro e w1 ⟨rfl, rfl⟩
      gi_wp2
      go_end0
      exact ⟨⟨_, rfl⟩, .inl ⟨_, HE.out, hJs⟩⟩
set_option maxHeartbeats 1000000 in
theorem path_in (n : Nat) (p : Option Addr) (x : Int) (w : World) :
    CallsIn Fence.wide n Try.prog 37 #[.pointer p, .int .i64 x] w fun e w' => e = .returned (.func (.func 39) #[] #[.pointer (some ⟨w.heap.size + 1, 0, none⟩), .pointer (some ⟨w.heap.size, 0, none⟩)]) ∧ w' = (w.alloc (.cells #[.pointer p] 23)).alloc (.cells #[.int .i64 x] 3) := by
  refine callsIn_of_wp Try.func37 rfl trivial ?_ rfl
  simp only [Try.ntmps37, List.size_toArray, List.length_cons, List.length_nil, Nat.reduceAdd, Nat.reduceSub, Array.replicate_succ, Array.replicate_zero, List.push_toArray, List.append_toArray, List.nil_append, List.cons_append]
  gi_wp2
  go_ret
  exact ⟨rfl, rfl⟩
theorem path_stops (n : Nat) (hn : 2 ≤ n) (Bg Bt : Nat) (p : Option Addr) (t : Tr) (x : Int) (w : World) (hg : w.cell? ⟨Bg, 0, none⟩ = some (.int .i64 x)) (hT : TB w p Bt t) :
    SeqStopsK Fence.wide n Try.prog 39 #[.pointer (some ⟨Bg, 0, none⟩), .pointer (some ⟨Bt, 0, none⟩)] (fun x : Nat => #[Value.int .i64 (x : Int)]) (KeepT p Bt t) (fun ys => ys = path t (nu t.n x)) (fun pre => ∃ rest, pre ++ rest = path t (nu t.n x)) 17 w := fun r J Jx W hW hJ hJx hY h0 =>
  path1_in n hn r Bg Bt p t x J Jx hY W (cell_keep hW hg) (hT.below hW) h0
end Go.Proofs.Ytbdlkglngjjpjaa
