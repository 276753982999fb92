/-
  Pages that are near processors: what each call answers, and what they are in a world.
-/
import Derived.Test.YtlljomnpdgmifaaBMem
import Derived.WalkKit
import Derived.ProofKit
import Derived.OpenShut
import Derived.Below
import Derived.Outline
import Derived.Lib.Hide
import Derived.Laws.Rows
import Derived.WalkLawsBesides
import Derived.OwnWalk
import Derived.Laws.OwnMore
import Derived.Laws.AppendOwn
import Derived.Deep.QuietTactic
import Derived.BigQuiet
import Derived.WalkSmall
import Derived.BigCall
import Derived.Deep.RegionHeld3
import Derived.Deep.Slices
import Derived.Deep.OwnRows
import Derived.Deep.RegionHeldLaw
import Derived.Deep.RegionLaw
import Derived.Deep.AppendLies
import Derived.Maps.AppendAt
import Derived.Lib.SliceRun
import Derived.Laws.MakeOwn
set_option linter.unusedVariables false
set_option linter.unusedSimpArgs false
namespace Go.Proofs.Ytlljomnpdgmifaa
open Go Go.RowKit

theorem own_ne {w : World} {Bs j n k : Nat} {T T' : TypeId} {v : Value} {xs : List Value} {c : Array Value} {fr : Nat × Nat} (h : w.ownsRow Bs T k v n xs) (hb : w.heap[j]? = some (.cells c T' fr)) (hT : T ≠ T') : v.ownBlock ≠ some j := by
  rcases h.2 with ⟨rfl, _⟩ | ⟨g, cap, cur, rfl, _, hg, _⟩
  · simp [Value.ownBlock]
  · intro e
    obtain rfl : g = j := by simpa [Value.ownBlock] using e
    rw [hg] at hb
    cases hb
    exact hT rfl
section
variable {S T : Nat → Prop} {w w' w'' : World}
end



abbrev F := Nat → List Int
def nUpd (f : F) (c : Nat) (l : List Int) : F := fun i => if i = c then l else f i
theorem upd_same (f : F) (c : Nat) (l : List Int) : nUpd f c l c = l := if_pos rfl
theorem nUpd_other (f : F) {c i : Nat} (l : List Int) (h : i ≠ c) : nUpd f c l i = f i := if_neg h
def hasB (f : F) (n : Nat) (x : Int) : Bool := (List.range n).any fun i => decide (x ∈ f i)
theorem hasB_iff {f : F} {n : Nat} {x : Int} : hasB f n x = true ↔ ∃ i, i < n ∧ x ∈ f i := by simp [hasB]
theorem hasB_no {f : F} {n : Nat} {x : Int} : hasB f n x = false ↔ ∀ i, i < n → x ∉ f i := by
  rw [← Bool.not_eq_true, hasB_iff]
  constructor
  · intro h i hi hx; exact h ⟨i, hi, hx⟩
  · rintro h ⟨i, hi, hx⟩; exact h i hi hx
/-- no list is too long -/
def Fine (n lim : Nat) (f : F) : Prop := ∀ i, i < n → (f i).length ≤ lim
theorem Fine.upd {n lim c : Nat} {f : F} {l : List Int} (h : Fine n lim f) (hl : l.length ≤ lim) : Fine n lim (nUpd f c l) := by
  intro i hi
  by_cases e : i = c
  · subst e; rw [upd_same]; exact hl
  · rw [nUpd_other _ _ e]; exact h i hi
/-- what Put answers, and the lists behind it -/
inductive PutIs (n lim : Nat) (f : F) : Int → Int → List Int → Int → F → Prop
  | range (cpu page : Int) : ¬ ((0 ≤ cpu ∧ cpu < n) ∧ 0 ≤ page ∧ page < 1024) → PutIs n lim f cpu page [] 9 f
  | block (c : Nat) (page : Int) : c < n → 0 ≤ page → page < 1024 → hasB f n page = true → PutIs n lim f c page [] 60 f
  | ok (c : Nat) (page : Int) : c < n → 0 ≤ page → page < 1024 → hasB f n page = false → (f c).length + 1 ≤ lim → PutIs n lim f c page [] 0 (nUpd f c (f c ++ [page]))
  | cut (c : Nat) (page : Int) (k : Nat) : c < n → 0 ≤ page → page < 1024 → hasB f n page = false → lim < (f c).length + 1 → k = ((f c).length + 1 + 1) / 2 → PutIs n lim f c page ((f c ++ [page]).take k) 0 (nUpd f c ((f c ++ [page]).drop k))
theorem put_is (n lim : Nat) (f : F) (cpu page : Int) : ∃ out e f', PutIs n lim f cpu page out e f' := by
  by_cases h : (0 ≤ cpu ∧ cpu < n) ∧ 0 ≤ page ∧ page < 1024
  · obtain ⟨c, rfl⟩ : ∃ c : Nat, cpu = c := ⟨cpu.toNat, by have := h.1.1; omega⟩
    cases hb : hasB f n page with
    | true => exact ⟨_, _, _, .block c page (by omega) h.2.1 h.2.2 hb⟩
    | false =>
      by_cases hl : (f c).length + 1 ≤ lim
      · exact ⟨_, _, _, .ok c page (by omega) h.2.1 h.2.2 hb hl⟩
      · exact ⟨_, _, _, .cut c page _ (by omega) h.2.1 h.2.2 hb (by omega) rfl⟩
  · exact ⟨_, _, _, .range cpu page h⟩
theorem PutIs.fine {n lim : Nat} {f f' : F} {cpu page e : Int} {out : List Int} (h : PutIs n lim f cpu page out e f') (hf : Fine n lim f) : Fine n lim f' := by
  cases h with
  | range _ _ _ => exact hf
  | block _ _ _ _ _ _ => exact hf
  | ok c page h1 h2 h3 h4 h5 => exact hf.upd (by simpa using h5)
  | cut c page k h1 h2 h3 h4 h5 h6 => exact hf.upd (by have := hf c h1; simp; omega)
theorem PutIs.out {n lim : Nat} {f f' : F} {cpu page e : Int} {out : List Int} (h : PutIs n lim f cpu page out e f') (hf : Fine n lim f) : out.length ≤ lim + 1 := by
  cases h with
  | range _ _ _ => simp
  | block _ _ _ _ _ _ => simp
  | ok c page h1 h2 h3 h4 h5 => simp
  | cut c page k h1 h2 h3 h4 h5 h6 => have := hf c h1; simp; omega
/-- what Take answers -/
inductive TakeIs (n : Nat) (f : F) : Int → Int → Bool → F → Prop
  | no (cpu : Int) : ¬ (0 ≤ cpu ∧ cpu < n) → TakeIs n f cpu 0 false f
  | none (c : Nat) : c < n → f c = [] → TakeIs n f c 0 false f
  | yes (c : Nat) (l : List Int) (x : Int) : c < n → f c = l ++ [x] → TakeIs n f c x true (nUpd f c l)
theorem take_is (n : Nat) (f : F) (cpu : Int) : ∃ x q f', TakeIs n f cpu x q f' := by
  by_cases h : 0 ≤ cpu ∧ cpu < n
  · obtain ⟨c, rfl⟩ : ∃ c : Nat, cpu = c := ⟨cpu.toNat, by omega⟩
    rcases List.eq_nil_or_concat (f c) with e | ⟨l, x, e⟩
    · exact ⟨_, _, _, .none c (by omega) e⟩
    · exact ⟨_, _, _, .yes c l x (by omega) (by rw [e, List.concat_eq_append])⟩
  · exact ⟨_, _, _, .no cpu h⟩
theorem TakeIs.fine {n lim : Nat} {f f' : F} {cpu x : Int} {q : Bool} (h : TakeIs n f cpu x q f') (hf : Fine n lim f) : Fine n lim f' := by
  cases h with
  | no _ _ => exact hf
  | none _ _ _ => exact hf
  | yes c l x h1 h2 => exact hf.upd (by have := hf c h1; rw [h2] at this; simp at this; omega)
/-- what Drain answers -/
inductive DrainIs (n : Nat) (f : F) : Int → List Int → F → Prop
  | no (cpu : Int) : ¬ (0 ≤ cpu ∧ cpu < n) → DrainIs n f cpu [] f
  | yes (c : Nat) : c < n → DrainIs n f c (f c) (nUpd f c [])
theorem drain_is (n : Nat) (f : F) (cpu : Int) : ∃ l f', DrainIs n f cpu l f' := by
  by_cases h : 0 ≤ cpu ∧ cpu < n
  · obtain ⟨c, rfl⟩ : ∃ c : Nat, cpu = c := ⟨cpu.toNat, by omega⟩
    exact ⟨_, _, .yes c (by omega)⟩
  · exact ⟨_, _, .no cpu h⟩
theorem DrainIs.fine {n lim : Nat} {f f' : F} {cpu : Int} {l : List Int} (h : DrainIs n f cpu l f') (hf : Fine n lim f) : Fine n lim f' := by
  cases h with
  | no _ _ => exact hf
  | yes c h1 => exact hf.upd (by simp)
theorem DrainIs.out {n lim : Nat} {f f' : F} {cpu : Int} {l : List Int} (h : DrainIs n f cpu l f') (hf : Fine n lim f) : l.length ≤ lim := by
  cases h with
  | no _ _ => simp
  | yes c h1 => exact hf c h1
/-- what List answers -/
def listOf (f : F) (n : Nat) (cpu : Int) : List Int := if 0 ≤ cpu ∧ cpu < n then f cpu.toNat else []
theorem listOf_yes (f : F) {n c : Nat} (h : c < n) : listOf f n c = f c := by
  unfold listOf
  rw [if_pos (by omega), Int.toNat_natCast]
theorem listOf_no (f : F) {n : Nat} {cpu : Int} (h : ¬ (0 ≤ cpu ∧ cpu < n)) : listOf f n cpu = [] := if_neg h
theorem listOf_len {f : F} {n lim : Nat} (h : Fine n lim f) (cpu : Int) : (listOf f n cpu).length ≤ lim := by
  unfold listOf
  split
  · exact h _ (by omega)
  · simp

/-! ### in a world -/
def updV (vs : Nat → Value) (c : Nat) (v : Value) : Nat → Value := fun j => if j = c then v else vs j
theorem updV_same (vs : Nat → Value) (c : Nat) (v : Value) : updV vs c v c = v := if_pos rfl
theorem updV_other (vs : Nat → Value) {c i : Nat} (v : Value) (h : i ≠ c) : updV vs c v i = vs i := if_neg h
/-- the blocks that they lie in -/
def Own (n B g : Nat) (vs : Nat → Value) (k : Nat) : Prop := k = B ∨ k = g ∨ ∃ i, i < n ∧ (vs i).ownBlock = some k
structure NearG (w : World) (T : TypeId) (B g : Nat) (vs : Nat → Value) (n lim : Nat) (f : F) : Prop where
  box : w.heap[B]? = some (.cells #[.slice (some ⟨g, 0, none⟩) n n, .int .i64 lim] T (0, 0))
  tab : w.rowIs g 73 n vs
  row : ∀ i, i < n → w.ownsRow 0 3 1 (vs i) (f i).length (nms (f i))
  apart : ∀ i j, i < n → j < n → i ≠ j → ∀ k, (vs i).ownBlock = some k → (vs j).ownBlock ≠ some k
  hT : 3 ≠ T ∧ 73 ≠ T
  n1 : 1 ≤ n ∧ n ≤ 8
  lim64 : lim ≤ 64
  len : ∀ i, i < n → (f i).length ≤ 65
/-- what a call may change, and where they lie behind it -/
def Goes (w w' : World) (n B g : Nat) (vs vs' : Nat → Value) : Prop := Kept (Own n B g vs) w w' ∧ ∀ k, Own n B g vs' k → Own n B g vs k ∨ w.heap.size ≤ k
/-- a list that was answered: where it lies -/
def Res (w : World) (v : Value) (l : List Int) (A : Nat → Prop) : Prop :=
  (v = .slice none 0 0 ∧ l = []) ∨ ∃ r cap cur, v = .slice (some ⟨r, 0, none⟩) l.length cap ∧ l.length ≤ cap ∧ cap ≤ maxLen ∧ A r ∧ w.heap[r]? = some (.cells cur 3 (0, 0)) ∧ ∀ i, i < l.length → cur[i]? = some (.int .i64 (pk l i))
theorem nms_at {l : List Int} {i : Nat} (h : i < l.length) : (nms l)[i]? = some (.int .i64 (pk l i)) := by
  rw [← pk_at l i h]
  simp [nms, h]
section
variable {w w' : World} {T : TypeId} {B g n lim : Nat} {vs : Nat → Value} {f : F}
theorem Res.nil (w : World) (A : Nat → Prop) : Res w (.slice none 0 0) [] A := .inl ⟨rfl, rfl⟩
theorem Res.shows {v : Value} {l : List Int} {A : Nat → Prop} (h : Res w v l A) : ShowI w v l := by
  rcases h with ⟨rfl, rfl⟩ | ⟨r, cap, cur, rfl, h1, h2, _, hb, hc⟩
  · exact ShowI.nil w
  · refine ⟨by simp, _, cap, rfl, ⟨h1, h2⟩, fun _ => ⟨r, 0, rfl, fun j hj => ?_⟩⟩
    have hj' : j < l.length := by omega
    rw [Nat.zero_add, self_cell hb j _ (hc j hj'), nms_at hj']
theorem Res.mono {v : Value} {l : List Int} {A C : Nat → Prop} (h : Res w v l A) (hA : ∀ k, A k → C k) : Res w v l C := by
  rcases h with h | ⟨r, cap, cur, h0, h1, h2, h3, hb, hc⟩
  · exact .inl h
  · exact .inr ⟨r, cap, cur, h0, h1, h2, hA r h3, hb, hc⟩
theorem Res.kept {S : Nat → Prop} {v : Value} {l : List Int} {A : Nat → Prop} (h : Res w v l A) (hk : Kept S w w') (hA : ∀ k, A k → ¬ S k) : Res w' v l A := by
  rcases h with h | ⟨r, cap, cur, h0, h1, h2, h3, hb, hc⟩
  · exact .inl h
  · exact .inr ⟨r, cap, cur, h0, h1, h2, h3, (hk.block r (lt_of_block hb) (hA r h3)).trans hb, hc⟩
theorem Res.below {v : Value} {l : List Int} {A : Nat → Prop} (h : Res w v l A) (hb : Below w.heap.size w w') : Res w' v l A := h.kept (S := fun _ => False) (Kept.ofBelow hb) (fun _ _ h => h)
/-- it lies in the call's memory -/
theorem Res.and_lt {v : Value} {l : List Int} {A : Nat → Prop} (h : Res w v l A) : Res w v l (fun k => A k ∧ k < w.heap.size) := by
  rcases h with h | ⟨r, cap, cur, h0, h1, h2, h3, hb, hc⟩
  · exact .inl h
  · exact .inr ⟨r, cap, cur, h0, h1, h2, ⟨h3, lt_of_block hb⟩, hb, hc⟩
theorem Res.ofOwn {b : Nat} {v : Value} {l : List Int} (h : w.ownsRow b 3 1 v l.length (nms l)) : Res w v l (fun k => v.ownBlock = some k) := by
  rcases h.2 with ⟨rfl, h0⟩ | ⟨r, cap, cur, rfl, _, hb, h1, h2, hs, ht⟩
  · exact .inl ⟨rfl, List.length_eq_zero_iff.1 h0⟩
  · refine .inr ⟨r, cap, cur, rfl, h1, h2, rfl, hb, fun i hi => ?_⟩
    rw [← nms_at hi, ← ht, List.getElem?_take, if_pos (by omega)]
    simp
/-- the first m of a row of one's own -/
theorem own_cut {b m k cap cap' : Nat} {a : Option Addr} {l : List Int} (h : w.ownsRow b 3 1 (.slice a k cap) l.length (nms l)) (hm : m ≤ l.length) (hc : a ≠ none) : w.ownsRow b 3 1 (.slice a m cap) m (nms (l.take m)) := by
  rcases h.2 with ⟨e, _⟩ | ⟨r, c, cur, e, hb, hg, h1, h2, hs, ht⟩
  · cases e; exact absurd rfl hc
  · cases e
    refine ⟨by simp; omega, .inr ⟨r, cap, cur, rfl, hb, hg, by omega, h2, hs, ?_⟩⟩
    have : (nms l).take m = nms (l.take m) := by simp [nms, List.map_take]
    rw [← this, ← ht, List.take_take]
    congr 1
    omega
theorem Res.cut {b m cap : Nat} {a : Option Addr} {k : Nat} {l : List Int} (h : w.ownsRow b 3 1 (.slice a k cap) l.length (nms l)) (hm : m ≤ l.length) (hc : a ≠ none) : Res w (.slice a m m) (l.take m) (fun j => (Value.slice a k cap).ownBlock = some j) := by
  have hl : (l.take m).length = m := by simp; omega
  have hr := Res.ofOwn (l := l.take m) (by rw [hl]; exact own_cut (cap' := cap) h hm hc)
  unfold Res at hr ⊢
  rw [hl] at hr ⊢
  rcases hr with ⟨e, _⟩ | ⟨r, c, cur, e, h1, h2, h3, hb, ht⟩
  · cases e; exact absurd rfl hc
  · cases e
    exact .inr ⟨r, m, cur, rfl, Nat.le_refl _, by omega, rfl, hb, ht⟩
theorem NearG.lt (h : NearG w T B g vs n lim f) : B < w.heap.size ∧ g < w.heap.size := ⟨lt_of_block h.box, h.tab.lt⟩
theorem NearG.self (h : NearG w T B g vs n lim f) : w.cell? ⟨B, 0, none⟩ = some (.slice (some ⟨g, 0, none⟩) n n) ∧ w.cell? ⟨B, 1, none⟩ = some (.int .i64 lim) := ⟨self_cell h.box 0 _ rfl, self_cell h.box 1 _ rfl⟩
theorem NearG.ownB (h : NearG w T B g vs n lim f) {i : Nat} (hi : i < n) : (vs i).ownBlock ≠ some B := own_ne (h.row i hi) h.box h.hT.1
theorem NearG.ownG (h : NearG w T B g vs n lim f) {i : Nat} (hi : i < n) : (vs i).ownBlock ≠ some g := by
  obtain ⟨c, hb, _⟩ := h.tab
  exact own_ne (h.row i hi) hb (by decide)
theorem NearG.ne (h : NearG w T B g vs n lim f) : B ≠ g := by
  rintro rfl
  obtain ⟨c, hb, _⟩ := h.tab
  rw [h.box] at hb
  have := h.hT.2
  cases hb
  exact this rfl
theorem NearG.own_lt (h : NearG w T B g vs n lim f) {k : Nat} (hk : Own n B g vs k) : k < w.heap.size := by
  rcases hk with rfl | rfl | ⟨i, hi, e⟩
  · exact h.lt.1
  · exact h.lt.2
  · exact ((h.row i hi).lt k e).2
theorem grown_kept {S : Nat → Prop} (h : Kept S w w') {k : Nat} (hk : ∀ j, S j → j = k) : w.grownBy w' (some k) := ⟨h.os, h.tape, h.output, h.size, fun j h1 h2 => h.block j h1 (fun e => h2 (by rw [hk j e]))⟩
theorem own_kept {S : Nat → Prop} {b m k : Nat} {t : TypeId} {v : Value} {xs : List Value} (h : w.ownsRow b t k v m xs) (hk : Kept S w w') (hv : ∀ j, v.ownBlock = some j → ¬ S j) : w'.ownsRow b t k v m xs := by
  refine ⟨h.1, ?_⟩
  rcases h.2 with e | ⟨r, c, cur, rfl, hb, hg, h1⟩
  · exact .inl e
  · exact .inr ⟨r, c, cur, rfl, hb, (hk.block r (lt_of_block hg) (hv r rfl)).trans hg, h1⟩
theorem NearG.kept {S : Nat → Prop} (h : NearG w T B g vs n lim f) (hk : Kept S w w') (hS : ∀ k, Own n B g vs k → ¬ S k) : NearG w' T B g vs n lim f :=
  ⟨(hk.block B h.lt.1 (hS B (.inl rfl))).trans h.box, row_kept h.tab hk (hS g (.inr (.inl rfl))), fun i hi => own_kept (h.row i hi) hk fun j e => hS j (.inr (.inr ⟨i, hi, e⟩)), h.apart, h.hT, h.n1, h.lim64, h.len⟩
theorem NearG.below (h : NearG w T B g vs n lim f) (hb : Below w.heap.size w w') : NearG w' T B g vs n lim f := h.kept (S := fun _ => False) (Kept.ofBelow hb) (fun _ _ h => h)
theorem Goes.of_below (hb : Below w.heap.size w w') : Goes w w' n B g vs vs := ⟨Kept.ofBelow hb, fun k h => .inl h⟩
theorem Goes.trans {w'' : World} {vs' vs'' : Nat → Value} (h : Goes w w' n B g vs vs') (k : Goes w' w'' n B g vs' vs'') : Goes w w'' n B g vs vs'' := by
  refine ⟨⟨k.1.os.trans h.1.os, k.1.tape.trans h.1.tape, k.1.output.trans h.1.output, Nat.le_trans h.1.size k.1.size, fun i hi hn => ?_⟩, fun i hi => ?_⟩
  · refine (k.1.block i (Nat.lt_of_lt_of_le hi h.1.size) (fun e => ?_)).trans (h.1.block i hi hn)
    rcases h.2 i e with h1 | h1
    · exact hn h1
    · omega
  · rcases k.2 i hi with h1 | h1
    · exact h.2 i h1
    · exact .inr (Nat.le_trans h.1.size h1)
/-- a list is put in another's place -/
theorem NearG.write {S : Nat → Prop} {c : Nat} {v' : Value} {l : List Int} (h : NearG w T B g vs n lim f) (hk : Kept S w w') (hS : ∀ k, S k → (vs c).ownBlock = some k) (hc : c < n) (hown : w'.ownsRow 0 3 1 v' l.length (nms l)) (hl : l.length ≤ 65)
    (hv : ∀ k, v'.ownBlock = some k → (vs c).ownBlock = some k ∨ w.heap.size ≤ k) : NearG (w'.setCell ⟨g, c, none⟩ v') T B g (updV vs c v') n lim (nUpd f c l) ∧ Goes w (w'.setCell ⟨g, c, none⟩ v') n B g vs (updV vs c v') := by
  have hnB : ¬ S B := fun e => h.ownB hc (hS _ e)
  have hnG : ¬ S g := fun e => h.ownG hc (hS _ e)
  have ht : w'.rowIs g 73 n vs := row_kept h.tab hk hnG
  have hset : Kept (· = g) w' (w'.setCell ⟨g, c, none⟩ v') := Kept.setCell (S := (· = g)) (p := ⟨g, c, none⟩) (Kept.refl _ w') rfl v'
  have hvg : v'.ownBlock ≠ some g := by
    obtain ⟨cc, hb, _⟩ := ht
    exact own_ne hown hb (by decide)
  refine ⟨⟨?_, ht.set c v', fun i hi => ?_, fun i j hi hj hij k e1 e2 => ?_, h.hT, h.n1, h.lim64, fun i hi => ?_⟩, ?_, fun k e => ?_⟩
  · exact (hset.block B (Nat.lt_of_lt_of_le h.lt.1 hk.size) h.ne).trans ((hk.block B h.lt.1 hnB).trans h.box)
  · by_cases e : i = c
    · subst e
      rw [updV_same, upd_same]
      exact own_kept hown hset (fun j e e2 => hvg (by rw [e, e2]))
    · rw [updV_other _ _ e, nUpd_other _ _ e]
      refine own_kept (own_kept (h.row i hi) hk (fun j e1 e2 => ?_)) hset (fun j e1 e2 => ?_)
      · exact h.apart i c hi hc e j e1 (hS j e2)
      · exact h.ownG hi (by rw [e1, e2])
  · by_cases ei : i = c
    · subst ei
      rw [updV_same] at e1
      rw [updV_other _ _ (fun e => hij e.symm)] at e2
      rcases hv k e1 with e3 | e3
      · exact h.apart i j hi hj hij k e3 e2
      · have := ((h.row j hj).lt k e2).2
        omega
    · rw [updV_other _ _ ei] at e1
      by_cases ej : j = c
      · subst ej
        rw [updV_same] at e2
        rcases hv k e2 with e3 | e3
        · exact h.apart i j hi hj hij k e1 e3
        · have := ((h.row i hi).lt k e1).2
          omega
      · rw [updV_other _ _ ej] at e2
        exact h.apart i j hi hj hij k e1 e2
  · by_cases e : i = c
    · subst e; rw [upd_same]; exact hl
    · rw [nUpd_other _ _ e]; exact h.len i hi
  · exact (hk.mono (fun k e => .inr (.inr ⟨c, hc, hS k e⟩))).trans (hset.mono (fun k e => .inr (.inl e)))
  · rcases e with e | e | ⟨i, hi, e⟩
    · exact .inl (.inl e)
    · exact .inl (.inr (.inl e))
    · by_cases ei : i = c
      · subst ei
        rw [updV_same] at e
        rcases hv k e with e3 | e3
        · exact .inl (.inr (.inr ⟨i, hi, e3⟩))
        · exact .inr e3
      · rw [updV_other _ _ ei] at e
        exact .inl (.inr (.inr ⟨i, hi, e⟩))
/-- a list's old block is nobody's once another is in its place -/
theorem NearG.freed {c k : Nat} {v' : Value} (h : NearG w T B g vs n lim f) (hc : c < n) (hk : (vs c).ownBlock = some k) (hv : v'.ownBlock ≠ some k) : ¬ Own n B g (updV vs c v') k := by
  rintro (e | e | ⟨i, hi, e⟩)
  · exact h.ownB hc (by rw [hk, e])
  · exact h.ownG hc (by rw [hk, e])
  · by_cases ei : i = c
    · subst ei
      rw [updV_same] at e
      exact hv e
    · rw [updV_other _ _ ei] at e
      exact h.apart i c hi hc ei k e hk
end
end Go.Proofs.Ytlljomnpdgmifaa
