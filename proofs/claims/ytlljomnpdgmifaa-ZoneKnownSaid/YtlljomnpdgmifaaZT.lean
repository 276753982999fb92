/-
  What each page says, as a map that a zone has: looked up, written, deleted.
-/
import Derived.Test.YtlljomnpdgmifaaZM
import Derived.Test.YtlljomnpdgmifaaRPut
import Derived.Maps.OwnSet
import Derived.Deep.RegionHeld3
set_option linter.unusedVariables false
set_option linter.unusedSimpArgs false
namespace Go.Proofs.Ytlljomnpdgmifaa
open Go Go.RowKit

/-! ### how a tag reads -/
def tgD (T : Pg) : DataW Unit := .agg [.lit (.int .i64 T.kind), .lit (.int .i64 T.order), .lit (.int .i64 T.cache)]
def tgE : Value → Option (DataW Unit × List MemPlace)
  | .agg cs => match cs.toList with
    | [.int .i64 a, .int .i64 b, .int .i64 c] => some (tgD ⟨a, b, c⟩, [])
    | _ => none
  | _ => none
theorem tgE_mk (a b c : Int) : tgE (.agg #[.int .i64 a, .int .i64 b, .int .i64 c]) = some (tgD ⟨a, b, c⟩, []) := rfl
theorem tgD_inj {S T : Pg} (h : tgD S = tgD T) : S = T := by
  obtain ⟨a, b, c⟩ := S
  obtain ⟨a', b', c'⟩ := T
  simp [tgD] at h
  simp [h]
theorem tgE_inv {v : Value} {D : DataW Unit} {ps : List MemPlace} (h : tgE v = some (D, ps)) : ∃ T, v = Pg.agg T ∧ D = tgD T := by
  unfold tgE at h
  split at h
  · next cs =>
    split at h
    · next a b c e =>
      simp only [Option.some.injEq, Prod.mk.injEq] at h
      refine ⟨⟨a, b, c⟩, ?_, h.1.symm⟩
      obtain ⟨l⟩ := cs
      simp only at e
      subst e
      rfl
    · cases h
  · cases h
def kI (x : Int) : Lit := .int .i64 x
theorem kI_inj {x y : Int} (h : kI x = kI y) : x = y := by simpa [kI] using h
theorem kI_ne {x y : Int} (h : x ≠ y) : kI x ≠ kI y := fun e => h (kI_inj e)
theorem tagZero (w : World) : (zeroValue 44).run Try.prog w = .ok (.agg #[.int .i64 0, .int .i64 0, .int .i64 0]) w := by kernel_rfl
theorem lawI : Go.Maps.Keyed Try.prog 3 := Go.Maps.int_keyed Try.underlying3
def wf64 (x : Int) : Prop := (Lit.int .i64 x).wf = true
theorem wf_small (x : Nat) (h : x < 1099511627776) : wf64 (x : Int) := by
  unfold wf64
  exact WalkArith.wf_i64 (by omega)
theorem keyI {x : Int} (h : wf64 x) : keyOf Try.prog 3 (.int .i64 x) = some (kI x) := Go.Maps.keyOf_int_mk Try.underlying3 h
/-! ### few keys -/
theorem filter_one {k : Lit} (es : List (Lit × DataW Unit)) (hp : es.Pairwise (fun p q => p.1 ≠ q.1)) : es.length ≤ (es.filter (fun p => !p.1.sameKey k)).length + 1 := by
  induction es with
  | nil => simp
  | cons p r ih =>
    obtain ⟨h1, h2⟩ := List.pairwise_cons.1 hp
    cases hs : p.1.sameKey k with
    | true =>
      have e := Go.WideAt.sameKey_eq hs
      have : r.filter (fun q => !q.1.sameKey k) = r := List.filter_eq_self.2 fun q hq => by
        rw [Go.Maps.sameKey_ne (fun e2 => h1 q hq (e.trans e2.symm))]
        rfl
      simp [hs, this]
    | false =>
      have := ih h2
      simp [hs]
      omega
theorem few_keys (N : Nat) (es : List (Lit × DataW Unit)) (hp : es.Pairwise (fun p q => p.1 ≠ q.1)) (hk : ∀ p ∈ es, ∃ x : Nat, x < N ∧ p.1 = kI x) : es.length ≤ N := by
  induction N generalizing es with
  | zero =>
    cases es with
    | nil => simp
    | cons p r =>
      obtain ⟨x, h, _⟩ := hk p (by simp)
      omega
  | succ N ih =>
    have h1 := filter_one (k := kI N) es hp
    have h2 := ih (es.filter (fun p => !p.1.sameKey (kI N))) (hp.filter _) (fun p h => by
      obtain ⟨h3, h4⟩ := List.mem_filter.1 h
      obtain ⟨x, h5, h6⟩ := hk p h3
      refine ⟨x, ?_, h6⟩
      by_cases e : x = N
      · subst e
        rw [h6, Go.WideAt.sameKey_self (by simp [kI, Go.WideAt.IsKeyLit])] at h4
        cases h4
      · omega)
    omega
theorem mem_insert {x p : Lit × DataW Unit} (l : List (Lit × DataW Unit)) (h : p ∈ DataW.insert x l) : p = x ∨ p ∈ l := by
  induction l with
  | nil => simp [DataW.insert] at h; exact .inl h
  | cons y r ih =>
    unfold DataW.insert at h
    split at h
    · simpa using h
    · rcases List.mem_cons.1 h with e | e
      · exact .inr (by simp [e])
      · exact (ih e).imp id (fun h => by simp [h])
/-! ### the map -/
/-- Block b is a map that tells t. -/
def TagsAt (w : World) (b : Nat) (t : Int → Option Pg) : Prop := ∃ es : List (Lit × DataW Unit), w.ownsMap Try.prog 3 tgE b 1024 (.map es) ∧ (∀ p ∈ es, ∃ x : Nat, x < 1024 ∧ p.1 = kI x) ∧
  (∀ x T, t x = some T → Go.Maps.has (.map es) (kI x) = true ∧ (DataW.map es).atKey (kI x) (tgD pz) = tgD T) ∧ ∀ x, t x = none → Go.Maps.has (.map es) (kI x) = false
section
variable {w w' : World} {b : Nat} {t : Int → Option Pg}
theorem TagsAt.lt (h : TagsAt w b t) : b < w.heap.size := let ⟨_, h, _⟩ := h; h.lt
theorem TagsAt.of_block (h : TagsAt w b t) (e : w'.heap[b]? = w.heap[b]?) : TagsAt w' b t := by
  obtain ⟨es, ⟨es0, clock, hb, r⟩, h2⟩ := h
  exact ⟨es, ⟨es0, clock, e.trans hb, r⟩, h2⟩
theorem TagsAt.kept {S : Nat → Prop} (h : TagsAt w b t) (hk : Kept S w w') (hn : ¬ S b) : TagsAt w' b t := h.of_block (hk.block b h.lt hn)
theorem TagsAt.below (h : TagsAt w b t) (hb : Below w.heap.size w w') : TagsAt w' b t := h.of_block (hb.block b h.lt)
theorem TagsAt.congr {t' : Int → Option Pg} (h : TagsAt w b t) (e : ∀ x, t' x = t x) : TagsAt w b t' := by
  rwa [show t' = t from funext e]
theorem TagsAt.is_map (h : TagsAt w b t) : ∃ es clock, w.heap[b]? = some (.map es clock) := by
  obtain ⟨_, ⟨es0, clock, hb, _⟩, _⟩ := h
  exact ⟨_, _, hb⟩
/-- no block of cells -/
theorem TagsAt.ne (h : TagsAt w b t) {k : Nat} {c : Array Value} {T : TypeId} {fr : Nat × Nat} (hk : w.heap[k]? = some (.cells c T fr)) : k ≠ b := by
  rintro rfl
  obtain ⟨es, clock, hb⟩ := h.is_map
  rw [hk] at hb
  cases hb
theorem turned_kept {w1 : World} (h : w.mapTurned w1 b) : Kept (· = b) w w1 := by
  have g := h.grown
  exact ⟨g.os, g.tape, g.output, g.size, fun k h1 h2 => g.block k h1 (fun e => h2 (by simpa using e))⟩
theorem tags_made (w : World) : TagsAt (w.alloc (.map #[] 0)) w.heap.size (fun _ => none) :=
  ⟨[], (World.ownsMap_made _ _ _ _).mono (by omega), fun p hp => (by simp at hp), fun x T h => (by cases h), fun x _ => rfl⟩
def setT (t : Int → Option Pg) (x : Int) (r : Option Pg) : Int → Option Pg := fun y => if y = x then r else t y
theorem setT_same (t : Int → Option Pg) (x : Int) (r : Option Pg) : setT t x r x = r := if_pos rfl
theorem setT_other (t : Int → Option Pg) {x y : Int} (r : Option Pg) (h : y ≠ x) : setT t x r y = t y := if_neg h
theorem TagsAt.put (h : TagsAt w b t) {x : Nat} (hx : x < 1024) (T : Pg) : ∃ w1, (Instr.mapUpdate 58 (.map (some b)) (.int .i64 (x : Int)) T.agg).run Try.prog w = .ok () w1 ∧ TagsAt w1 b (setT t x (some T)) ∧ Kept (· = b) w w1 := by
  obtain ⟨es, hown, hk, hs, hn⟩ := h
  have hwf : wf64 (x : Int) := wf_small x (by omega)
  obtain ⟨w1, hrun, hown1, hturn⟩ := hown.store (val := T.agg) lawI Try.underlying58 (by unfold maxLen; omega) (keyI hwf) (tgE_mk T.kind T.order T.cache)
  refine ⟨w1, hrun, ?_, turned_kept hturn⟩
  have hmap : Go.Maps.IsMap (DataW.map es) := ⟨es, rfl⟩
  have hkl : Go.WideAt.IsKeyLit (kI (x : Int)) := by simp [kI, Go.WideAt.IsKeyLit]
  have hkeys : ∀ p ∈ DataW.insert (kI (x : Int), tgD T) (es.filter fun p => !p.1.sameKey (kI (x : Int))), ∃ y : Nat, y < 1024 ∧ p.1 = kI y := fun p hp => by
    rcases mem_insert _ hp with e | e
    · exact ⟨x, hx, by rw [e]⟩
    · exact hk p (List.mem_filter.1 e).1
  refine ⟨DataW.insert (kI (x : Int), tgD T) (es.filter fun p => !p.1.sameKey (kI (x : Int))), ?_, hkeys, fun y S hy => ?_, fun y hy => ?_⟩
  · obtain ⟨es2, e2, hp2⟩ := hown1.tidy lawI
    obtain ⟨es0, clock, hb, hfit, _, hD⟩ := hown1
    have e3 : DataW.insert (kI (x : Int), tgD T) (es.filter fun p => !p.1.sameKey (kI (x : Int))) = es2 := by
      have : DataW.map (DataW.insert (kI (x : Int), tgD T) (es.filter fun p => !p.1.sameKey (kI (x : Int)))) = DataW.map es2 := e2
      injection this
    have h1 := few_keys 1024 _ (by rw [e3]; exact hp2) hkeys
    refine ⟨es0, clock, hb, hfit, ?_, hD⟩
    have h2 : Go.Maps.size ((DataW.map es).put (kI (x : Int)) (tgD T)) = es0.size := by
      have e4 : ((DataW.map es).put (kI (x : Int)) (tgD ⟨T.kind, T.order, T.cache⟩)) = _ := hD
      rw [show tgD T = tgD ⟨T.kind, T.order, T.cache⟩ from rfl, e4]
      simp [Go.Maps.size, length_sorted]
    have h3 : Go.Maps.size ((DataW.map es).put (kI (x : Int)) (tgD T)) = (DataW.insert (kI (x : Int), tgD T) (es.filter fun p => !p.1.sameKey (kI (x : Int)))).length := rfl
    omega
  · show Go.Maps.has ((DataW.map es).put (kI (x : Int)) (tgD T)) (kI y) = true ∧ ((DataW.map es).put (kI (x : Int)) (tgD T)).atKey (kI y) (tgD pz) = tgD S
    by_cases e : y = (x : Int)
    · subst e
      rw [setT_same] at hy
      cases hy
      exact ⟨Go.Maps.has_put_same hmap hkl _, Go.Maps.atKey_put_same hmap hkl _ _⟩
    · rw [setT_other _ _ e] at hy
      rw [Go.Maps.has_put_other (kI_ne e), Go.Maps.atKey_put_other (kI_ne e)]
      exact hs y S hy
  · show Go.Maps.has ((DataW.map es).put (kI (x : Int)) (tgD T)) (kI y) = false
    by_cases e : y = (x : Int)
    · subst e
      rw [setT_same] at hy
      cases hy
    · rw [setT_other _ _ e] at hy
      rw [Go.Maps.has_put_other (kI_ne e)]
      exact hn y hy
theorem TagsAt.del (h : TagsAt w b t) {x : Nat} (hx : x < 1024) (ty : TypeId) : ∃ w1, (Builtin.delete_ #[58, 3] ty #[.map (some b), .int .i64 (x : Int)]).run Try.prog w = .ok (.tuple #[]) w1 ∧ TagsAt w1 b (setT t x none) ∧ Kept (· = b) w w1 := by
  obtain ⟨es, hown, hk, hs, hn⟩ := h
  have hwf : wf64 (x : Int) := wf_small x (by omega)
  obtain ⟨w1, hrun, hown1, hturn⟩ := hown.drop lawI Try.underlying58 (keyI hwf) ty
  refine ⟨w1, hrun, ⟨es.filter fun p => !p.1.sameKey (kI (x : Int)), hown1, fun p hp => hk p (List.mem_filter.1 hp).1, fun y S hy => ?_, fun y hy => ?_⟩, turned_kept hturn⟩
  · show Go.Maps.has ((DataW.map es).del (kI (x : Int))) (kI y) = true ∧ ((DataW.map es).del (kI (x : Int))).atKey (kI y) (tgD pz) = tgD S
    by_cases e : y = (x : Int)
    · subst e
      rw [setT_same] at hy
      cases hy
    · rw [setT_other _ _ e] at hy
      rw [Go.Maps.has_del_other (kI_ne e), Go.Maps.atKey_del_other (kI_ne e)]
      exact hs y S hy
  · show Go.Maps.has ((DataW.map es).del (kI (x : Int))) (kI y) = false
    by_cases e : y = (x : Int)
    · subst e
      exact Go.Maps.has_del_same
    · rw [setT_other _ _ e] at hy
      rw [Go.Maps.has_del_other (kI_ne e)]
      exact hn y hy
/-- what a look-up answers -/
def LookIs (t : Int → Option Pg) (x a c d : Int) (q : Bool) : Prop := (t x = some ⟨a, c, d⟩ ∧ q = true) ∨ (t x = none ∧ a = 0 ∧ c = 0 ∧ d = 0 ∧ q = false)
theorem TagsAt.look (h : TagsAt w b t) {x a c d : Int} {q : Bool} (hw : wf64 x) (hr : LookIs t x a c d q) : (Instr.lookup 58 (.map (some b)) (.int .i64 x) true).run Try.prog w = .ok (.tuple #[.agg #[.int .i64 a, .int .i64 c, .int .i64 d], .bool q]) w := by
  obtain ⟨es, hown, hk, hs, hn⟩ := h
  obtain ⟨v, ps, hrun, hv⟩ := hown.look_ok lawI Try.underlying58 (tagZero w) (tgE_mk 0 0 0) (keyI hw)
  obtain ⟨T, rfl, hT⟩ := tgE_inv hv
  rcases hr with ⟨h1, rfl⟩ | ⟨h1, rfl, rfl, rfl, rfl⟩
  · obtain ⟨h2, h3⟩ := hs x _ h1
    have e := tgD_inj (hT.symm.trans h3)
    subst e
    rw [h2] at hrun
    exact hrun
  · have h2 := hn x h1
    have h3 := Go.Maps.atKey_of_not_has h2 (tgD pz)
    have e := tgD_inj (hT.symm.trans h3)
    subst e
    rw [h2] at hrun
    exact hrun
end
section
variable {P : Program} {w : World} {ops : Array Oper} {rest : List Oper} {o : Oper} {a : Act} {Q : Exit → Act → World → Prop}
theorem wpList_look (hg : o.guard = none) (m x : Operand) (hop : o.op = Op.lookup 58 m x true) {b : Nat} {t : Int → Option Pg} (hm : a.eval m = .map (some b)) (ht : TagsAt w b t) {y a1 c d : Int} {q : Bool} (hx : a.eval x = .int .i64 y) (hw : wf64 y) (hr : LookIs t y a1 c d q)
    (hK : wpList Try.prog ops Q rest (a.put o.dst (.tuple #[.agg #[.int .i64 a1, .int .i64 c, .int .i64 d], .bool q])) w) : wpList Try.prog ops Q (o :: rest) a w := by
  refine wpList_plain hg fun K' hK' => ?_
  have hrun := ht.look hw hr
  unfold Oper.wp
  simp [execOp, hop, hm, hx, hrun, Result.andThen]
  exact hK' _ _ hK
theorem step_del {K : Act → World → Prop} {E : Prop} (hgd : o.guard = none) (m x : Operand) (hop : o.op = Op.call { callee := Callee.builtin Builtin.delete, args := #[m, x], argTypes := #[58, 3] }) {b : Nat} {t : Int → Option Pg} (hm : a.eval m = .map (some b)) (ht : TagsAt w b t) {y : Nat} {yi : Int} (hx : a.eval x = .int .i64 yi) (hyi : (y : Int) = yi) (hy : y < 1024)
    (hK : ∀ w1, TagsAt w1 b (setT t y none) → Kept (· = b) w w1 → K (a.put o.dst (.tuple #[])) w1) :
    if Region.wanted o (yielded ops a.tmps) = true then Oper.wp Try.prog o a w K Q else E := by
  have hw : Region.wanted o (yielded ops a.tmps) = true := by simp [Region.wanted, hgd]
  rw [if_pos hw]
  subst hyi
  obtain ⟨w1, hrun, h1, h2⟩ := ht.del hy o.type
  unfold Oper.wp
  simp [execOp, hop, resolve, invoke, builtin, hm, hx, hrun, Result.andThen]
  exact hK w1 h1 h2
end
theorem addT_zero (t : Int → Option Pg) (p : Nat) (T : Pg) : addT t p 0 T = t := by
  funext x
  unfold addT
  rw [if_neg (by omega)]
theorem addT_succ (t : Int → Option Pg) (p i : Nat) (T : Pg) : setT (addT t p i T) ((p + i : Nat) : Int) (some T) = addT t p (i + 1) T := by
  funext x
  unfold setT addT
  by_cases h : x = ((p + i : Nat) : Int)
  · rw [if_pos h, if_pos (by omega)]
  · rw [if_neg h]
    by_cases h2 : (p : Int) ≤ x ∧ x < ((p + i : Nat) : Int)
    · rw [if_pos h2, if_pos (by omega)]
    · rw [if_neg h2, if_neg (by omega)]
theorem delT_zero (t : Int → Option Pg) (p : Nat) : delT t p 0 = t := by
  funext x
  unfold delT
  rw [if_neg (by omega)]
theorem delT_succ (t : Int → Option Pg) (p i : Nat) : setT (delT t p i) ((p + i : Nat) : Int) none = delT t p (i + 1) := by
  funext x
  unfold setT delT
  by_cases h : x = ((p + i : Nat) : Int)
  · rw [if_pos h, if_pos (by omega)]
  · rw [if_neg h]
    by_cases h2 : (p : Int) ≤ x ∧ x < ((p + i : Nat) : Int)
    · rw [if_pos h2, if_pos (by omega)]
    · rw [if_neg h2, if_neg (by omega)]
end Go.Proofs.Ytlljomnpdgmifaa
