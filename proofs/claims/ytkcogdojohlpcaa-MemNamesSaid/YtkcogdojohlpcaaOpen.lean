/-
  What an argument shows: a slice of words, of accesses; that it is read again behind the call.
-/
import Derived.Test.YtkcogdojohlpcaaMem
import Derived.Lib.SmallJoins
import Derived.Deep.CondSized
import Derived.SizedLaws
import Derived.Deep.DeepHandedRow
set_option linter.unusedVariables false
set_option linter.unusedSimpArgs false
namespace Go.Proofs.Ytkcogdojohlpcaa
open Go Go.RowKit Go.ChangeShapes Go.WideShapes Go.ChangeAt Go.Deep

/-- An access, as its six numbers. -/
structure Do where
  kind : Int
  at_ : Int
  a : Int
  b : Int
  c : Int
  d : Int
  deriving DecidableEq, Inhabited
def Do.cells (x : Do) : List Value := [.int .i64 x.kind, .int .i64 x.at_, .int .u64 x.a, .int .u64 x.b, .int .u64 x.c, .int .u64 x.d]
def Do.agg (x : Do) : Value := .agg #[.int .i64 x.kind, .int .i64 x.at_, .int .u64 x.a, .int .u64 x.b, .int .u64 x.c, .int .u64 x.d]
abbrev dos (l : List Do) : List Value := l.flatMap Do.cells
def ShowDos (w : World) (v : Value) (l : List Do) : Prop := Shows w v l.length 6 (dos l)
theorem dos_length (l : List Do) : (dos l).length = l.length * 6 := by
  induction l with
  | nil => rfl
  | cons c r ih => simp only [dos, List.flatMap_cons, List.length_append, List.length_cons] at *; simp only [ih, Do.cells, List.length_cons, List.length_nil]; omega
theorem dos_at (l : List Do) (i j : Nat) (hi : i < l.length) (hj : j < 6) : (dos l)[i * 6 + j]? = some (l[i].cells[j]'(by simpa [Do.cells] using hj)) := by
  induction l generalizing i with
  | nil => simp at hi
  | cons c r ih =>
    cases i with
    | zero =>
      simp only [dos, List.flatMap_cons, Nat.zero_mul, Nat.zero_add]
      rw [List.getElem?_append_left (by simpa [Do.cells] using hj)]
      simp [Do.cells, hj]
    | succ i =>
      simp only [dos, List.flatMap_cons]
      rw [List.getElem?_append_right (by simp [Do.cells]; omega)]
      have := ih i (by simpa using hi)
      simp only [dos] at this
      have e : (i + 1) * 6 + j - c.cells.length = i * 6 + j := by simp [Do.cells]; omega
      rw [e, this]
      simp
theorem ShowDos.form {w : World} {v : Value} {l : List Do} (h : ShowDos w v l) : ∃ ao cap, v = .slice ao l.length cap ∧ (l.length ≤ cap ∧ cap ≤ 9223372036854775807) ∧
    ∀ i (hi : i < l.length), ∃ b o, ao = some ⟨b, o, none⟩ ∧ w.cell? ⟨b, o + i * 6, none⟩ = some (.int .i64 l[i].kind) ∧ w.cell? ⟨b, o + i * 6 + 1, none⟩ = some (.int .i64 l[i].at_) ∧ w.cell? ⟨b, o + i * 6 + 2, none⟩ = some (.int .u64 l[i].a) ∧ w.cell? ⟨b, o + i * 6 + 3, none⟩ = some (.int .u64 l[i].b) ∧ w.cell? ⟨b, o + i * 6 + 4, none⟩ = some (.int .u64 l[i].c) ∧ w.cell? ⟨b, o + i * 6 + 5, none⟩ = some (.int .u64 l[i].d) := by
  obtain ⟨hl, ao, cap, hv, hc, hs⟩ := h
  refine ⟨ao, cap, hv, by unfold maxLen at hc; omega, fun i hi => ?_⟩
  obtain ⟨b, o, ha, hx⟩ := hs (by omega)
  refine ⟨b, o, ha, ?_, ?_, ?_, ?_, ?_, ?_⟩
  · have := hx (i * 6 + 0) (by omega); rw [dos_at l i 0 hi (by omega)] at this; exact this
  · have := hx (i * 6 + 1) (by omega); rw [dos_at l i 1 hi (by omega)] at this; exact this
  · have := hx (i * 6 + 2) (by omega); rw [dos_at l i 2 hi (by omega)] at this; exact this
  · have := hx (i * 6 + 3) (by omega); rw [dos_at l i 3 hi (by omega)] at this; exact this
  · have := hx (i * 6 + 4) (by omega); rw [dos_at l i 4 hi (by omega)] at this; exact this
  · have := hx (i * 6 + 5) (by omega); rw [dos_at l i 5 hi (by omega)] at this; exact this
theorem ShowDos.below {w w' : World} {v : Value} {l : List Do} (h : ShowDos w v l) (hb : Below w.heap.size w w') : ShowDos w' v l := Shows.below h hb

theorem cellsI : Try.prog.cellsOf 3 = 1 := by kernel_rfl
theorem cellsU : Try.prog.cellsOf 32 = 1 := by kernel_rfl
theorem cellsD : Try.prog.cellsOf 34 = 6 := by kernel_rfl
theorem fieldsD : Try.prog.underlying 34 = some (.struct #[⟨"Kind", 3, 0, false, "", "", 0⟩, ⟨"At", 3, 1, false, "", "", 8⟩, ⟨"A", 32, 2, false, "", "", 16⟩, ⟨"B", 32, 3, false, "", "", 24⟩, ⟨"C", 32, 4, false, "", "", 32⟩, ⟨"D", 32, 5, false, "", "", 40⟩]) := by kernel_rfl

section
variable {H : Type} {enc : TypeId × Value → H} {w : World} {base : Nat} {spare : Nat → Bool} {held : Bool} {n : Nat}
theorem addr_plain {w : World} {a : Addr} {u : Value} (h : w.cell? a = some u) : a = ⟨a.block, a.off, none⟩ := by
  obtain ⟨b, o, s⟩ := a
  cases s with
  | none => rfl
  | some s => unfold World.cell? at h; dsimp only at h; split at h <;> simp at h
theorem add_plain (b o j : Nat) : (⟨b, o, none⟩ : Addr).add j = ⟨b, o + j, none⟩ := by
  by_cases hj : j = 0
  · subst hj; rfl
  · simp [Addr.add, hj]
theorem cells_one {a : Addr} {cs : List Value} (h : w.cells? base a 1 = some cs) : ∃ u, cs = [u] ∧ w.cell? a = some u := by
  obtain ⟨_, hl, hat⟩ := World.cells?_some h
  match cs, hl with
  | [u], _ => exact ⟨u, rfl, by simpa [Addr.add] using hat 0 (by decide)⟩
theorem do_of_trod {cs : List Value} {x : DataW H × List MemPlace} (h : DataW.trod enc Try.prog w base spare held n 34 cs = some x) : ∃ c : Do, cs = c.cells := by
  obtain ⟨xs, n', _, _, hl, hlen, hf⟩ := DataW.trod_struct fieldsD h
  rw [cellsD] at hl
  match cs, hl with
  | [a, b, c, d, e, f], _ =>
    have hx : xs.length = 6 := hlen
    have h0 : DataW.trod enc Try.prog w base spare held n' 3 (([a, b, c, d, e, f].drop 0).take (Try.prog.cellsOf 3)) = xs[0]? := hf 0 _ rfl
    have h1 : DataW.trod enc Try.prog w base spare held n' 3 (([a, b, c, d, e, f].drop 1).take (Try.prog.cellsOf 3)) = xs[1]? := hf 1 _ rfl
    have h2 : DataW.trod enc Try.prog w base spare held n' 32 (([a, b, c, d, e, f].drop 2).take (Try.prog.cellsOf 32)) = xs[2]? := hf 2 _ rfl
    have h3 : DataW.trod enc Try.prog w base spare held n' 32 (([a, b, c, d, e, f].drop 3).take (Try.prog.cellsOf 32)) = xs[3]? := hf 3 _ rfl
    have h4 : DataW.trod enc Try.prog w base spare held n' 32 (([a, b, c, d, e, f].drop 4).take (Try.prog.cellsOf 32)) = xs[4]? := hf 4 _ rfl
    have h5 : DataW.trod enc Try.prog w base spare held n' 32 (([a, b, c, d, e, f].drop 5).take (Try.prog.cellsOf 32)) = xs[5]? := hf 5 _ rfl
    rw [cellsI] at h0 h1
    rw [cellsU] at h2 h3 h4 h5
    obtain ⟨x0, e0, _, _⟩ := DataW.trod_int Try.underlying3 (h0.trans (List.getElem?_eq_getElem (by omega)))
    obtain ⟨x1, e1, _, _⟩ := DataW.trod_int Try.underlying3 (h1.trans (List.getElem?_eq_getElem (by omega)))
    obtain ⟨x2, e2, _, _⟩ := DataW.trod_int Try.underlying32 (h2.trans (List.getElem?_eq_getElem (by omega)))
    obtain ⟨x3, e3, _, _⟩ := DataW.trod_int Try.underlying32 (h3.trans (List.getElem?_eq_getElem (by omega)))
    obtain ⟨x4, e4, _, _⟩ := DataW.trod_int Try.underlying32 (h4.trans (List.getElem?_eq_getElem (by omega)))
    obtain ⟨x5, e5, _, _⟩ := DataW.trod_int Try.underlying32 (h5.trans (List.getElem?_eq_getElem (by omega)))
    simp at e0 e1 e2 e3 e4 e5
    subst e0 e1 e2 e3 e4 e5
    exact ⟨⟨x0, x1, x2, x3, x4, x5⟩, rfl⟩
theorem dos_of_trod {u : Value} {x : DataW H × List MemPlace} (h : DataW.trod enc Try.prog w base spare held n 22 [u] = some x) : ∃ l, ShowDos w u l := by
  rcases open_slice Try.underlying22 h with ⟨h0, _⟩ | ⟨a, len, cap, m, n', D, Pl, hcs, _, hl, hm, hmm, hx, hi⟩
  · obtain rfl : u = .slice none 0 0 := by simpa using h0
    exact ⟨[], Shows.nil w 6⟩
  · obtain rfl : u = .slice (some a) len cap := by simpa using hcs
    have hlm : len ≤ m := by rw [hmm]; split <;> omega
    have hex : ∀ i, i < len → ∃ c : Do, ∀ j (hj : j < 6), w.cell? (a.add (i * 6 + j)) = some (c.cells[j]'(by simpa [Do.cells] using hj)) := by
      intro i him
      obtain ⟨cs', hc, ht⟩ := hi i (by omega)
      rw [cellsD] at hc
      obtain ⟨c, rfl⟩ := do_of_trod ht
      obtain ⟨_, _, hat⟩ := World.cells?_some hc
      refine ⟨c, fun j hj => ?_⟩
      rw [← add_add, hat j hj]
      exact List.getElem?_eq_getElem _
    obtain ⟨f, hf⟩ := choose_lt hex
    refine ⟨(List.range len).map f, ?_, some a, cap, by simp, by simpa using ⟨hl, hm⟩, fun hn => ?_⟩
    · rw [dos_length]
    · have hn' : 0 < len := by simpa using hn
      have h0 := hf 0 hn' 0 (by decide)
      have ea := addr_plain (w := w) (a := a) (by simpa [Addr.add] using h0)
      refine ⟨a.block, a.off, by rw [← ea], fun j hj => ?_⟩
      simp only [List.length_map, List.length_range] at hj
      have hq : j = j / 6 * 6 + j % 6 := by omega
      have h1 := hf (j / 6) (by omega) (j % 6) (by omega)
      have h2 := dos_at ((List.range len).map f) (j / 6) (j % 6) (by simp; omega) (by omega)
      rw [← hq] at h1 h2
      rw [h2]
      rw [ea, add_plain] at h1
      simpa using h1
theorem words_of_trod {u : Value} {x : DataW H × List MemPlace} (h : DataW.trod enc Try.prog w base spare held n 37 [u] = some x) : ∃ l, ShowU w u l := by
  rcases open_ints Try.underlying37 Try.underlying32 cellsU h with ⟨h0, _⟩ | ⟨a, len, cap, zs, hcs, _, hl, hm, hz, hx, hcell, _⟩
  · obtain rfl : u = .slice none 0 0 := by simpa using h0
    exact ⟨[], Shows.nil w 1⟩
  · obtain rfl : u = .slice (some a) len cap := by simpa using hcs
    have hlz : len ≤ zs.length := by rw [hz]; split <;> omega
    have hlt : (zs.take len).length = len := by rw [List.length_take]; omega
    refine ⟨zs.take len, by simp, some a, cap, by rw [hlt], by rw [hlt]; exact ⟨hl, hm⟩, fun hn => ?_⟩
    rw [hlt] at hn ⊢
    have ea := addr_plain (w := w) (a := a) (by simpa [Addr.add] using hcell 0 (by omega))
    refine ⟨a.block, a.off, by rw [← ea], fun j hj => ?_⟩
    have h1 := hcell j (by omega)
    rw [ea, add_plain] at h1
    rw [h1]
    have hjz : j < zs.length := by omega
    have hjl : j < len := by omega
    simp [List.getD, hjz, hjl]
theorem words_arg {v : Value} {d : DataW H} {p : List MemPlace} {r : Reach} {b0 : Nat} (hv : Value.okWide Try.prog w r b0 37 v) (h : DataW.Trod enc Try.prog w base spare held 37 v d p) : ∃ l, ShowU w v l := by
  obtain ⟨a0, len, cap, rfl⟩ := okWide_slice Try.underlying37 hv
  obtain ⟨fuel, hf⟩ := h
  exact words_of_trod hf
theorem dos_arg {v : Value} {d : DataW H} {p : List MemPlace} {r : Reach} {b0 : Nat} (hv : Value.okWide Try.prog w r b0 22 v) (h : DataW.Trod enc Try.prog w base spare held 22 v d p) : ∃ l, ShowDos w v l := by
  obtain ⟨a0, len, cap, rfl⟩ := okWide_slice Try.underlying22 hv
  obtain ⟨fuel, hf⟩ := h
  exact dos_of_trod hf
end
theorem laidOut : laidOutB Try.prog = true := by kernel_rfl
theorem recU : Try.prog.readableRec 37 = true := by kernel_rfl
theorem recD : Try.prog.readableRec 22 = true := by kernel_rfl
theorem rowU : 37 < Try.prog.types.size := of_decide_eq_true (by kernel_rfl)
theorem rowD : 22 < Try.prog.types.size := of_decide_eq_true (by kernel_rfl)
section
variable {H : Type} {enc : TypeId × Value → H} {P : Program}
/-- What lay before the call lies as it lay: then the arguments read as they read. -/
theorem post_below {f : Func} {s : ChangeSpec} {apart fresh handsOn again : Bool} {W W' : World} {args : Array Value} {v : Value} {ds gs : List (DataW H)} {before pa pv : List MemPlace}
    (hW : DataW.Whole enc P f.params.toList s.vars apart W args.toList ds gs before)
    (hres : ∀ (b : Nat) (sp : Nat → Bool) (hd : Bool), DataW.TrodAll enc P W' b sp hd f.resultTypes.toList (v.resultList f.resultTypes.size) (s.fn H (ds ++ gs)).results [])
    (hargs : ∀ sp : Nat → Bool, (∀ p ∈ before, sp p.block = true) → DataW.TrodAll enc P W' 0 sp true f.params.toList args.toList (s.fn H (ds ++ gs)).args pa)
    (hvars : ∀ sp : Nat → Bool, (∀ p ∈ before, sp p.block = true) → DataW.TrodVars enc P W' sp s.vars (s.fn H (ds ++ gs)).vars pv)
    (hps : before = pa ++ pv) (hb : Below W.heap.size W W')
    (hok : ∀ (j : Nat) (t : TypeId) (r : Value), f.resultTypes[j]? = some t → (v.resultList f.resultTypes.size)[j]? = some r → Value.okWide P W' .any 0 t r) :
    s.post enc P f apart fresh handsOn again W args v W' := by
  have hlt : ∀ p ∈ before, p.block < W.heap.size := fun p hp => hW.lt p hp
  have hold : ∀ p ∈ before, (fun b => decide (b < W.heap.size)) p.block = true := fun p hp => by simpa using hlt p hp
  refine ⟨ds, gs, before, [], pa, pv, hW, hres _ _ _, hargs _ hold, hvars _ hold, World.keptBut_mono (fun p hp => ⟨hp, ?_⟩) (hb.frame (· ∈ before)), fun _ => ?_⟩
  · rw [hps, List.mem_append] at hp
    exact Or.inr hp
  · obtain ⟨_, _, _, _, _, hz, hn⟩ := hW
    refine ⟨hok, _, _, ([] ++ pa) ++ pv, ⟨[] ++ pa, pv, trodAll_append (hargs _ (fun _ _ => rfl)) (hres _ _ _), hvars _ (fun _ _ => rfl), rfl, ?_, ?_⟩, ?_⟩
    · intro b off hp
      have hin : MemPlace.cell b off ∈ before := by rw [hps]; simpa using hp
      rw [hb.frozen (hlt _ hin)]
      exact hz b off hin
    · intro ha
      have := hn ha
      rw [hps] at this
      simpa using this
    · intro p hp _
      rw [hps]
      simpa using hp
end

end Go.Proofs.Ytkcogdojohlpcaa
