/-
  What an argument shows: a list of words, with how long it can be; a chart; that they are read again behind the call.
-/
import Derived.Test.YtnnfmlbgoplnaaaBlm
import Derived.Test.YtnnfmlbgoplnaaaSame
import Derived.Lib.SmallJoins
import Derived.Deep.CondSized
import Derived.SizedLaws
import Derived.Deep.DeepHandedRow
set_option linter.unusedVariables false
set_option linter.unusedSimpArgs false
namespace Go.Proofs.Ytnnfmlbgoplnaaa
open Go Go.RowKit Go.ChangeShapes Go.WideShapes Go.ChangeAt Go.Deep

theorem cellsI : Try.prog.cellsOf 3 = 1 := by kernel_rfl
theorem cellsU : Try.prog.cellsOf 22 = 1 := by kernel_rfl
section
variable {H : Type} {enc : TypeId × Value → H} {w : World} {base : Nat} {spare : Nat → Bool} {held : Bool} {n : Nat}
theorem addr_plain {w : World} {a : Addr} {u : Value} (h : w.cell? a = some u) : a = ⟨a.block, a.off, none⟩ := by
  obtain ⟨b, o, s⟩ := a
  cases s with
  | none => rfl
  | some s => unfold World.cell? at h; dsimp only at h; split at h <;> simp at h
theorem add_plain (b o j : Nat) : (⟨b, o, none⟩ : Addr).add j = ⟨b, o + j, none⟩ := by
  by_cases hj : j = 0
  · subst hj; rfl
  · simp [Addr.add, hj]
theorem wordy_of {l : List Int} (h : ∀ y ∈ l, okW y) : Wordy l := by
  intro i
  by_cases hi : i < l.length
  · rw [← pk_at l i hi]
    exact h _ (List.getElem_mem hi)
  · have : pk l i = 0 := by simp [pk, List.getD, List.getElem?_eq_none (show l.length ≤ i by omega)]
    rw [this]
    unfold okW
    omega
/-- how long a list is, by its datum -/
def Len {α : Type} (d : DataW H) (l : List α) : Prop := l = [] ∨ ∃ es sp, d = .slice es sp ∧ es.length = l.length
theorem words_of_trod {u : Value} {x : DataW H × List MemPlace} (h : DataW.trod enc Try.prog w base spare held n 35 [u] = some x) : ∃ l, ShowU w u l ∧ (∀ y ∈ l, okW y) ∧ Len x.1 l := by
  rcases open_ints Try.underlying35 Try.underlying22 cellsU h with ⟨h0, _⟩ | ⟨a, len, cap, zs, hcs, _, hl, hm, hz, hx, hcell, hwf⟩
  · obtain rfl : u = .slice none 0 0 := by simpa using h0
    exact ⟨[], Shows.nil w 1, by simp, .inl rfl⟩
  · obtain rfl : u = .slice (some a) len cap := by simpa using hcs
    have hlz : len ≤ zs.length := by rw [hz]; split <;> omega
    have hlt : (zs.take len).length = len := by rw [List.length_take]; omega
    refine ⟨zs.take len, ⟨by simp, some a, cap, by rw [hlt], by rw [hlt]; exact ⟨hl, hm⟩, fun hn => ?_⟩, fun y hy => by have := Go.bounds_u64 (hwf y (List.mem_of_mem_take hy)); unfold okW; omega, .inr ⟨_, _, by rw [hx], by simp [lits]⟩⟩
    rw [hlt] at hn ⊢
    have ea := addr_plain (w := w) (a := a) (by simpa [Addr.add] using hcell 0 (by omega))
    refine ⟨a.block, a.off, by rw [← ea], fun j hj => ?_⟩
    have h1 := hcell j (by omega)
    rw [ea, add_plain] at h1
    rw [h1]
    have hjz : j < zs.length := by omega
    have hjl : j < len := by omega
    simp [List.getD, hjz, hjl]
theorem len_weight {α : Type} {P : Program} {t e : TypeId} {d : DataW H} {l : List α} {R : Nat} (h : Len d l) (ht : P.underlying t = some (.slice e)) (hw : ∀ m ∈ d.weights P t, m ≤ R) : l.length * P.bytesOf e ≤ R := by
  rcases h with rfl | ⟨es, sp, rfl, hl⟩
  · simp
  · have := hw ((es.length + sp.length) * P.bytesOf e) (by simp [DataW.weights, ht])
    rw [← hl]
    exact Nat.le_trans (Nat.mul_le_mul_right _ (Nat.le_add_right _ _)) this
theorem bytesU : Try.prog.bytesOf 22 = 8 := by kernel_rfl
set_option maxRecDepth 100000 in
theorem words_arg {v : Value} {d : DataW H} {p : List MemPlace} {r : Reach} {b0 : Nat} (hv : Value.okWide Try.prog w r b0 35 v) (h : DataW.Trod enc Try.prog w base spare held 35 v d p) : ∃ l, ShowU w v l ∧ Wordy l ∧ ((∀ m ∈ d.weights Try.prog 35, m ≤ reachBytes) → l.length ≤ 17592186044416) := by
  obtain ⟨a0, len, cap, rfl⟩ := okWide_slice Try.underlying35 hv
  obtain ⟨fuel, hf⟩ := h
  obtain ⟨l, h1, hy, h2⟩ := words_of_trod hf
  refine ⟨l, h1, wordy_of hy, fun hw => ?_⟩
  have h8 := len_weight h2 Try.underlying35 hw
  rw [bytesU] at h8
  have hR : reachBytes ≤ 140737488355328 := by decide
  omega
theorem cellsCh : Try.prog.cellsOf 24 = 6 := by kernel_rfl
theorem fieldsCh : Try.prog.underlying 24 = some (.struct #[⟨"Cpus", 3, 0, false, "", "", 0⟩, ⟨"Slabs", 3, 1, false, "", "", 8⟩, ⟨"Objects", 3, 2, false, "", "", 16⟩, ⟨"Min", 3, 3, false, "", "", 24⟩, ⟨"Cap", 3, 4, false, "", "", 32⟩, ⟨"Key", 22, 5, false, "", "", 40⟩]) := by kernel_rfl
set_option maxRecDepth 100000 in
theorem chart_of_trod {cs : List Value} {x : DataW H × List MemPlace} (h : DataW.trod enc Try.prog w base spare held n 24 cs = some x) : ∃ c : Ch, cs = c.arr.toList ∧ c.wf := by
  obtain ⟨xs, n', _, _, hl, hlen, hf⟩ := DataW.trod_struct fieldsCh h
  rw [cellsCh] at hl
  match cs, hl with
  | [a, b, c, d, e, f], _ =>
    have hx : xs.length = 6 := hlen
    have h0 : DataW.trod enc Try.prog w base spare held n' 3 (([a, b, c, d, e, f].drop 0).take (Try.prog.cellsOf 3)) = xs[0]? := hf 0 _ rfl
    have h1 : DataW.trod enc Try.prog w base spare held n' 3 (([a, b, c, d, e, f].drop 1).take (Try.prog.cellsOf 3)) = xs[1]? := hf 1 _ rfl
    have h2 : DataW.trod enc Try.prog w base spare held n' 3 (([a, b, c, d, e, f].drop 2).take (Try.prog.cellsOf 3)) = xs[2]? := hf 2 _ rfl
    have h3 : DataW.trod enc Try.prog w base spare held n' 3 (([a, b, c, d, e, f].drop 3).take (Try.prog.cellsOf 3)) = xs[3]? := hf 3 _ rfl
    have h4 : DataW.trod enc Try.prog w base spare held n' 3 (([a, b, c, d, e, f].drop 4).take (Try.prog.cellsOf 3)) = xs[4]? := hf 4 _ rfl
    have h5 : DataW.trod enc Try.prog w base spare held n' 22 (([a, b, c, d, e, f].drop 5).take (Try.prog.cellsOf 22)) = xs[5]? := hf 5 _ rfl
    rw [cellsI] at h0 h1 h2 h3 h4
    rw [cellsU] at h5
    obtain ⟨x0, e0, _, w0⟩ := DataW.trod_int Try.underlying3 (h0.trans (List.getElem?_eq_getElem (by omega)))
    obtain ⟨x1, e1, _, w1⟩ := DataW.trod_int Try.underlying3 (h1.trans (List.getElem?_eq_getElem (by omega)))
    obtain ⟨x2, e2, _, w2⟩ := DataW.trod_int Try.underlying3 (h2.trans (List.getElem?_eq_getElem (by omega)))
    obtain ⟨x3, e3, _, w3⟩ := DataW.trod_int Try.underlying3 (h3.trans (List.getElem?_eq_getElem (by omega)))
    obtain ⟨x4, e4, _, w4⟩ := DataW.trod_int Try.underlying3 (h4.trans (List.getElem?_eq_getElem (by omega)))
    obtain ⟨x5, e5, _, w5⟩ := DataW.trod_int Try.underlying22 (h5.trans (List.getElem?_eq_getElem (by omega)))
    simp at e0 e1 e2 e3 e4 e5
    subst e0 e1 e2 e3 e4 e5
    exact ⟨⟨x0, x1, x2, x3, x4, x5⟩, rfl, Go.bounds_i64 w0, Go.bounds_i64 w1, Go.bounds_i64 w2, Go.bounds_i64 w3, Go.bounds_i64 w4, by have := Go.bounds_u64 w5; unfold okW; dsimp only; omega⟩
set_option maxRecDepth 100000 in
theorem chart_arg {v : Value} {d : DataW H} {p : List MemPlace} {r : Reach} {b0 : Nat} (hv : Value.okWide Try.prog w r b0 24 v) (h : DataW.Trod enc Try.prog w base spare held 24 v d p) : ∃ c : Ch, v = c.agg ∧ c.wf := by
  simp only [Value.okWide, fieldsCh] at hv
  obtain ⟨cs, rfl, _, _⟩ := hv
  obtain ⟨fuel, hf⟩ := h
  obtain ⟨c, hc, hw⟩ := chart_of_trod hf
  refine ⟨c, ?_, hw⟩
  obtain ⟨l⟩ := cs
  simp only [Value.cells] at hc
  subst hc
  rfl
end
theorem laidOut : laidOutB Try.prog = true := by kernel_rfl
theorem recU : Try.prog.readableRec 35 = true := by kernel_rfl
theorem rowU : 35 < Try.prog.types.size := of_decide_eq_true (by kernel_rfl)
theorem recP : Try.prog.readableRec 24 = true := by kernel_rfl
theorem rowP : 24 < Try.prog.types.size := of_decide_eq_true (by kernel_rfl)
section
variable {H : Type} {enc : TypeId × Value → H} {P : Program}
/-- What lay before the call lies as it lay: then the arguments read as they read. -/
theorem post_below {f : Func} {s : ChangeSpec} {apart fresh handsOn again : Bool} {W W' : World} {args : Array Value} {v : Value} {ds gs : List (DataW H)} {before pa pv : List MemPlace}
    (hW : DataW.Whole enc P f.params.toList s.vars apart W args.toList ds gs before)
    (hres : ∀ (b : Nat) (sp : Nat → Bool) (hd : Bool), DataW.TrodAll enc P W' b sp hd f.resultTypes.toList (v.resultList f.resultTypes.size) (s.fn H (ds ++ gs)).results [])
    (hargs : ∀ sp : Nat → Bool, (∀ p ∈ before, sp p.block = true) → DataW.TrodAll enc P W' 0 sp true f.params.toList args.toList (s.fn H (ds ++ gs)).args pa)
    (hvars : ∀ sp : Nat → Bool, (∀ p ∈ before, sp p.block = true) → DataW.TrodVars enc P W' sp s.vars (s.fn H (ds ++ gs)).vars pv)
    (hps : before = pa ++ pv) (hb : Below W.heap.size W W')
    (hok : ∀ (j : Nat) (t : TypeId) (r : Value), f.resultTypes[j]? = some t → (v.resultList f.resultTypes.size)[j]? = some r → Value.okWide P W' .any 0 t r) :
    s.post enc P f apart fresh handsOn again W args v W' := by
  have hlt : ∀ p ∈ before, p.block < W.heap.size := fun p hp => hW.lt p hp
  have hold : ∀ p ∈ before, (fun b => decide (b < W.heap.size)) p.block = true := fun p hp => by simpa using hlt p hp
  refine ⟨ds, gs, before, [], pa, pv, hW, hres _ _ _, hargs _ hold, hvars _ hold, World.keptBut_mono (fun p hp => ⟨hp, ?_⟩) (hb.frame (· ∈ before)), fun _ => ?_⟩
  · rw [hps, List.mem_append] at hp
    exact Or.inr hp
  · obtain ⟨_, _, _, _, _, hz, hn⟩ := hW
    refine ⟨hok, _, _, ([] ++ pa) ++ pv, ⟨[] ++ pa, pv, trodAll_append (hargs _ (fun _ _ => rfl)) (hres _ _ _), hvars _ (fun _ _ => rfl), rfl, ?_, ?_⟩, ?_⟩
    · intro b off hp
      have hin : MemPlace.cell b off ∈ before := by rw [hps]; simpa using hp
      rw [hb.frozen (hlt _ hin)]
      exact hz b off hin
    · intro ha
      have := hn ha
      rw [hps] at this
      simpa using this
    · intro p hp _
      rw [hps]
      simpa using hp
end

end Go.Proofs.Ytnnfmlbgoplnaaa
