/-
  What an argument shows: a cache asked for, a list of them, with how long it can be; that they are read again behind the call.
-/
import Derived.Test.YtpaanlamjncajaaSp
import Derived.Lib.SmallJoins
import Derived.Deep.CondSized
import Derived.SizedLaws
import Derived.Deep.DeepHandedRow
set_option linter.unusedVariables false
set_option linter.unusedSimpArgs false
namespace Go.Proofs.Ytpaanlamjncajaa
open Go Go.RowKit Go.ChangeShapes Go.WideShapes Go.ChangeAt Go.Deep

theorem cellsI : Try.prog.cellsOf 3 = 1 := by kernel_rfl
theorem cellsD : Try.prog.cellsOf 23 = 3 := by kernel_rfl
theorem fieldsD : Try.prog.underlying 23 = some (.struct #[⟨"Size", 3, 0, false, "", "", 0⟩, ⟨"Align", 3, 1, false, "", "", 8⟩, ⟨"Flags", 3, 2, false, "", "", 16⟩]) := by kernel_rfl
section
variable {H : Type} {enc : TypeId × Value → H} {w : World} {base : Nat} {spare : Nat → Bool} {held : Bool} {n : Nat}
theorem addr_plain {w : World} {a : Addr} {u : Value} (h : w.cell? a = some u) : a = ⟨a.block, a.off, none⟩ := by
  obtain ⟨b, o, s⟩ := a
  cases s with
  | none => rfl
  | some s => unfold World.cell? at h; dsimp only at h; split at h <;> simp at h
theorem spec_of_trod {cs : List Value} {x : DataW H × List MemPlace} (h : DataW.trod enc Try.prog w base spare held n 23 cs = some x) : ∃ c : Sp, cs = c.arr.toList := by
  obtain ⟨xs, n', _, _, hl, hlen, hf⟩ := DataW.trod_struct fieldsD h
  rw [cellsD] at hl
  match cs, hl with
  | [a, b, c], _ =>
    have hx : xs.length = 3 := hlen
    have h0 : DataW.trod enc Try.prog w base spare held n' 3 (([a, b, c].drop 0).take (Try.prog.cellsOf 3)) = xs[0]? := hf 0 _ rfl
    have h1 : DataW.trod enc Try.prog w base spare held n' 3 (([a, b, c].drop 1).take (Try.prog.cellsOf 3)) = xs[1]? := hf 1 _ rfl
    have h2 : DataW.trod enc Try.prog w base spare held n' 3 (([a, b, c].drop 2).take (Try.prog.cellsOf 3)) = xs[2]? := hf 2 _ rfl
    rw [cellsI] at h0 h1 h2
    obtain ⟨x0, e0, _, _⟩ := DataW.trod_int Try.underlying3 (h0.trans (List.getElem?_eq_getElem (by omega)))
    obtain ⟨x1, e1, _, _⟩ := DataW.trod_int Try.underlying3 (h1.trans (List.getElem?_eq_getElem (by omega)))
    obtain ⟨x2, e2, _, _⟩ := DataW.trod_int Try.underlying3 (h2.trans (List.getElem?_eq_getElem (by omega)))
    simp at e0 e1 e2
    subst e0 e1 e2
    exact ⟨⟨x0, x1, x2⟩, rfl⟩
theorem spec_arg {v : Value} {d : DataW H} {p : List MemPlace} {r : Reach} {b0 : Nat} (hv : Value.okWide Try.prog w r b0 23 v) (h : DataW.Trod enc Try.prog w base spare held 23 v d p) : ∃ c : Sp, v = c.agg := by
  simp only [Value.okWide, fieldsD] at hv
  obtain ⟨cs, rfl, _, _⟩ := hv
  obtain ⟨fuel, hf⟩ := h
  obtain ⟨c, hc⟩ := spec_of_trod hf
  refine ⟨c, ?_⟩
  obtain ⟨l⟩ := cs
  simp only [Value.cells] at hc
  subst hc
  rfl
/-- how long a list is, by its datum -/
def Len {α : Type} (d : DataW H) (l : List α) : Prop := l = [] ∨ ∃ es sp, d = .slice es sp ∧ es.length = l.length
theorem specs_of_trod {u : Value} {x : DataW H × List MemPlace} (h : DataW.trod enc Try.prog w base spare held n 29 [u] = some x) : ∃ l, ShowS w u l ∧ Len x.1 l := by
  rcases open_slice Try.underlying29 h with ⟨h0, _⟩ | ⟨a, len, cap, m, n', D, Pl, hcs, _, hl, hm, hmm, hx, hi⟩
  · obtain rfl : u = .slice none 0 0 := by simpa using h0
    exact ⟨[], Shows.nil w 3, .inl rfl⟩
  · obtain rfl : u = .slice (some a) len cap := by simpa using hcs
    have hlm : len ≤ m := by rw [hmm]; split <;> omega
    have hex : ∀ i, i < len → ∃ c : Sp, ∀ j (hj : j < 3), w.cell? (a.add (i * 3 + j)) = some (c.cells[j]'(by simpa [Sp.cells] using hj)) := by
      intro i him
      obtain ⟨cs', hc, ht⟩ := hi i (by omega)
      rw [cellsD] at hc
      obtain ⟨c, rfl⟩ := spec_of_trod ht
      obtain ⟨_, _, hat⟩ := World.cells?_some hc
      refine ⟨c, fun j hj => ?_⟩
      rw [← add_add, hat j hj]
      exact List.getElem?_eq_getElem _
    obtain ⟨f, hf⟩ := choose_lt hex
    refine ⟨(List.range len).map f, ⟨?_, some a, cap, by simp, by simpa using ⟨hl, hm⟩, fun hn => ?_⟩, .inr ⟨_, _, by rw [hx], by simp⟩⟩
    · rw [sps_length]
    · have hn' : 0 < len := by simpa using hn
      have h0 := hf 0 hn' 0 (by decide)
      have ea := addr_plain (w := w) (a := a) (by simpa [Addr.add] using h0)
      refine ⟨a.block, a.off, by rw [← ea], fun j hj => ?_⟩
      simp only [List.length_map, List.length_range] at hj
      have hq : j = j / 3 * 3 + j % 3 := by omega
      have h1 := hf (j / 3) (by omega) (j % 3) (by omega)
      have h2 := sps_at ((List.range len).map f) (j / 3) (j % 3) (by simp; omega) (by omega)
      rw [← hq] at h1 h2
      rw [h2]
      rw [ea, add_plain] at h1
      simpa using h1
theorem len_weight {α : Type} {P : Program} {t e : TypeId} {d : DataW H} {l : List α} {R : Nat} (h : Len d l) (ht : P.underlying t = some (.slice e)) (hw : ∀ m ∈ d.weights P t, m ≤ R) : l.length * P.bytesOf e ≤ R := by
  rcases h with rfl | ⟨es, sp, rfl, hl⟩
  · simp
  · have := hw ((es.length + sp.length) * P.bytesOf e) (by simp [DataW.weights, ht])
    rw [← hl]
    exact Nat.le_trans (Nat.mul_le_mul_right _ (Nat.le_add_right _ _)) this
theorem bytesS : Try.prog.bytesOf 23 = 24 := by kernel_rfl
theorem specs_arg {v : Value} {d : DataW H} {p : List MemPlace} {r : Reach} {b0 : Nat} (hv : Value.okWide Try.prog w r b0 29 v) (h : DataW.Trod enc Try.prog w base spare held 29 v d p) : ∃ l, ShowS w v l ∧ ((∀ m ∈ d.weights Try.prog 29, m ≤ reachBytes) → l.length * 24 ≤ 140737488355328) := by
  obtain ⟨a0, len, cap, rfl⟩ := okWide_slice Try.underlying29 hv
  obtain ⟨fuel, hf⟩ := h
  obtain ⟨l, h1, h2⟩ := specs_of_trod hf
  refine ⟨l, h1, fun hw => ?_⟩
  have h8 := len_weight h2 Try.underlying29 hw
  rw [bytesS] at h8
  have hR : reachBytes ≤ 140737488355328 := by decide
  omega
end
theorem laidOut : laidOutB Try.prog = true := by kernel_rfl
theorem recP : Try.prog.readableRec 23 = true := by kernel_rfl
theorem recL : Try.prog.readableRec 29 = true := by kernel_rfl
theorem rowL : 29 < Try.prog.types.size := of_decide_eq_true (by kernel_rfl)
theorem rowP : 23 < Try.prog.types.size := of_decide_eq_true (by kernel_rfl)
section
variable {H : Type} {enc : TypeId × Value → H} {P : Program}
/-- What lay before the call lies as it lay: then the arguments read as they read. -/
theorem post_below {f : Func} {s : ChangeSpec} {apart fresh handsOn again : Bool} {W W' : World} {args : Array Value} {v : Value} {ds gs : List (DataW H)} {before pa pv : List MemPlace}
    (hW : DataW.Whole enc P f.params.toList s.vars apart W args.toList ds gs before)
    (hres : ∀ (b : Nat) (sp : Nat → Bool) (hd : Bool), DataW.TrodAll enc P W' b sp hd f.resultTypes.toList (v.resultList f.resultTypes.size) (s.fn H (ds ++ gs)).results [])
    (hargs : ∀ sp : Nat → Bool, (∀ p ∈ before, sp p.block = true) → DataW.TrodAll enc P W' 0 sp true f.params.toList args.toList (s.fn H (ds ++ gs)).args pa)
    (hvars : ∀ sp : Nat → Bool, (∀ p ∈ before, sp p.block = true) → DataW.TrodVars enc P W' sp s.vars (s.fn H (ds ++ gs)).vars pv)
    (hps : before = pa ++ pv) (hb : Below W.heap.size W W')
    (hok : ∀ (j : Nat) (t : TypeId) (r : Value), f.resultTypes[j]? = some t → (v.resultList f.resultTypes.size)[j]? = some r → Value.okWide P W' .any 0 t r) :
    s.post enc P f apart fresh handsOn again W args v W' := by
  have hlt : ∀ p ∈ before, p.block < W.heap.size := fun p hp => hW.lt p hp
  have hold : ∀ p ∈ before, (fun b => decide (b < W.heap.size)) p.block = true := fun p hp => by simpa using hlt p hp
  refine ⟨ds, gs, before, [], pa, pv, hW, hres _ _ _, hargs _ hold, hvars _ hold, World.keptBut_mono (fun p hp => ⟨hp, ?_⟩) (hb.frame (· ∈ before)), fun _ => ?_⟩
  · rw [hps, List.mem_append] at hp
    exact Or.inr hp
  · obtain ⟨_, _, _, _, _, hz, hn⟩ := hW
    refine ⟨hok, _, _, ([] ++ pa) ++ pv, ⟨[] ++ pa, pv, trodAll_append (hargs _ (fun _ _ => rfl)) (hres _ _ _), hvars _ (fun _ _ => rfl), rfl, ?_, ?_⟩, ?_⟩
    · intro b off hp
      have hin : MemPlace.cell b off ∈ before := by rw [hps]; simpa using hp
      rw [hb.frozen (hlt _ hin)]
      exact hz b off hin
    · intro ha
      have := hn ha
      rw [hps] at this
      simpa using this
    · intro p hp _
      rw [hps]
      simpa using hp
end

end Go.Proofs.Ytpaanlamjncajaa
