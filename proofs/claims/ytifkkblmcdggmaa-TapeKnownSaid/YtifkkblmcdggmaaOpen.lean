/-
  What an argument shows: a slice of bytes, a script; that it is read again behind the call.
-/
import Derived.Test.YtifkkblmcdggmaaSmall
import Derived.Lib.SmallJoins
import Derived.Deep.CondSized
import Derived.SizedLaws
import Derived.Deep.DeepHandedRow
set_option linter.unusedVariables false
set_option linter.unusedSimpArgs false
namespace Go.Proofs.Ytifkkblmcdggmaa
open Go Go.RowKit Go.ChangeShapes Go.WideShapes Go.ChangeAt Go.Deep

theorem cellsI : Try.prog.cellsOf 3 = 1 := by kernel_rfl
theorem cellsB : Try.prog.cellsOf 5 = 1 := by kernel_rfl
theorem cellsC : Try.prog.cellsOf 44 = 4 := by kernel_rfl
theorem cellsL : Try.prog.cellsOf 42 = 1 := by kernel_rfl
theorem cellsS : Try.prog.cellsOf 25 = 4 := by kernel_rfl
theorem fieldsS : Try.prog.underlying 25 = some (.struct #[⟨"Cpus", 3, 0, false, "", "", 0⟩, ⟨"Pages", 3, 1, false, "", "", 8⟩, ⟨"Calls", 22, 2, false, "", "", 16⟩, ⟨"Picks", 23, 3, false, "", "", 40⟩]) := by kernel_rfl

section
variable {H : Type} {enc : TypeId × Value → H} {w : World} {base : Nat} {spare : Nat → Bool} {held : Bool} {n : Nat}
theorem addr_plain {w : World} {a : Addr} {u : Value} (h : w.cell? a = some u) : a = ⟨a.block, a.off, none⟩ := by
  obtain ⟨b, o, s⟩ := a
  cases s with
  | none => rfl
  | some s => unfold World.cell? at h; dsimp only at h; split at h <;> simp at h
theorem add_plain (b o j : Nat) : (⟨b, o, none⟩ : Addr).add j = ⟨b, o + j, none⟩ := by
  by_cases hj : j = 0
  · subst hj; rfl
  · simp [Addr.add, hj]
theorem cells_one {a : Addr} {cs : List Value} (h : w.cells? base a 1 = some cs) : ∃ u, cs = [u] ∧ w.cell? a = some u := by
  obtain ⟨_, hl, hat⟩ := World.cells?_some h
  match cs, hl with
  | [u], _ => exact ⟨u, rfl, by simpa [Addr.add] using hat 0 (by decide)⟩
theorem cl_of_trod {cs : List Value} {x : DataW H × List MemPlace} (h : DataW.trod enc Try.prog w base spare held n 44 cs = some x) : ∃ c : Cl, cs = c.cells := by
  obtain ⟨xs, n', _, _, hl, hlen, hf⟩ := DataW.trod_struct (fields44.trans (by rw [fieldsOf44])) h
  rw [cellsC] at hl
  match cs, hl with
  | [a, b, c, d], _ =>
    have hx : xs.length = 4 := hlen
    have h0 : DataW.trod enc Try.prog w base spare held n' 3 (([a, b, c, d].drop 0).take (Try.prog.cellsOf 3)) = xs[0]? := hf 0 _ rfl
    have h1 : DataW.trod enc Try.prog w base spare held n' 3 (([a, b, c, d].drop 1).take (Try.prog.cellsOf 3)) = xs[1]? := hf 1 _ rfl
    have h2 : DataW.trod enc Try.prog w base spare held n' 3 (([a, b, c, d].drop 2).take (Try.prog.cellsOf 3)) = xs[2]? := hf 2 _ rfl
    have h3 : DataW.trod enc Try.prog w base spare held n' 3 (([a, b, c, d].drop 3).take (Try.prog.cellsOf 3)) = xs[3]? := hf 3 _ rfl
    rw [cellsI] at h0 h1 h2 h3
    obtain ⟨x0, e0, _, _⟩ := DataW.trod_int Try.underlying3 (h0.trans (List.getElem?_eq_getElem (by omega)))
    obtain ⟨x1, e1, _, _⟩ := DataW.trod_int Try.underlying3 (h1.trans (List.getElem?_eq_getElem (by omega)))
    obtain ⟨x2, e2, _, _⟩ := DataW.trod_int Try.underlying3 (h2.trans (List.getElem?_eq_getElem (by omega)))
    obtain ⟨x3, e3, _, _⟩ := DataW.trod_int Try.underlying3 (h3.trans (List.getElem?_eq_getElem (by omega)))
    simp at e0 e1 e2 e3
    subst e0 e1 e2 e3
    exact ⟨⟨x0, x1, x2, x3⟩, rfl⟩
/-- how long a list is, by its datum -/
def Len {α : Type} (d : DataW H) (l : List α) : Prop := l = [] ∨ ∃ es sp, d = .slice es sp ∧ es.length = l.length
theorem calls_of_trod {u : Value} {x : DataW H × List MemPlace} (h : DataW.trod enc Try.prog w base spare held n 42 [u] = some x) : ∃ l, ShowCalls w u l ∧ Len x.1 l := by
  rcases open_slice Try.underlying42 h with ⟨h0, _⟩ | ⟨a, len, cap, m, n', D, Pl, hcs, _, hl, hm, hmm, hx, hi⟩
  · obtain rfl : u = .slice none 0 0 := by simpa using h0
    exact ⟨[], Shows.nil w 4, .inl rfl⟩
  · obtain rfl : u = .slice (some a) len cap := by simpa using hcs
    have hlm : len ≤ m := by rw [hmm]; split <;> omega
    have hex : ∀ i, i < len → ∃ c : Cl, ∀ j (hj : j < 4), w.cell? (a.add (i * 4 + j)) = some (c.cells[j]'(by simpa [Cl.cells] using hj)) := by
      intro i him
      obtain ⟨cs', hc, ht⟩ := hi i (by omega)
      rw [cellsC] at hc
      obtain ⟨c, rfl⟩ := cl_of_trod ht
      obtain ⟨_, _, hat⟩ := World.cells?_some hc
      refine ⟨c, fun j hj => ?_⟩
      rw [← add_add, hat j hj]
      exact List.getElem?_eq_getElem _
    obtain ⟨f, hf⟩ := choose_lt hex
    refine ⟨(List.range len).map f, ⟨?_, some a, cap, by simp, by simpa using ⟨hl, hm⟩, fun hn => ?_⟩, .inr ⟨_, _, by rw [hx], by simp⟩⟩
    · rw [calls_length]
    · have hn' : 0 < len := by simpa using hn
      have h0 := hf 0 hn' 0 (by decide)
      have ea := addr_plain (w := w) (a := a) (by simpa [Addr.add] using h0)
      refine ⟨a.block, a.off, by rw [← ea], fun j hj => ?_⟩
      simp only [List.length_map, List.length_range] at hj
      have hq : j = j / 4 * 4 + j % 4 := by omega
      have h1 := hf (j / 4) (by omega) (j % 4) (by omega)
      have h2 := calls_at ((List.range len).map f) (j / 4) (j % 4) (by simp; omega) (by omega)
      rw [← hq] at h1 h2
      rw [h2]
      rw [ea, add_plain] at h1
      simpa using h1
theorem ints_of_trod {u : Value} {x : DataW H × List MemPlace} (h : DataW.trod enc Try.prog w base spare held n 23 [u] = some x) : ∃ l, ShowInts w u l ∧ Len x.1 l := by
  rcases open_ints Try.underlying23 Try.underlying3 cellsI h with ⟨h0, _⟩ | ⟨a, len, cap, zs, hcs, _, hl, hm, hz, hx, hcell, _⟩
  · obtain rfl : u = .slice none 0 0 := by simpa using h0
    exact ⟨[], Shows.nil w 1, .inl rfl⟩
  · obtain rfl : u = .slice (some a) len cap := by simpa using hcs
    have hlz : len ≤ zs.length := by rw [hz]; split <;> omega
    have hlt : (zs.take len).length = len := by rw [List.length_take]; omega
    refine ⟨zs.take len, ⟨by simp, some a, cap, by rw [hlt], by rw [hlt]; exact ⟨hl, hm⟩, fun hn => ?_⟩, .inr ⟨_, _, by rw [hx], by simp [lits]⟩⟩
    rw [hlt] at hn ⊢
    have ea := addr_plain (w := w) (a := a) (by simpa [Addr.add] using hcell 0 (by omega))
    refine ⟨a.block, a.off, by rw [← ea], fun j hj => ?_⟩
    have h1 := hcell j (by omega)
    rw [ea, add_plain] at h1
    rw [h1]
    have hjz : j < zs.length := by omega
    have hjl : j < len := by omega
    simp [List.getD, hjz, hjl]
theorem lists_of_trod {u : Value} {x : DataW H × List MemPlace} (h : DataW.trod enc Try.prog w base spare held n 22 [u] = some x) : ∃ L, ShowLists w u L ∧ (L = [] ∨ ∃ es sp, x.1 = .slice es sp ∧ es.length = L.length ∧ ∀ i (h : i < L.length) (h' : i < es.length), Len es[i] L[i]) := by
  rcases open_slice Try.underlying22 h with ⟨h0, _⟩ | ⟨a, len, cap, m, n', D, Pl, hcs, _, hl, hm, hmm, hx, hi⟩
  · obtain rfl : u = .slice none 0 0 := by simpa using h0
    exact ⟨[], ⟨[], rfl, Shows.nil w 1, fun i hi => absurd hi (Nat.not_lt_zero _)⟩, .inl rfl⟩
  · obtain rfl : u = .slice (some a) len cap := by simpa using hcs
    have hlm : len ≤ m := by rw [hmm]; split <;> omega
    have hex : ∀ i, i < len → ∃ p : Value × List Cl, w.cell? (a.add i) = some p.1 ∧ ShowCalls w p.1 p.2 ∧ Len (D i) p.2 := by
      intro i him
      obtain ⟨cs', hc, ht⟩ := hi i (by omega)
      rw [cellsL, Nat.mul_one] at hc
      obtain ⟨v, rfl, hv⟩ := cells_one hc
      obtain ⟨l, hl, hl2⟩ := calls_of_trod ht
      exact ⟨(v, l), hv, hl, hl2⟩
    obtain ⟨f, hf⟩ := choose_lt hex
    refine ⟨(List.range len).map fun i => (f i).2, ⟨(List.range len).map fun i => (f i).1, by simp, ⟨by simp, some a, cap, by simp, by simpa using ⟨hl, hm⟩, fun hn => ?_⟩, fun i hi hi' => ?_⟩, .inr ⟨_, _, by rw [hx], by simp, fun i hi hi' => ?_⟩⟩
    · have hn' : 0 < len := by simpa using hn
      have ea := addr_plain (w := w) (a := a) (by simpa [Addr.add] using (hf 0 hn').1)
      refine ⟨a.block, a.off, by rw [← ea], fun j hj => ?_⟩
      have hj' : j < len := by simpa using hj
      have h1 := (hf j hj').1
      rw [ea, add_plain] at h1
      rw [h1]
      simp [hj']
    · have hi2 : i < len := by simpa using hi
      simpa using (hf i hi2).2.1
    · have hi2 : i < len := by simpa using hi
      simpa using (hf i hi2).2.2
theorem bytes_of_trod {u : Value} {x : DataW H × List MemPlace} (h : DataW.trod enc Try.prog w base spare held n 27 [u] = some x) :
    (u = .slice none 0 0 ∧ x.1 = .nil) ∨ ∃ (l : List Int) (ao : Option Addr) (cap : Nat) (sp : List (DataW H)), u = .slice ao l.length cap ∧ ShowBytes w u l ∧ Bytey l ∧ x.1 = .slice (lits .u8 l) sp := by
  rcases open_ints Try.underlying27 Try.underlying5 cellsB h with ⟨h0, h1⟩ | ⟨a, len, cap, zs, hcs, _, hl, hm, hz, hx, hcell, hwf⟩
  · left
    exact ⟨by simpa using h0, by rw [h1]⟩
  · right
    obtain rfl : u = .slice (some a) len cap := by simpa using hcs
    have hlz : len ≤ zs.length := by rw [hz]; split <;> omega
    have hlt : (zs.take len).length = len := by rw [List.length_take]; omega
    refine ⟨zs.take len, some a, cap, _, by rw [hlt], ⟨by simp, some a, cap, by rw [hlt], by rw [hlt]; exact ⟨hl, hm⟩, fun hn => ?_⟩, fun y hy => ?_, by rw [hx]⟩
    · rw [hlt] at hn ⊢
      have ea := addr_plain (w := w) (a := a) (by simpa [Addr.add] using hcell 0 (by omega))
      refine ⟨a.block, a.off, by rw [← ea], fun j hj => ?_⟩
      have h1 := hcell j (by omega)
      rw [ea, add_plain] at h1
      rw [h1]
      have hjz : j < zs.length := by omega
      have hjl : j < len := by omega
      simp [List.getD, hjz, hjl]
    · exact Go.bounds_u8 (hwf y (List.mem_of_mem_take hy))
theorem bytes_arg {v : Value} {d : DataW H} {p : List MemPlace} {r : Reach} {b0 : Nat} (hv : Value.okWide Try.prog w r b0 27 v) (h : DataW.Trod enc Try.prog w base spare held 27 v d p) :
    ∃ l, ShowBytes w v l ∧ Bytey l ∧ (l = [] ∨ ∃ sp, d = .slice (lits .u8 l) sp) := by
  obtain ⟨a0, len, cap, rfl⟩ := okWide_slice Try.underlying27 hv
  obtain ⟨fuel, hf⟩ := h
  rcases bytes_of_trod hf with ⟨h1, h2⟩ | ⟨l, ao, c, sp, _, h2, h3, h4⟩
  · rw [h1]
    exact ⟨[], Shows.nil w 1, fun x hx => (by simp at hx), .inl rfl⟩
  · exact ⟨l, h2, h3, .inr ⟨sp, h4⟩⟩
/-- what the reach gives of a script's lists -/
theorem weights_all {P : Program} {e : TypeId} {es : List (DataW H)} {d : DataW H} (hd : d ∈ es) {m : Nat} (hm : m ∈ d.weights P e) : m ∈ DataW.weightsAll P e es := by
  induction es with
  | nil => cases hd
  | cons x r ih =>
    rw [DataW.weightsAll, List.mem_append]
    rcases List.mem_cons.1 hd with rfl | h
    · exact .inl hm
    · exact .inr (ih h)
theorem len_weight {α : Type} {P : Program} {t e : TypeId} {d : DataW H} {l : List α} {R : Nat} (h : Len d l) (ht : P.underlying t = some (.slice e)) (hw : ∀ m ∈ d.weights P t, m ≤ R) : l.length * P.bytesOf e ≤ R := by
  rcases h with rfl | ⟨es, sp, rfl, hl⟩
  · simp
  · have := hw ((es.length + sp.length) * P.bytesOf e) (by simp [DataW.weights, ht])
    rw [← hl]
    exact Nat.le_trans (Nat.mul_le_mul_right _ (Nat.le_add_right _ _)) this
theorem bytesI : Try.prog.bytesOf 3 = 8 := by kernel_rfl
theorem bytesL : Try.prog.bytesOf 42 = 24 := by kernel_rfl
theorem bytesC : Try.prog.bytesOf 44 = 32 := by kernel_rfl
theorem scr_of_trod {v : Value} {d : DataW H} {p : List MemPlace} {r : Reach} {b0 : Nat} (hv : Value.okWide Try.prog w r b0 25 v) (h : DataW.Trod enc Try.prog w base spare held 25 v d p) :
    ∃ S, ShowScr w v S ∧ ((∀ m ∈ d.weights Try.prog 25, m ≤ reachBytes) → S.picks.length * 8 ≤ 140737488355328 ∧ S.calls.length * 24 ≤ 140737488355328 ∧ ∀ l ∈ S.calls, l.length * 32 ≤ 140737488355328) := by
  obtain ⟨c0, c1, c2, c3, y0, y1, y2, y3, m, rfl, hd, _, h0, h1, h2, h3⟩ := Go.Joins.open_agg4 fieldsS (by kernel_rfl) cellsS hv h
  obtain ⟨x0, e0, _, _⟩ := DataW.trod_int Try.underlying3 h0
  obtain ⟨x1, e1, _, _⟩ := DataW.trod_int Try.underlying3 h1
  obtain ⟨L, hL, hL2⟩ := lists_of_trod h2
  obtain ⟨l, hl, hl2⟩ := ints_of_trod h3
  simp at e0 e1
  subst e0 e1
  refine ⟨⟨x0, x1, L, l⟩, ⟨c2, c3, rfl, hL, hl⟩, fun hw => ?_⟩
  rw [hd] at hw
  have hw2 : ∀ m, (m ∈ y2.1.weights Try.prog 22 ∨ m ∈ y3.1.weights Try.prog 23) → m ≤ reachBytes := by
    intro m hm
    refine hw m ?_
    rw [DataW.weights, fieldsS]
    dsimp only
    simp only [List.map_cons, List.map_nil, DataW.weightsEach, List.mem_append]
    rcases hm with hm | hm
    · exact .inr (.inr (.inl hm))
    · exact .inr (.inr (.inr (.inl hm)))
  have hR : reachBytes ≤ 140737488355328 := by decide
  refine ⟨?_, ?_, ?_⟩
  · have := len_weight hl2 Try.underlying23 (fun m hm => hw2 m (.inr hm))
    rw [bytesI] at this
    exact Nat.le_trans this hR
  · have : Len y2.1 L := by
      rcases hL2 with h | ⟨es, sp, h1, h2, _⟩
      · exact .inl h
      · exact .inr ⟨es, sp, h1, h2⟩
    have := len_weight this Try.underlying22 (fun m hm => hw2 m (.inl hm))
    rw [bytesL] at this
    exact Nat.le_trans this hR
  · intro c hc
    rcases hL2 with h | ⟨es, sp, h1, h2, h3⟩
    · subst h; cases hc
    · obtain ⟨i, hi, rfl⟩ := List.getElem_of_mem hc
      have hie : i < es.length := by rw [h2]; exact hi
      have := len_weight (h3 i hi hie) Try.underlying42 (fun m hm => hw2 m (.inl (by
        rw [h1, DataW.weights, Try.underlying22]
        dsimp only
        rw [List.mem_cons, List.mem_append]
        exact .inr (.inl (weights_all (List.getElem_mem hie) hm)))))
      rw [bytesC] at this
      exact Nat.le_trans this hR
end

theorem bytesB : Try.prog.bytesOf 5 = 1 := by kernel_rfl
theorem laidOut : laidOutB Try.prog = true := by kernel_rfl
theorem recB : Try.prog.readableRec 27 = true := by kernel_rfl
theorem recS : Try.prog.readableRec 25 = true := by kernel_rfl
theorem rowB : 27 < Try.prog.types.size := of_decide_eq_true (by kernel_rfl)
theorem rowS : 25 < Try.prog.types.size := of_decide_eq_true (by kernel_rfl)
section
variable {H : Type} {enc : TypeId × Value → H} {P : Program}
/-- What lay before the call lies as it lay: then the arguments read as they read. -/
theorem post_below {f : Func} {s : ChangeSpec} {apart fresh handsOn again : Bool} {W W' : World} {args : Array Value} {v : Value} {ds gs : List (DataW H)} {before pa pv : List MemPlace}
    (hW : DataW.Whole enc P f.params.toList s.vars apart W args.toList ds gs before)
    (hres : ∀ (b : Nat) (sp : Nat → Bool) (hd : Bool), DataW.TrodAll enc P W' b sp hd f.resultTypes.toList (v.resultList f.resultTypes.size) (s.fn H (ds ++ gs)).results [])
    (hargs : ∀ sp : Nat → Bool, (∀ p ∈ before, sp p.block = true) → DataW.TrodAll enc P W' 0 sp true f.params.toList args.toList (s.fn H (ds ++ gs)).args pa)
    (hvars : ∀ sp : Nat → Bool, (∀ p ∈ before, sp p.block = true) → DataW.TrodVars enc P W' sp s.vars (s.fn H (ds ++ gs)).vars pv)
    (hps : before = pa ++ pv) (hb : Below W.heap.size W W')
    (hok : ∀ (j : Nat) (t : TypeId) (r : Value), f.resultTypes[j]? = some t → (v.resultList f.resultTypes.size)[j]? = some r → Value.okWide P W' .any 0 t r) :
    s.post enc P f apart fresh handsOn again W args v W' := by
  have hlt : ∀ p ∈ before, p.block < W.heap.size := fun p hp => hW.lt p hp
  have hold : ∀ p ∈ before, (fun b => decide (b < W.heap.size)) p.block = true := fun p hp => by simpa using hlt p hp
  refine ⟨ds, gs, before, [], pa, pv, hW, hres _ _ _, hargs _ hold, hvars _ hold, World.keptBut_mono (fun p hp => ⟨hp, ?_⟩) (hb.frame (· ∈ before)), fun _ => ?_⟩
  · rw [hps, List.mem_append] at hp
    exact Or.inr hp
  · obtain ⟨_, _, _, _, _, hz, hn⟩ := hW
    refine ⟨hok, _, _, ([] ++ pa) ++ pv, ⟨[] ++ pa, pv, trodAll_append (hargs _ (fun _ _ => rfl)) (hres _ _ _), hvars _ (fun _ _ => rfl), rfl, ?_, ?_⟩, ?_⟩
    · intro b off hp
      have hin : MemPlace.cell b off ∈ before := by rw [hps]; simpa using hp
      rw [hb.frozen (hlt _ hin)]
      exact hz b off hin
    · intro ha
      have := hn ha
      rw [hps] at this
      simpa using this
    · intro p hp _
      rw [hps]
      simpa using hp
end

end Go.Proofs.Ytifkkblmcdggmaa
