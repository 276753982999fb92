/-
  What an argument shows: a slice of bytes, a script; that it is read again behind the call.
-/
import Derived.Test.YtifkkblmcdggmaaSmall
import Derived.Lib.SmallJoins
import Derived.Deep.CondSized
import Derived.SizedLaws
import Derived.Deep.DeepHandedRow
set_option linter.unusedVariables false
set_option linter.unusedSimpArgs false
namespace Go.Proofs.Ytifkkblmcdggmaa
open Go Go.RowKit Go.ChangeShapes Go.WideShapes Go.ChangeAt Go.Deep

theorem cellsI : Try.prog.cellsOf 3 = 1 := by kernel_rfl
theorem cellsB : Try.prog.cellsOf 5 = 1 := by kernel_rfl
theorem cellsC : Try.prog.cellsOf 44 = 4 := by kernel_rfl
theorem cellsL : Try.prog.cellsOf 42 = 1 := by kernel_rfl
theorem cellsS : Try.prog.cellsOf 25 = 4 := by kernel_rfl
theorem fieldsS : Try.prog.underlying 25 = some (.struct #[⟨"Cpus", 3, 0, false, "", "", 0⟩, ⟨"Pages", 3, 1, false, "", "", 8⟩, ⟨"Calls", 22, 2, false, "", "", 16⟩, ⟨"Picks", 23, 3, false, "", "", 40⟩]) := by kernel_rfl

section
variable {H : Type} {enc : TypeId × Value → H} {w : World} {base : Nat} {spare : Nat → Bool} {held : Bool} {n : Nat}
theorem addr_plain {w : World} {a : Addr} {u : Value} (h : w.cell? a = some u) : a = ⟨a.block, a.off, none⟩ := by
  obtain ⟨b, o, s⟩ := a
  cases s with
  | none => rfl
  | some s => unfold World.cell? at h; dsimp only at h; split at h <;> simp at h
theorem add_plain (b o j : Nat) : (⟨b, o, none⟩ : Addr).add j = ⟨b, o + j, none⟩ := by
  by_cases hj : j = 0
  · subst hj; rfl
  · simp [Addr.add, hj]
theorem cells_one {a : Addr} {cs : List Value} (h : w.cells? base a 1 = some cs) : ∃ u, cs = [u] ∧ w.cell? a = some u := by
  obtain ⟨_, hl, hat⟩ := World.cells?_some h
  match cs, hl with
  | [u], _ => exact ⟨u, rfl, by simpa [Addr.add] using hat 0 (by decide)⟩
theorem cl_of_trod {cs : List Value} {x : DataW H × List MemPlace} (h : DataW.trod enc Try.prog w base spare held n 44 cs = some x) : ∃ c : Cl, cs = c.cells := by
  obtain ⟨xs, n', _, _, hl, hlen, hf⟩ := DataW.trod_struct (fields44.trans (by rw [fieldsOf44])) h
  rw [cellsC] at hl
  match cs, hl with
  | [a, b, c, d], _ =>
    have hx : xs.length = 4 := hlen
    have h0 : DataW.trod enc Try.prog w base spare held n' 3 (([a, b, c, d].drop 0).take (Try.prog.cellsOf 3)) = xs[0]? := hf 0 _ rfl
    have h1 : DataW.trod enc Try.prog w base spare held n' 3 (([a, b, c, d].drop 1).take (Try.prog.cellsOf 3)) = xs[1]? := hf 1 _ rfl
    have h2 : DataW.trod enc Try.prog w base spare held n' 3 (([a, b, c, d].drop 2).take (Try.prog.cellsOf 3)) = xs[2]? := hf 2 _ rfl
    have h3 : DataW.trod enc Try.prog w base spare held n' 3 (([a, b, c, d].drop 3).take (Try.prog.cellsOf 3)) = xs[3]? := hf 3 _ rfl
    rw [cellsI] at h0 h1 h2 h3
    obtain ⟨x0, e0, _, _⟩ := DataW.trod_int Try.underlying3 (h0.trans (List.getElem?_eq_getElem (by omega)))
    obtain ⟨x1, e1, _, _⟩ := DataW.trod_int Try.underlying3 (h1.trans (List.getElem?_eq_getElem (by omega)))
    obtain ⟨x2, e2, _, _⟩ := DataW.trod_int Try.underlying3 (h2.trans (List.getElem?_eq_getElem (by omega)))
    obtain ⟨x3, e3, _, _⟩ := DataW.trod_int Try.underlying3 (h3.trans (List.getElem?_eq_getElem (by omega)))
    simp at e0 e1 e2 e3
    subst e0 e1 e2 e3
    exact ⟨⟨x0, x1, x2, x3⟩, rfl⟩
theorem calls_of_trod {u : Value} {x : DataW H × List MemPlace} (h : DataW.trod enc Try.prog w base spare held n 42 [u] = some x) : ∃ l, ShowCalls w u l := by
  rcases open_slice Try.underlying42 h with ⟨h0, _⟩ | ⟨a, len, cap, m, n', D, Pl, hcs, _, hl, hm, hmm, _, hi⟩
  · obtain rfl : u = .slice none 0 0 := by simpa using h0
    exact ⟨[], Shows.nil w 4⟩
  · obtain rfl : u = .slice (some a) len cap := by simpa using hcs
    have hlm : len ≤ m := by rw [hmm]; split <;> omega
    have hex : ∀ i, i < len → ∃ c : Cl, ∀ j (hj : j < 4), w.cell? (a.add (i * 4 + j)) = some (c.cells[j]'(by simpa [Cl.cells] using hj)) := by
      intro i him
      obtain ⟨cs', hc, ht⟩ := hi i (by omega)
      rw [cellsC] at hc
      obtain ⟨c, rfl⟩ := cl_of_trod ht
      obtain ⟨_, _, hat⟩ := World.cells?_some hc
      refine ⟨c, fun j hj => ?_⟩
      rw [← add_add, hat j hj]
      exact List.getElem?_eq_getElem _
    obtain ⟨f, hf⟩ := choose_lt hex
    refine ⟨(List.range len).map f, ?_, some a, cap, by simp, by simpa using ⟨hl, hm⟩, fun hn => ?_⟩
    · rw [calls_length]
    · have hn' : 0 < len := by simpa using hn
      have h0 := hf 0 hn' 0 (by decide)
      have ea := addr_plain (w := w) (a := a) (by simpa [Addr.add] using h0)
      refine ⟨a.block, a.off, by rw [← ea], fun j hj => ?_⟩
      simp only [List.length_map, List.length_range] at hj
      have hq : j = j / 4 * 4 + j % 4 := by omega
      have h1 := hf (j / 4) (by omega) (j % 4) (by omega)
      have h2 := calls_at ((List.range len).map f) (j / 4) (j % 4) (by simp; omega) (by omega)
      rw [← hq] at h1 h2
      rw [h2]
      rw [ea, add_plain] at h1
      simpa using h1
theorem ints_of_trod {u : Value} {x : DataW H × List MemPlace} (h : DataW.trod enc Try.prog w base spare held n 23 [u] = some x) : ∃ l, ShowInts w u l := by
  rcases open_ints Try.underlying23 Try.underlying3 cellsI h with ⟨h0, _⟩ | ⟨a, len, cap, zs, hcs, _, hl, hm, hz, _, hcell, _⟩
  · obtain rfl : u = .slice none 0 0 := by simpa using h0
    exact ⟨[], Shows.nil w 1⟩
  · obtain rfl : u = .slice (some a) len cap := by simpa using hcs
    have hlz : len ≤ zs.length := by rw [hz]; split <;> omega
    have hlt : (zs.take len).length = len := by rw [List.length_take]; omega
    refine ⟨zs.take len, by simp, some a, cap, by rw [hlt], by rw [hlt]; exact ⟨hl, hm⟩, fun hn => ?_⟩
    rw [hlt] at hn ⊢
    have ea := addr_plain (w := w) (a := a) (by simpa [Addr.add] using hcell 0 (by omega))
    refine ⟨a.block, a.off, by rw [← ea], fun j hj => ?_⟩
    have h1 := hcell j (by omega)
    rw [ea, add_plain] at h1
    rw [h1]
    have hjz : j < zs.length := by omega
    have hjl : j < len := by omega
    simp [List.getD, hjz, hjl]
theorem lists_of_trod {u : Value} {x : DataW H × List MemPlace} (h : DataW.trod enc Try.prog w base spare held n 22 [u] = some x) : ∃ L, ShowLists w u L := by
  rcases open_slice Try.underlying22 h with ⟨h0, _⟩ | ⟨a, len, cap, m, n', D, Pl, hcs, _, hl, hm, hmm, _, hi⟩
  · obtain rfl : u = .slice none 0 0 := by simpa using h0
    exact ⟨[], [], rfl, Shows.nil w 1, fun i hi => absurd hi (Nat.not_lt_zero _)⟩
  · obtain rfl : u = .slice (some a) len cap := by simpa using hcs
    have hlm : len ≤ m := by rw [hmm]; split <;> omega
    have hex : ∀ i, i < len → ∃ p : Value × List Cl, w.cell? (a.add i) = some p.1 ∧ ShowCalls w p.1 p.2 := by
      intro i him
      obtain ⟨cs', hc, ht⟩ := hi i (by omega)
      rw [cellsL, Nat.mul_one] at hc
      obtain ⟨v, rfl, hv⟩ := cells_one hc
      obtain ⟨l, hl⟩ := calls_of_trod ht
      exact ⟨(v, l), hv, hl⟩
    obtain ⟨f, hf⟩ := choose_lt hex
    refine ⟨(List.range len).map fun i => (f i).2, (List.range len).map fun i => (f i).1, by simp, ⟨by simp, some a, cap, by simp, by simpa using ⟨hl, hm⟩, fun hn => ?_⟩, fun i hi hi' => ?_⟩
    · have hn' : 0 < len := by simpa using hn
      have ea := addr_plain (w := w) (a := a) (by simpa [Addr.add] using (hf 0 hn').1)
      refine ⟨a.block, a.off, by rw [← ea], fun j hj => ?_⟩
      have hj' : j < len := by simpa using hj
      have h1 := (hf j hj').1
      rw [ea, add_plain] at h1
      rw [h1]
      simp [hj']
    · have hi2 : i < len := by simpa using hi
      simpa using (hf i hi2).2
theorem bytes_of_trod {u : Value} {x : DataW H × List MemPlace} (h : DataW.trod enc Try.prog w base spare held n 27 [u] = some x) :
    (u = .slice none 0 0 ∧ x.1 = .nil) ∨ ∃ (l : List Int) (ao : Option Addr) (cap : Nat) (sp : List (DataW H)), u = .slice ao l.length cap ∧ ShowBytes w u l ∧ Bytey l ∧ x.1 = .slice (lits .u8 l) sp := by
  rcases open_ints Try.underlying27 Try.underlying5 cellsB h with ⟨h0, h1⟩ | ⟨a, len, cap, zs, hcs, _, hl, hm, hz, hx, hcell, hwf⟩
  · left
    exact ⟨by simpa using h0, by rw [h1]⟩
  · right
    obtain rfl : u = .slice (some a) len cap := by simpa using hcs
    have hlz : len ≤ zs.length := by rw [hz]; split <;> omega
    have hlt : (zs.take len).length = len := by rw [List.length_take]; omega
    refine ⟨zs.take len, some a, cap, _, by rw [hlt], ⟨by simp, some a, cap, by rw [hlt], by rw [hlt]; exact ⟨hl, hm⟩, fun hn => ?_⟩, fun y hy => ?_, by rw [hx]⟩
    · rw [hlt] at hn ⊢
      have ea := addr_plain (w := w) (a := a) (by simpa [Addr.add] using hcell 0 (by omega))
      refine ⟨a.block, a.off, by rw [← ea], fun j hj => ?_⟩
      have h1 := hcell j (by omega)
      rw [ea, add_plain] at h1
      rw [h1]
      have hjz : j < zs.length := by omega
      have hjl : j < len := by omega
      simp [List.getD, hjz, hjl]
    · exact Go.bounds_u8 (hwf y (List.mem_of_mem_take hy))
theorem scr_of_trod {v : Value} {d : DataW H} {p : List MemPlace} {r : Reach} {b0 : Nat} (hv : Value.okWide Try.prog w r b0 25 v) (h : DataW.Trod enc Try.prog w base spare held 25 v d p) :
    ∃ S, ShowScr w v S ∧ ∃ d0 d1 d2 d3, d = .agg [d0, d1, d2, d3] := by
  obtain ⟨c0, c1, c2, c3, y0, y1, y2, y3, m, rfl, hd, _, h0, h1, h2, h3⟩ := Go.Joins.open_agg4 fieldsS (by kernel_rfl) cellsS hv h
  obtain ⟨x0, e0, _, _⟩ := DataW.trod_int Try.underlying3 h0
  obtain ⟨x1, e1, _, _⟩ := DataW.trod_int Try.underlying3 h1
  obtain ⟨L, hL⟩ := lists_of_trod h2
  obtain ⟨l, hl⟩ := ints_of_trod h3
  simp at e0 e1
  subst e0 e1
  exact ⟨⟨x0, x1, L, l⟩, ⟨c2, c3, rfl, hL, hl⟩, _, _, _, _, hd⟩
end

theorem laidOut : laidOutB Try.prog = true := by kernel_rfl
theorem recB : Try.prog.readableRec 27 = true := by kernel_rfl
theorem recS : Try.prog.readableRec 25 = true := by kernel_rfl
theorem rowB : 27 < Try.prog.types.size := of_decide_eq_true (by kernel_rfl)
theorem rowS : 25 < Try.prog.types.size := of_decide_eq_true (by kernel_rfl)
section
variable {H : Type} {enc : TypeId × Value → H} {P : Program}
/-- What lay before the call lies as it lay: then the arguments read as they read. -/
theorem post_below {f : Func} {s : ChangeSpec} {apart fresh handsOn again : Bool} {W W' : World} {args : Array Value} {v : Value} {ds gs : List (DataW H)} {before pa pv : List MemPlace}
    (hW : DataW.Whole enc P f.params.toList s.vars apart W args.toList ds gs before)
    (hres : ∀ (b : Nat) (sp : Nat → Bool) (hd : Bool), DataW.TrodAll enc P W' b sp hd f.resultTypes.toList (v.resultList f.resultTypes.size) (s.fn H (ds ++ gs)).results [])
    (hargs : ∀ sp : Nat → Bool, (∀ p ∈ before, sp p.block = true) → DataW.TrodAll enc P W' 0 sp true f.params.toList args.toList (s.fn H (ds ++ gs)).args pa)
    (hvars : ∀ sp : Nat → Bool, (∀ p ∈ before, sp p.block = true) → DataW.TrodVars enc P W' sp s.vars (s.fn H (ds ++ gs)).vars pv)
    (hps : before = pa ++ pv) (hb : Below W.heap.size W W')
    (hok : ∀ (j : Nat) (t : TypeId) (r : Value), f.resultTypes[j]? = some t → (v.resultList f.resultTypes.size)[j]? = some r → Value.okWide P W' .any 0 t r) :
    s.post enc P f apart fresh handsOn again W args v W' := by
  have hlt : ∀ p ∈ before, p.block < W.heap.size := fun p hp => hW.lt p hp
  have hold : ∀ p ∈ before, (fun b => decide (b < W.heap.size)) p.block = true := fun p hp => by simpa using hlt p hp
  refine ⟨ds, gs, before, [], pa, pv, hW, hres _ _ _, hargs _ hold, hvars _ hold, World.keptBut_mono (fun p hp => ⟨hp, ?_⟩) (hb.frame (· ∈ before)), fun _ => ?_⟩
  · rw [hps, List.mem_append] at hp
    exact Or.inr hp
  · obtain ⟨_, _, _, _, _, hz, hn⟩ := hW
    refine ⟨hok, _, _, ([] ++ pa) ++ pv, ⟨[] ++ pa, pv, trodAll_append (hargs _ (fun _ _ => rfl)) (hres _ _ _), hvars _ (fun _ _ => rfl), rfl, ?_, ?_⟩, ?_⟩
    · intro b off hp
      have hin : MemPlace.cell b off ∈ before := by rw [hps]; simpa using hp
      rw [hb.frozen (hlt _ hin)]
      exact hz b off hin
    · intro ha
      have := hn ha
      rw [hps] at this
      simpa using this
    · intro p hp _
      rw [hps]
      simpa using hp
end

end Go.Proofs.Ytifkkblmcdggmaa
