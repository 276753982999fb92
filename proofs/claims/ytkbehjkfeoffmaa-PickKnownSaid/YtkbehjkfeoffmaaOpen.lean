/-
  What an argument shows: a list of bools, of numbers, two numbers; that it is read again behind the call.
-/
import Derived.Test.YtkbehjkfeoffmaaMem
import Derived.Lib.SmallJoins
import Derived.Deep.CondSized
import Derived.SizedLaws
import Derived.Deep.DeepHandedRow
set_option linter.unusedVariables false
set_option linter.unusedSimpArgs false
namespace Go.Proofs.Ytkbehjkfeoffmaa
open Go Go.RowKit Go.ChangeShapes Go.WideShapes Go.ChangeAt Go.Deep

theorem cellsI : Try.prog.cellsOf 3 = 1 := by kernel_rfl
theorem cellsB : Try.prog.cellsOf 4 = 1 := by kernel_rfl
theorem cellsA : Try.prog.cellsOf 28 = 2 := by kernel_rfl
theorem bulk_one {H : Type} (d : DataW H) : 1 ≤ Rows.uptoBulk d := by
  cases d with
  | lit l => cases l <;> simp [Rows.uptoBulk]
  | nil => simp [Rows.uptoBulk]
  | ptr d => simp [Rows.uptoBulk]
  | slice elems spare => simp [Rows.uptoBulk]
  | agg parts => simp [Rows.uptoBulk]
  | iface t d => simp [Rows.uptoBulk]
  | map entries => simp [Rows.uptoBulk]
  | held h => simp [Rows.uptoBulk]
theorem bulk_length {H : Type} (l : List (DataW H)) : l.length ≤ Rows.uptoBulkAll l := by
  induction l with
  | nil => simp [Rows.uptoBulkAll]
  | cons x r ih => have := bulk_one x; simp only [Rows.uptoBulkAll, List.length_cons]; omega
section
variable {H : Type} {enc : TypeId × Value → H} {w : World} {base : Nat} {spare : Nat → Bool} {held : Bool} {n : Nat}
theorem addr_plain {w : World} {a : Addr} {u : Value} (h : w.cell? a = some u) : a = ⟨a.block, a.off, none⟩ := by
  obtain ⟨b, o, s⟩ := a
  cases s with
  | none => rfl
  | some s => unfold World.cell? at h; dsimp only at h; split at h <;> simp at h
theorem add_plain (b o j : Nat) : (⟨b, o, none⟩ : Addr).add j = ⟨b, o + j, none⟩ := by
  by_cases hj : j = 0
  · subst hj; rfl
  · simp [Addr.add, hj]
/-- a slice whose elements are one cell each, of a known form -/
theorem shows_of {α : Type} [Inhabited α] {g : α → Value} {a : Addr} {len cap : Nat} (hl : len ≤ cap) (hm : cap ≤ maxLen) (hex : ∀ i, i < len → ∃ c : α, w.cell? (a.add i) = some (g c)) : ∃ l : List α, l.length = len ∧ Shows w (.slice (some a) len cap) len 1 (l.map g) := by
  obtain ⟨f, hf⟩ := choose_lt hex
  refine ⟨(List.range len).map f, by simp, by simp, some a, cap, rfl, ⟨hl, hm⟩, fun hn => ?_⟩
  have ea := addr_plain (w := w) (a := a) (by simpa [Addr.add] using hf 0 hn)
  refine ⟨a.block, a.off, by rw [← ea], fun j hj => ?_⟩
  have h1 := hf j (by omega)
  rw [ea, add_plain] at h1
  rw [h1]
  have : j < len := by omega
  simp [this]
theorem bools_of_trod {u : Value} {x : DataW H × List MemPlace} (h : DataW.trod enc Try.prog w base spare held n 22 [u] = some x) : ∃ l, ShowB w u l ∧ l.length + 1 ≤ Rows.uptoBulk x.1 := by
  rcases open_slice1 Try.underlying22 cellsB h with ⟨h0, rfl⟩ | ⟨a, len, cap, m, n', V, D, Pl, hcs, _, hl, hm, hmm, rfl, hi⟩
  · obtain rfl : u = .slice none 0 0 := by simpa using h0
    exact ⟨[], Shows.nil w 1, by simp [Rows.uptoBulk]⟩
  · obtain rfl : u = .slice (some a) len cap := by simpa using hcs
    have hlm : len ≤ m := by rw [hmm]; split <;> omega
    obtain ⟨l, h1, h2⟩ := shows_of (w := w) (g := Value.bool) (a := a) hl hm (fun i hin => by
      obtain ⟨hc, ht⟩ := hi i (by omega)
      obtain ⟨b, e, _⟩ := DataW.trod_bool Try.underlying4 ht
      simp at e
      exact ⟨b, by rw [hc, e]⟩)
    refine ⟨l, by unfold ShowB; rw [h1]; exact h2, ?_⟩
    have := bulk_length ((List.range len).map D)
    simp only [Rows.uptoBulk]
    simp at this
    omega
theorem ints_of_trod {u : Value} {x : DataW H × List MemPlace} (h : DataW.trod enc Try.prog w base spare held n 27 [u] = some x) : ∃ l, ShowI w u l := by
  rcases open_slice1 Try.underlying27 cellsI h with ⟨h0, rfl⟩ | ⟨a, len, cap, m, n', V, D, Pl, hcs, _, hl, hm, hmm, rfl, hi⟩
  · obtain rfl : u = .slice none 0 0 := by simpa using h0
    exact ⟨[], Shows.nil w 1⟩
  · obtain rfl : u = .slice (some a) len cap := by simpa using hcs
    have hlm : len ≤ m := by rw [hmm]; split <;> omega
    obtain ⟨l, h1, h2⟩ := shows_of (w := w) (g := Value.int .i64) (a := a) hl hm (fun i hin => by
      obtain ⟨hc, ht⟩ := hi i (by omega)
      obtain ⟨b, e, _, _⟩ := DataW.trod_int Try.underlying3 ht
      simp at e
      exact ⟨b, by rw [hc, e]⟩)
    exact ⟨l, by unfold ShowI; rw [h1]; exact h2⟩
theorem bools_arg {v : Value} {d : DataW H} {p : List MemPlace} {r : Reach} {b0 : Nat} (hv : Value.okWide Try.prog w r b0 22 v) (h : DataW.Trod enc Try.prog w base spare held 22 v d p) : ∃ l, ShowB w v l ∧ l.length + 1 ≤ Rows.uptoBulk d := by
  obtain ⟨a0, len, cap, rfl⟩ := okWide_slice Try.underlying22 hv
  obtain ⟨fuel, hf⟩ := h
  exact bools_of_trod hf
theorem ints_arg {v : Value} {d : DataW H} {p : List MemPlace} {r : Reach} {b0 : Nat} (hv : Value.okWide Try.prog w r b0 27 v) (h : DataW.Trod enc Try.prog w base spare held 27 v d p) : ∃ l, ShowI w v l := by
  obtain ⟨a0, len, cap, rfl⟩ := okWide_slice Try.underlying27 hv
  obtain ⟨fuel, hf⟩ := h
  exact ints_of_trod hf
theorem two_arg {v : Value} {d : DataW H} {p : List MemPlace} {r : Reach} {b0 : Nat} (hv : Value.okWide Try.prog w r b0 28 v) (h : DataW.Trod enc Try.prog w base spare held 28 v d p) : ∃ l : Int × Int, v = .agg #[.int .i64 l.1, .int .i64 l.2] := by
  simp only [Value.okWide, Try.underlying28] at hv
  obtain ⟨cs, rfl, _, _⟩ := hv
  obtain ⟨fuel, hf⟩ := h
  obtain ⟨xs, m, _, _, hl, hlen, hx⟩ := DataW.trod_array Try.underlying28 hf
  rw [cellsA] at hl
  obtain ⟨l⟩ := cs
  match l, hl with
  | [a, b], _ =>
    have h0 := hx 0 (by decide)
    have h1 := hx 1 (by decide)
    rw [cellsI] at h0 h1
    obtain ⟨x0, e0, _, _⟩ := DataW.trod_int Try.underlying3 (h0.trans (List.getElem?_eq_getElem (by omega)))
    obtain ⟨x1, e1, _, _⟩ := DataW.trod_int Try.underlying3 (h1.trans (List.getElem?_eq_getElem (by omega)))
    simp [Value.cells] at e0 e1
    subst e0 e1
    exact ⟨(x0, x1), rfl⟩
end
theorem laidOut : laidOutB Try.prog = true := by kernel_rfl
theorem recB : Try.prog.readableRec 22 = true := by kernel_rfl
theorem recI : Try.prog.readableRec 27 = true := by kernel_rfl
theorem recA : Try.prog.readableRec 28 = true := by kernel_rfl
theorem rowB : 22 < Try.prog.types.size := of_decide_eq_true (by kernel_rfl)
theorem rowI : 27 < Try.prog.types.size := of_decide_eq_true (by kernel_rfl)
theorem rowA : 28 < Try.prog.types.size := of_decide_eq_true (by kernel_rfl)
section
variable {H : Type} {enc : TypeId × Value → H} {P : Program}
/-- What lay before the call lies as it lay: then the arguments read as they read. -/
theorem post_below {f : Func} {s : ChangeSpec} {apart fresh handsOn again : Bool} {W W' : World} {args : Array Value} {v : Value} {ds gs : List (DataW H)} {before pa pv : List MemPlace}
    (hW : DataW.Whole enc P f.params.toList s.vars apart W args.toList ds gs before)
    (hres : ∀ (b : Nat) (sp : Nat → Bool) (hd : Bool), DataW.TrodAll enc P W' b sp hd f.resultTypes.toList (v.resultList f.resultTypes.size) (s.fn H (ds ++ gs)).results [])
    (hargs : ∀ sp : Nat → Bool, (∀ p ∈ before, sp p.block = true) → DataW.TrodAll enc P W' 0 sp true f.params.toList args.toList (s.fn H (ds ++ gs)).args pa)
    (hvars : ∀ sp : Nat → Bool, (∀ p ∈ before, sp p.block = true) → DataW.TrodVars enc P W' sp s.vars (s.fn H (ds ++ gs)).vars pv)
    (hps : before = pa ++ pv) (hb : Below W.heap.size W W')
    (hok : ∀ (j : Nat) (t : TypeId) (r : Value), f.resultTypes[j]? = some t → (v.resultList f.resultTypes.size)[j]? = some r → Value.okWide P W' .any 0 t r) :
    s.post enc P f apart fresh handsOn again W args v W' := by
  have hlt : ∀ p ∈ before, p.block < W.heap.size := fun p hp => hW.lt p hp
  have hold : ∀ p ∈ before, (fun b => decide (b < W.heap.size)) p.block = true := fun p hp => by simpa using hlt p hp
  refine ⟨ds, gs, before, [], pa, pv, hW, hres _ _ _, hargs _ hold, hvars _ hold, World.keptBut_mono (fun p hp => ⟨hp, ?_⟩) (hb.frame (· ∈ before)), fun _ => ?_⟩
  · rw [hps, List.mem_append] at hp
    exact Or.inr hp
  · obtain ⟨_, _, _, _, _, hz, hn⟩ := hW
    refine ⟨hok, _, _, ([] ++ pa) ++ pv, ⟨[] ++ pa, pv, trodAll_append (hargs _ (fun _ _ => rfl)) (hres _ _ _), hvars _ (fun _ _ => rfl), rfl, ?_, ?_⟩, ?_⟩
    · intro b off hp
      have hin : MemPlace.cell b off ∈ before := by rw [hps]; simpa using hp
      rw [hb.frozen (hlt _ hin)]
      exact hz b off hin
    · intro ha
      have := hn ha
      rw [hps] at this
      simpa using this
    · intro p hp _
      rw [hps]
      simpa using hp
end

end Go.Proofs.Ytkbehjkfeoffmaa
