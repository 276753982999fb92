/-
  What an argument shows, and how long the lists of its calls can be.
-/
import Derived.Test.YtahkfagfobfliaaOpen
set_option linter.unusedVariables false
set_option linter.unusedSimpArgs false
namespace Go.Proofs.Ytahkfagfobfliaa
open Go Go.RowKit Go.ChangeShapes Go.WideShapes Go.ChangeAt Go.Deep

section
variable {H : Type} {enc : TypeId × Value → H} {w : World} {base : Nat} {spare : Nat → Bool} {held : Bool} {n : Nat}
theorem weights_all {P : Program} {e : TypeId} {es : List (DataW H)} {d : DataW H} (hd : d ∈ es) {m : Nat} (hm : m ∈ d.weights P e) : m ∈ DataW.weightsAll P e es := by
  induction es with
  | nil => cases hd
  | cons x r ih =>
    rw [DataW.weightsAll, List.mem_append]
    rcases List.mem_cons.1 hd with rfl | h
    · exact .inl hm
    · exact .inr (ih h)
theorem len_weight {α : Type} {P : Program} {t e : TypeId} {d : DataW H} {l : List α} {R : Nat} (h : Len d l) (ht : P.underlying t = some (.slice e)) (hw : ∀ m ∈ d.weights P t, m ≤ R) : l.length * P.bytesOf e ≤ R := by
  rcases h with rfl | ⟨es, sp, rfl, hl⟩
  · simp
  · have := hw ((es.length + sp.length) * P.bytesOf e) (by simp [DataW.weights, ht])
    rw [← hl]
    exact Nat.le_trans (Nat.mul_le_mul_right _ (Nat.le_add_right _ _)) this
theorem bytesI : Try.prog.bytesOf 3 = 8 := by kernel_rfl
/-- a call, and what the reach gives of its list -/
theorem call_of_trodL {cs : List Value} {x : DataW H × List MemPlace} (h : DataW.trod enc Try.prog w base spare held n 30 cs = some x) :
    ∃ (c : Dq) (p : Value), cs = [.int .i64 c.kind, .int .i64 c.a, .int .i64 c.n, p] ∧ ShowI w p c.path ∧ ((∀ m ∈ x.1.weights Try.prog 30, m ≤ reachBytes) → c.path.length ≤ 17592186044416) := by
  obtain ⟨xs, n', _, hx, hl, hlen, hf⟩ := DataW.trod_struct fieldsD h
  rw [cellsD] at hl
  match cs, hl with
  | [a, b, c, d], _ =>
    have hxs : xs.length = 4 := hlen
    have h0 : DataW.trod enc Try.prog w base spare held n' 3 (([a, b, c, d].drop 0).take (Try.prog.cellsOf 3)) = xs[0]? := hf 0 _ rfl
    have h1 : DataW.trod enc Try.prog w base spare held n' 3 (([a, b, c, d].drop 1).take (Try.prog.cellsOf 3)) = xs[1]? := hf 1 _ rfl
    have h2 : DataW.trod enc Try.prog w base spare held n' 3 (([a, b, c, d].drop 2).take (Try.prog.cellsOf 3)) = xs[2]? := hf 2 _ rfl
    have h3 : DataW.trod enc Try.prog w base spare held n' 28 (([a, b, c, d].drop 3).take (Try.prog.cellsOf 28)) = xs[3]? := hf 3 _ rfl
    rw [cellsI] at h0 h1 h2
    rw [cellsL] at h3
    obtain ⟨x0, e0, _, _⟩ := DataW.trod_int Try.underlying3 (h0.trans (List.getElem?_eq_getElem (by omega)))
    obtain ⟨x1, e1, _, _⟩ := DataW.trod_int Try.underlying3 (h1.trans (List.getElem?_eq_getElem (by omega)))
    obtain ⟨x2, e2, _, _⟩ := DataW.trod_int Try.underlying3 (h2.trans (List.getElem?_eq_getElem (by omega)))
    have h3' : DataW.trod enc Try.prog w base spare held n' 28 [d] = xs[3]? := h3
    obtain ⟨l, hl3, hLn⟩ := ints_of_trod (h3'.trans (List.getElem?_eq_getElem (by omega)))
    simp at e0 e1 e2
    subst e0 e1 e2
    refine ⟨⟨x0, x1, x2, l⟩, d, rfl, hl3, fun hw => ?_⟩
    have hR : reachBytes ≤ 140737488355328 := by decide
    have h8 := len_weight hLn Try.underlying28 (fun m hm => hw m (by
      rw [hx, DataW.weights, fieldsD]
      dsimp only
      exact DataW.weights_mem_each (j := 3) (t := 28) rfl (by simp [hxs]) m hm))
    rw [bytesI] at h8
    show l.length ≤ 17592186044416
    omega
theorem dos_of_trodL {u : Value} {x : DataW H × List MemPlace} (h : DataW.trod enc Try.prog w base spare held n 22 [u] = some x) :
    ∃ L, ShowD w u L ∧ ((∀ m ∈ x.1.weights Try.prog 22, m ≤ reachBytes) → ∀ i, i < L.length → (dq L i).path.length ≤ 17592186044416) := by
  rcases open_slice Try.underlying22 h with ⟨h0, _⟩ | ⟨a, len, cap, m, n', D, Pl, hcs, _, hl, hm, hmm, hx, hi⟩
  · obtain rfl : u = .slice none 0 0 := by simpa using h0
    exact ⟨[], ShowD.nil w, fun _ i hi => absurd hi (Nat.not_lt_zero _)⟩
  · obtain rfl : u = .slice (some a) len cap := by simpa using hcs
    have hlm : len ≤ m := by rw [hmm]; split <;> omega
    have hex : ∀ i, i < len → ∃ q : Dq × Value, (∀ j (hj : j < 4), w.cell? (a.add (i * 4 + j)) = some (([Value.int .i64 q.1.kind, .int .i64 q.1.a, .int .i64 q.1.n, q.2] : List Value)[j]'(by simpa using hj))) ∧ ShowI w q.2 q.1.path ∧ ((∀ m ∈ (D i).weights Try.prog 30, m ≤ reachBytes) → q.1.path.length ≤ 17592186044416) := by
      intro i him
      obtain ⟨cs', hc, ht⟩ := hi i (by omega)
      rw [cellsD] at hc
      obtain ⟨c, p, rfl, hp, hpl⟩ := call_of_trodL ht
      obtain ⟨_, _, hat⟩ := World.cells?_some hc
      refine ⟨(c, p), fun j hj => ?_, hp, hpl⟩
      rw [← add_add, hat j hj]
      exact List.getElem?_eq_getElem _
    obtain ⟨f, hf⟩ := choose_lt hex
    have hdq : ∀ i, i < len → dq ((List.range len).map fun i => (f i).1) i = (f i).1 := fun i him => by simp [dq, him]
    refine ⟨(List.range len).map fun i => (f i).1, ⟨some a, cap, by simp, ⟨by simpa using hl, by unfold maxLen at hm; omega⟩, fun i hi' => ?_⟩, fun hw i hi' => ?_⟩
    · have him : i < len := by simpa using hi'
      obtain ⟨hc, hp, _⟩ := hf i him
      have h0 := hc 0 (by decide)
      have h00 := (hf 0 (by omega)).1 0 (by decide)
      have ea := addr_plain (w := w) (a := a) (by simpa [Addr.add] using h00)
      refine ⟨a.block, a.off, (f i).2, by rw [← ea], ?_⟩
      rw [hdq i him]
      have h1 := hc 1 (by decide)
      have h2 := hc 2 (by decide)
      have h3 := hc 3 (by decide)
      rw [ea, add_plain] at h0 h1 h2 h3
      exact ⟨by simpa using h0, by simpa [Nat.add_assoc] using h1, by simpa [Nat.add_assoc] using h2, by simpa [Nat.add_assoc] using h3, hp⟩
    · have him : i < len := by simpa using hi'
      rw [hdq i him]
      refine (hf i him).2.2 (fun k hk => hw k ?_)
      rw [hx, DataW.weights, Try.underlying22]
      dsimp only
      rw [List.mem_cons, List.mem_append]
      exact .inr (.inl (weights_all (List.mem_map.2 ⟨i, List.mem_range.2 him, rfl⟩) hk))
theorem dos_argL {v : Value} {d : DataW H} {p : List MemPlace} {r : Reach} {b0 : Nat} (hv : Value.okWide Try.prog w r b0 22 v) (h : DataW.Trod enc Try.prog w base spare held 22 v d p) :
    ∃ l, ShowD w v l ∧ ((∀ m ∈ d.weights Try.prog 22, m ≤ reachBytes) → ∀ i, i < l.length → (dq l i).path.length ≤ 17592186044416) := by
  obtain ⟨a0, len, cap, rfl⟩ := okWide_slice Try.underlying22 hv
  obtain ⟨fuel, hf⟩ := h
  exact dos_of_trodL hf
end
end Go.Proofs.Ytahkfagfobfliaa
