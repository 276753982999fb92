/-
  What an argument shows: a list of bytes, with how long it can be; that they are read again behind the call.
-/
import Derived.Test.YtkannoakpcpdkaaBy
import Derived.Lib.SmallJoins
import Derived.Deep.CondSized
import Derived.SizedLaws
import Derived.Deep.DeepHandedRow
set_option linter.unusedVariables false
set_option linter.unusedSimpArgs false
namespace Go.Proofs.Ytkannoakpcpdkaa
open Go Go.RowKit Go.ChangeShapes Go.WideShapes Go.ChangeAt Go.Deep

theorem cellsI : Try.prog.cellsOf 3 = 1 := by kernel_rfl
theorem cellsB : Try.prog.cellsOf 5 = 1 := by kernel_rfl
section
variable {H : Type} {enc : TypeId × Value → H} {w : World} {base : Nat} {spare : Nat → Bool} {held : Bool} {n : Nat}
theorem addr_plain {w : World} {a : Addr} {u : Value} (h : w.cell? a = some u) : a = ⟨a.block, a.off, none⟩ := by
  obtain ⟨b, o, s⟩ := a
  cases s with
  | none => rfl
  | some s => unfold World.cell? at h; dsimp only at h; split at h <;> simp at h
theorem add_plain (b o j : Nat) : (⟨b, o, none⟩ : Addr).add j = ⟨b, o + j, none⟩ := by
  by_cases hj : j = 0
  · subst hj; rfl
  · simp [Addr.add, hj]
/-- how long a list is, by its datum -/
def Len {α : Type} (d : DataW H) (l : List α) : Prop := l = [] ∨ ∃ es sp, d = .slice es sp ∧ es.length = l.length
theorem bytes_of_trod {u : Value} {x : DataW H × List MemPlace} (h : DataW.trod enc Try.prog w base spare held n 22 [u] = some x) : ∃ l, ShowB w u l ∧ Bytey l ∧ Len x.1 l := by
  rcases open_ints Try.underlying22 Try.underlying5 cellsB h with ⟨h0, _⟩ | ⟨a, len, cap, zs, hcs, _, hl, hm, hz, hx, hcell, hwf⟩
  · obtain rfl : u = .slice none 0 0 := by simpa using h0
    exact ⟨[], Shows.nil w 1, bytey_nil, .inl rfl⟩
  · obtain rfl : u = .slice (some a) len cap := by simpa using hcs
    have hlz : len ≤ zs.length := by rw [hz]; split <;> omega
    have hlt : (zs.take len).length = len := by rw [List.length_take]; omega
    refine ⟨zs.take len, ⟨by simp, some a, cap, by rw [hlt], by rw [hlt]; exact ⟨hl, hm⟩, fun hn => ?_⟩, fun y hy => Go.bounds_u8 (hwf y (List.mem_of_mem_take hy)), .inr ⟨_, _, by rw [hx], by simp [lits]⟩⟩
    rw [hlt] at hn ⊢
    have ea := addr_plain (w := w) (a := a) (by simpa [Addr.add] using hcell 0 (by omega))
    refine ⟨a.block, a.off, by rw [← ea], fun j hj => ?_⟩
    have h1 := hcell j (by omega)
    rw [ea, add_plain] at h1
    rw [h1]
    have hjz : j < zs.length := by omega
    have hjl : j < len := by omega
    simp [List.getD, hjz, hjl]
theorem len_weight {α : Type} {P : Program} {t e : TypeId} {d : DataW H} {l : List α} {R : Nat} (h : Len d l) (ht : P.underlying t = some (.slice e)) (hw : ∀ m ∈ d.weights P t, m ≤ R) : l.length * P.bytesOf e ≤ R := by
  rcases h with rfl | ⟨es, sp, rfl, hl⟩
  · simp
  · have := hw ((es.length + sp.length) * P.bytesOf e) (by simp [DataW.weights, ht])
    rw [← hl]
    exact Nat.le_trans (Nat.mul_le_mul_right _ (Nat.le_add_right _ _)) this
theorem bytesB : Try.prog.bytesOf 5 = 1 := by kernel_rfl
theorem bytes_arg {v : Value} {d : DataW H} {p : List MemPlace} {r : Reach} {b0 : Nat} (hv : Value.okWide Try.prog w r b0 22 v) (h : DataW.Trod enc Try.prog w base spare held 22 v d p) : ∃ l, ShowB w v l ∧ Bytey l ∧ ((∀ m ∈ d.weights Try.prog 22, m ≤ reachBytes) → l.length * 1 ≤ 140737488355328) := by
  obtain ⟨a0, len, cap, rfl⟩ := okWide_slice Try.underlying22 hv
  obtain ⟨fuel, hf⟩ := h
  obtain ⟨l, h1, hy, h2⟩ := bytes_of_trod hf
  refine ⟨l, h1, hy, fun hw => ?_⟩
  have h8 := len_weight h2 Try.underlying22 hw
  rw [bytesB] at h8
  have hR : reachBytes ≤ 140737488355328 := by decide
  omega
end
theorem laidOut : laidOutB Try.prog = true := by kernel_rfl
theorem recB : Try.prog.readableRec 22 = true := by kernel_rfl
theorem rowB : 22 < Try.prog.types.size := of_decide_eq_true (by kernel_rfl)
theorem u8_range {k : Int} (h : (Lit.int .u8 k).wf = true) : 0 ≤ k ∧ k ≤ 255 := by
  simp [Lit.wf, IntKind.min, IntKind.max, IntKind.signed, IntKind.bits] at h
  omega
section
variable {H : Type} {enc : TypeId × Value → H} {P : Program}
/-- What lay before the call lies as it lay: then the arguments read as they read. -/
theorem post_below {f : Func} {s : ChangeSpec} {apart fresh handsOn again : Bool} {W W' : World} {args : Array Value} {v : Value} {ds gs : List (DataW H)} {before pa pv : List MemPlace}
    (hW : DataW.Whole enc P f.params.toList s.vars apart W args.toList ds gs before)
    (hres : ∀ (b : Nat) (sp : Nat → Bool) (hd : Bool), DataW.TrodAll enc P W' b sp hd f.resultTypes.toList (v.resultList f.resultTypes.size) (s.fn H (ds ++ gs)).results [])
    (hargs : ∀ sp : Nat → Bool, (∀ p ∈ before, sp p.block = true) → DataW.TrodAll enc P W' 0 sp true f.params.toList args.toList (s.fn H (ds ++ gs)).args pa)
    (hvars : ∀ sp : Nat → Bool, (∀ p ∈ before, sp p.block = true) → DataW.TrodVars enc P W' sp s.vars (s.fn H (ds ++ gs)).vars pv)
    (hps : before = pa ++ pv) (hb : Below W.heap.size W W')
    (hok : ∀ (j : Nat) (t : TypeId) (r : Value), f.resultTypes[j]? = some t → (v.resultList f.resultTypes.size)[j]? = some r → Value.okWide P W' .any 0 t r) :
    s.post enc P f apart fresh handsOn again W args v W' := by
  have hlt : ∀ p ∈ before, p.block < W.heap.size := fun p hp => hW.lt p hp
  have hold : ∀ p ∈ before, (fun b => decide (b < W.heap.size)) p.block = true := fun p hp => by simpa using hlt p hp
  refine ⟨ds, gs, before, [], pa, pv, hW, hres _ _ _, hargs _ hold, hvars _ hold, World.keptBut_mono (fun p hp => ⟨hp, ?_⟩) (hb.frame (· ∈ before)), fun _ => ?_⟩
  · rw [hps, List.mem_append] at hp
    exact Or.inr hp
  · obtain ⟨_, _, _, _, _, hz, hn⟩ := hW
    refine ⟨hok, _, _, ([] ++ pa) ++ pv, ⟨[] ++ pa, pv, trodAll_append (hargs _ (fun _ _ => rfl)) (hres _ _ _), hvars _ (fun _ _ => rfl), rfl, ?_, ?_⟩, ?_⟩
    · intro b off hp
      have hin : MemPlace.cell b off ∈ before := by rw [hps]; simpa using hp
      rw [hb.frozen (hlt _ hin)]
      exact hz b off hin
    · intro ha
      have := hn ha
      rw [hps] at this
      simpa using this
    · intro p hp _
      rw [hps]
      simpa using hp
end
end Go.Proofs.Ytkannoakpcpdkaa
