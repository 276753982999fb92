/-
  What objects are, byte by byte; which byte is the first wrong one; what is told of it.
-/
import Derived.Test.YtkannoakpcpdkaaBase
set_option linter.unusedVariables false
set_option linter.unusedSimpArgs false
namespace Go.Proofs.Ytkannoakpcpdkaa
open Go Go.RowKit

/-- the byte of an object of n bytes: around it, its own, the last one of these -/
def objF (n : Nat) (a o l : Int) (i : Nat) : Int := if i < 8 ∨ n + 8 ≤ i then a else if i = n + 7 then l else o
def lst (n : Nat) (f : Nat → Int) : List Int := (List.range n).map f
theorem len_lst (n : Nat) (f : Nat → Int) : (lst n f).length = n := by simp [lst]
theorem pk_lst {n i : Nat} (f : Nat → Int) (h : i < n) : pk (lst n f) i = f i := by
  rw [← pk_at _ i (by rw [len_lst]; exact h)]
  simp [lst]
theorem lst_eq {n : Nat} {f g : Nat → Int} (h : ∀ i, i < n → f i = g i) : lst n f = lst n g := by
  unfold lst
  exact List.map_congr_left fun i hi => h i (by simpa using hi)
theorem lst_pk (l : List Int) : lst l.length (pk l) = l := by
  refine List.ext_getElem (by rw [len_lst]) fun i h1 h2 => ?_
  rw [pk_at l i h2]
  simp [lst]
def Bytey (l : List Int) : Prop := ∀ x ∈ l, 0 ≤ x ∧ x ≤ 255
theorem bytey_lst {n : Nat} {f : Nat → Int} (h : ∀ i, i < n → 0 ≤ f i ∧ f i ≤ 255) : Bytey (lst n f) := by
  intro x hx
  obtain ⟨i, hi, rfl⟩ := List.mem_map.1 hx
  exact h i (by simpa using hi)
theorem bytey_pk {l : List Int} (h : Bytey l) {i : Nat} (hi : i < l.length) : 0 ≤ pk l i ∧ pk l i ≤ 255 := by
  rw [← pk_at l i hi]
  exact h _ (List.getElem_mem hi)
theorem bytey_nil : Bytey [] := fun x hx => by cases hx
theorem obj_range {n : Nat} {a o l : Int} (ha : 0 ≤ a ∧ a ≤ 255) (ho : 0 ≤ o ∧ o ≤ 255) (hl : 0 ≤ l ∧ l ≤ 255) (i : Nat) : 0 ≤ objF n a o l i ∧ objF n a o l i ≤ 255 := by
  unfold objF
  split
  · exact ha
  · split
    · exact hl
    · exact ho
abbrev freeF (n : Nat) : Nat → Int := objF n 187 107 165
abbrev outF (n : Nat) : Nat → Int := objF n 204 90 90
abbrev freeL (n : Nat) : List Int := lst (n + 16) (freeF n)
abbrev outL (n : Nat) : List Int := lst (n + 16) (outF n)
theorem bytey_free (n : Nat) : Bytey (freeL n) := bytey_lst fun i _ => obj_range (by decide) (by decide) (by decide) i
theorem bytey_out (n : Nat) : Bytey (outL n) := bytey_lst fun i _ => obj_range (by decide) (by decide) (by decide) i
/-- the first of m numbers of which a test is true -/
def fw (p : Nat → Bool) : Nat → Option Nat
  | 0 => none
  | m + 1 => match fw p m with
    | some k => some k
    | none => if p m then some m else none
theorem fw_none {p : Nat → Bool} {m : Nat} (h : ∀ j, j < m → p j = false) : fw p m = none := by
  induction m with
  | zero => rfl
  | succ m ih => simp [fw, ih (fun j hj => h j (by omega)), h m (by omega)]
theorem fw_some {p : Nat → Bool} {m k : Nat} (hk : k < m) (hp : p k = true) (h : ∀ j, j < k → p j = false) : fw p m = some k := by
  induction m with
  | zero => omega
  | succ m ih =>
    by_cases e : k = m
    · subst e
      simp [fw, fw_none h, hp]
    · simp [fw, ih (by omega)]
theorem fw_cases (p : Nat → Bool) (m : Nat) : (∀ j, j < m → p j = false) ∨ ∃ k, k < m ∧ p k = true ∧ ∀ j, j < k → p j = false := by
  induction m with
  | zero => exact .inl fun j hj => by omega
  | succ m ih =>
    rcases ih with h | ⟨k, h1, h2, h3⟩
    · cases hp : p m with
      | true => exact .inr ⟨m, by omega, hp, h⟩
      | false =>
        refine .inl fun j hj => ?_
        by_cases e : j = m
        · rw [e]; exact hp
        · exact h j (by omega)
    · exact .inr ⟨k, by omega, h2, h3⟩
/-- is that byte wrong for an allocated object (out), or for a free one -/
def wrg (l : List Int) (out : Bool) (i : Nat) : Bool := if out then decide (i < 8 ∨ l.length - 8 ≤ i) && (pk l i != 204) else pk l i != freeF (l.length - 16) i
def szOk (l : List Int) : Prop := 17 ≤ l.length ∧ l.length ≤ 1040
instance (l : List Int) : Decidable (szOk l) := by unfold szOk; infer_instance
def chkE (l : List Int) (out : Bool) : Int := if szOk l then (match fw (wrg l out) l.length with | none => 0 | some _ => 180) else 2
def chkA (l : List Int) (out : Bool) : Int := if szOk l then (match fw (wrg l out) l.length with | none => 0 | some k => (k : Int)) else 0
theorem chk_size {l : List Int} (out : Bool) (h : ¬ szOk l) : chkE l out = 2 ∧ chkA l out = 0 := by simp [chkE, chkA, h]
theorem chk_ok {l : List Int} {out : Bool} (h : szOk l) (hw : ∀ j, j < l.length → wrg l out j = false) : chkE l out = 0 ∧ chkA l out = 0 := by simp [chkE, chkA, h, fw_none hw]
theorem chk_bad {l : List Int} {out : Bool} (h : szOk l) {k : Nat} (hk : k < l.length) (hp : wrg l out k = true) (hw : ∀ j, j < k → wrg l out j = false) : chkE l out = 180 ∧ chkA l out = k := by simp [chkE, chkA, h, fw_some hk hp hw]
theorem chk_zero {l : List Int} {out : Bool} (h : chkE l out = 0) : szOk l ∧ ∀ j, j < l.length → wrg l out j = false := by
  by_cases hs : szOk l
  · rcases fw_cases (wrg l out) l.length with h1 | ⟨k, h1, h2, h3⟩
    · exact ⟨hs, h1⟩
    · rw [(chk_bad hs h1 h2 h3).1] at h
      cases h
  · rw [(chk_size out hs).1] at h
    cases h
theorem chk_sum (l : List Int) (out : Bool) : chkE l out = 0 ∨ chkE l out = 180 ∨ chkE l out = 2 := by
  by_cases hs : szOk l
  · rcases fw_cases (wrg l out) l.length with h1 | ⟨k, h1, h2, h3⟩
    · exact .inl (chk_ok hs h1).1
    · exact .inr (.inl (chk_bad hs h1 h2 h3).1)
  · exact .inr (.inr (chk_size out hs).1)
theorem wrg_free {n i : Nat} (f : Nat → Int) (hi : i < n + 16) : wrg (lst (n + 16) f) false i = (f i != freeF n i) := by simp [wrg, len_lst, pk_lst f hi]
theorem wrg_out {n i : Nat} (f : Nat → Int) (hi : i < n + 16) : wrg (lst (n + 16) f) true i = (decide (i < 8 ∨ n + 8 ≤ i) && (f i != 204)) := by
  simp only [wrg, len_lst, pk_lst f hi, if_true]
  rw [show n + 16 - 8 = n + 8 by omega]
theorem sz_lst {n : Nat} (f : Nat → Int) (h1 : 1 ≤ n) (h2 : n ≤ 1024) : szOk (lst (n + 16) f) := by
  unfold szOk
  rw [len_lst]
  omega
theorem chk_free {n : Nat} (h1 : 1 ≤ n) (h2 : n ≤ 1024) : chkE (freeL n) false = 0 ∧ chkA (freeL n) false = 0 :=
  chk_ok (sz_lst _ h1 h2) fun j hj => by
    rw [len_lst] at hj
    rw [wrg_free _ hj]
    simp
theorem outF_side {n i : Nat} (h : i < 8 ∨ n + 8 ≤ i) (a o l : Int) : objF n a o l i = a := by simp [objF, h]
theorem chk_out {n : Nat} (h1 : 1 ≤ n) (h2 : n ≤ 1024) {f : Nat → Int} (hf : ∀ i, i < n + 16 → (i < 8 ∨ n + 8 ≤ i) → f i = 204) : chkE (lst (n + 16) f) true = 0 ∧ chkA (lst (n + 16) f) true = 0 :=
  chk_ok (sz_lst _ h1 h2) fun j hj => by
    rw [len_lst] at hj
    rw [wrg_out _ hj]
    by_cases h : j < 8 ∨ n + 8 ≤ j
    · simp [hf j hj h]
    · simp [h]
/-- one byte is written over -/
def turnF (f : Nat → Int) (k : Nat) (x : Int) (i : Nat) : Int := if i = k then x else f i
theorem chk_turned {n k : Nat} (h1 : 1 ≤ n) (h2 : n ≤ 1024) (hk : k < n + 16) {x : Int} (hx : x ≠ freeF n k) : chkE (lst (n + 16) (turnF (freeF n) k x)) false = 180 ∧ chkA (lst (n + 16) (turnF (freeF n) k x)) false = k := by
  refine chk_bad (sz_lst _ h1 h2) (by rw [len_lst]; exact hk) ?_ fun j hj => ?_
  · rw [wrg_free _ hk]
    simp [turnF, hx]
  · rw [wrg_free _ (by omega)]
    simp [turnF, show j ≠ k by omega]
theorem chk_turnedO {n k : Nat} (h1 : 1 ≤ n) (h2 : n ≤ 1024) (hk : k < n + 16) {x : Int} (hx : x ≠ 204) (hs : k < 8 ∨ n + 8 ≤ k) : chkE (lst (n + 16) (turnF (outF n) k x)) true = 180 ∧ chkA (lst (n + 16) (turnF (outF n) k x)) true = k := by
  refine chk_bad (sz_lst _ h1 h2) (by rw [len_lst]; exact hk) ?_ fun j hj => ?_
  · rw [wrg_out _ hk]
    simp [turnF, hx, hs]
  · rw [wrg_out _ (by omega)]
    by_cases h : j < 8 ∨ n + 8 ≤ j
    · have : turnF (outF n) k x j = 204 := by
        unfold turnF
        rw [if_neg (by omega)]
        exact outF_side h _ _ _
      simp [this]
    · simp [h]
theorem chk_turnedI {n k : Nat} (h1 : 1 ≤ n) (h2 : n ≤ 1024) {x : Int} (hs : ¬ (k < 8 ∨ n + 8 ≤ k)) : chkE (lst (n + 16) (turnF (outF n) k x)) true = 0 ∧ chkA (lst (n + 16) (turnF (outF n) k x)) true = 0 :=
  chk_out h1 h2 fun i hi h => by
    unfold turnF
    rw [if_neg (by intro e; subst e; exact hs h)]
    exact outF_side h _ _ _
/-- what is as it is in is not as it is out -/
theorem chk_apart (l : List Int) : (chkE l false ≠ 0 ∨ chkE l true = 180) ∧ (chkE l true ≠ 0 ∨ chkE l false = 180) := by
  constructor
  · by_cases h : chkE l false = 0
    · obtain ⟨hs, hw⟩ := chk_zero h
      have hl := hs.1
      have h0 := hw 0 (by omega)
      have h1 : pk l 0 = 187 := by simpa [wrg, objF] using h0
      refine .inr (chk_bad (k := 0) hs (by omega) ?_ (fun j hj => by omega)).1
      simp [wrg, h1]
    · exact .inl h
  · by_cases h : chkE l true = 0
    · obtain ⟨hs, hw⟩ := chk_zero h
      have hl := hs.1
      have h0 := hw 0 (by omega)
      have h1 : pk l 0 = 204 := by simpa [wrg] using h0
      refine .inr (chk_bad (k := 0) hs (by omega) ?_ (fun j hj => by omega)).1
      simp [wrg, objF, h1]
    · exact .inl h
/-- what Out and Back give -/
def gotL (l : List Int) (out : Bool) : List Int := if chkE l out = 0 then (if out then freeL (l.length - 16) else outL (l.length - 16)) else []
theorem bytey_got (l : List Int) (out : Bool) : Bytey (gotL l out) := by
  unfold gotL
  split
  · split
    · exact bytey_free _
    · exact bytey_out _
  · exact bytey_nil
theorem got_no {l : List Int} {out : Bool} (h : chkE l out ≠ 0) : gotL l out = [] := by simp [gotL, h]
/-- what Lay gives -/
def layE (n : Int) : Int := if 1 ≤ n ∧ n ≤ 1024 then 0 else 2
def layL (n : Int) : List Int := if 1 ≤ n ∧ n ≤ 1024 then freeL n.toNat else []
theorem bytey_lay (n : Int) : Bytey (layL n) := by
  unfold layL
  split
  · exact bytey_free _
  · exact bytey_nil
/-! bytes that are turned -/
theorem xor_all : ∀ b : Fin 256, b.val ≠ 0 → ∀ a ∈ ([187, 107, 165, 204, 90] : List Int), bits .xor .u8 a (b.val : Int) ≠ a ∧ 0 ≤ bits .xor .u8 a (b.val : Int) ∧ bits .xor .u8 a (b.val : Int) ≤ 255 := by decide +kernel
theorem xor_one {a t : Int} (ha : a ∈ ([187, 107, 165, 204, 90] : List Int)) (h1 : 1 ≤ t) (h2 : t ≤ 255) : bits .xor .u8 a t ≠ a ∧ 0 ≤ bits .xor .u8 a t ∧ bits .xor .u8 a t ≤ 255 := by
  have := xor_all ⟨t.toNat, by omega⟩ (by simp; omega) a ha
  rwa [show ((t.toNat : Nat) : Int) = t by omega] at this
theorem free_mem (n i : Nat) : freeF n i ∈ ([187, 107, 165, 204, 90] : List Int) := by
  unfold freeF objF
  split
  · decide
  · split <;> decide
theorem out_mem (n i : Nat) : outF n i ∈ ([187, 107, 165, 204, 90] : List Int) := by
  unfold outF objF
  split
  · decide
  · split <;> decide
end Go.Proofs.Ytkannoakpcpdkaa
