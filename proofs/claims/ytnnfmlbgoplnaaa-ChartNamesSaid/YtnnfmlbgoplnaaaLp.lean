/-
  The arithmetic of links: the key at an object, what is hidden and shown, lists as paths.
-/
import Derived.Test.YtnnfmlbgoplnaaaWd
import Derived.Laws.BitsAllLaws
set_option linter.unusedVariables false
set_option linter.unusedSimpArgs false
namespace Go.Proofs.Ytnnfmlbgoplnaaa
open Go Go.RowKit

abbrev M64 : Nat := 18446744073709551616
abbrev CC : Nat := 2654435769
/-- a word, turned left -/
def rotN (x t : Nat) : Nat := (x <<< t) % M64 ||| x >>> (64 - t)
theorem rotN_lt {x t : Nat} (hx : x < M64) : rotN x t < M64 := by
  have h1 : (x <<< t) % M64 < 2 ^ 64 := Nat.mod_lt _ (by decide)
  have h2 : x >>> (64 - t) < 2 ^ 64 := Nat.lt_of_le_of_lt (Nat.shiftRight_le _ _) hx
  exact Nat.or_lt_two_pow h1 h2
theorem bit_none {x i : Nat} (hx : x < M64) (hi : 64 ≤ i) : x.testBit i = false := by
  apply Nat.testBit_lt_two_pow
  exact Nat.lt_of_lt_of_le hx (Nat.pow_le_pow_right (n := 2) (by decide) hi)
theorem bit_rot {x t i : Nat} (hx : x < M64) (ht : t < 64) : (rotN x t).testBit i = (decide (i < 64) && x.testBit ((i + 64 - t) % 64)) := by
  unfold rotN
  rw [Nat.testBit_or, show M64 = 2 ^ 64 from rfl, Nat.testBit_mod_two_pow, Nat.testBit_shiftLeft, Nat.testBit_shiftRight]
  by_cases hi : i < 64
  · by_cases hit : t ≤ i
    · rw [bit_none (i := 64 - t + i) hx (by omega), show (i + 64 - t) % 64 = i - t by omega]
      simp [hi, hit]
    · rw [show (i + 64 - t) % 64 = 64 - t + i by omega]
      simp [hi, hit]
  · rw [bit_none (i := 64 - t + i) hx (by omega)]
    simp [hi]
theorem rot_rot {x t : Nat} (hx : x < M64) (ht : t < 64) : rotN (rotN x t) 1 = rotN x ((t + 1) % 64) := by
  apply Nat.eq_of_testBit_eq
  intro i
  rw [bit_rot (rotN_lt hx) (by omega), bit_rot hx ht, bit_rot hx (by omega)]
  by_cases hi : i < 64
  · have e : ((i + 64 - 1) % 64 + 64 - t) % 64 = (i + 64 - (t + 1) % 64) % 64 := by omega
    rw [e]
    have h2 : decide ((i + 64 - 1) % 64 < 64) = true := decide_eq_true (by omega)
    rw [h2, Bool.true_and]
  · simp [hi]
theorem rot_zero {x : Nat} (hx : x < M64) : rotN x 0 = x := by
  apply Nat.eq_of_testBit_eq
  intro i
  rw [bit_rot hx (by omega)]
  by_cases hi : i < 64
  · rw [show (i + 64 - 0) % 64 = i by omega]; simp [hi]
  · simp only [hi, decide_false, Bool.false_and]
    exact (bit_none hx (by omega)).symm
/-- turned by one, so many times -/
def turnN (x : Nat) : Nat → Nat
  | 0 => x
  | n + 1 => rotN (turnN x n) 1
theorem turn_rot {x : Nat} (hx : x < M64) (n : Nat) : turnN x n = rotN x (n % 64) := by
  induction n with
  | zero => exact (rot_zero hx).symm
  | succ n ih =>
    show rotN (turnN x n) 1 = _
    rw [ih, rot_rot hx (by omega)]
    congr 1
    omega
theorem turnN_lt {x : Nat} (hx : x < M64) (n : Nat) : turnN x n < M64 := by
  rw [turn_rot hx]
  exact rotN_lt hx
/-- added, so many times -/
def addsN (y : Nat) : Nat → Nat
  | 0 => y
  | n + 1 => (addsN y n + CC) % M64
theorem adds_mod {y : Nat} (hy : y < M64) (n : Nat) : addsN y n = (y + n * CC) % M64 := by
  induction n with
  | zero => show y = _; rw [Nat.zero_mul, Nat.add_zero, Nat.mod_eq_of_lt hy]
  | succ n ih =>
    show (addsN y n + CC) % M64 = _
    rw [ih]
    show ((y + n * 2654435769) % 18446744073709551616 + 2654435769) % 18446744073709551616 = (y + (n + 1) * 2654435769) % 18446744073709551616
    omega
/-- the key at an object -/
def derN (k a : Nat) : Nat := (rotN k (5 * a % 64) + a * CC) % M64
theorem derN_lt (k a : Nat) : derN k a < M64 := Nat.mod_lt _ (by decide)
theorem der_turned {k : Nat} (hk : k < M64) (a : Nat) : addsN (turnN k (5 * a)) a = derN k a := by
  rw [adds_mod (turnN_lt hk _), turn_rot hk]
  rfl
def der (k a : Int) : Int := (derN k.toNat a.toNat : Nat)
theorem der_range (k a : Int) : 0 ≤ der k a ∧ der k a < 18446744073709551616 := by
  have := derN_lt k.toNat a.toNat
  unfold der M64 at *
  omega
/-- a word, combined with another one -/
def xr (a b : Int) : Int := Go.bits .xor .u64 a b
theorem xr_eq (a b : Int) : xr a b = ((BitVec.ofInt 64 a ^^^ BitVec.ofInt 64 b).toNat : Nat) := by
  show IntKind.u64.wrap ((BitVec.ofInt 64 a ^^^ BitVec.ofInt 64 b).toNat : Int) = _
  have := (BitVec.ofInt 64 a ^^^ BitVec.ofInt 64 b).isLt
  rw [IntKind.wrap_u64]
  omega
theorem xr_range (a b : Int) : 0 ≤ xr a b ∧ xr a b < 18446744073709551616 := by
  rw [xr_eq]
  have := (BitVec.ofInt 64 a ^^^ BitVec.ofInt 64 b).isLt
  omega
theorem xr_xr (a d : Int) (h0 : 0 ≤ a) (h1 : a < 18446744073709551616) : xr (xr a d) d = a := by
  rw [xr_eq, xr_eq]
  have e : BitVec.ofInt 64 ((BitVec.ofInt 64 a ^^^ BitVec.ofInt 64 d).toNat : Int) = BitVec.ofInt 64 a ^^^ BitVec.ofInt 64 d := by
    rw [BitVec.ofInt_natCast, BitVec.ofNat_toNat]
    simp
  rw [e, BitVec.xor_assoc, BitVec.xor_self, BitVec.xor_zero]
  obtain ⟨n, rfl⟩ := Int.eq_ofNat_of_zero_le h0
  rw [BitVec.ofInt_natCast, BitVec.toNat_ofNat]
  omega
def okN (n : Int) : Prop := -1 ≤ n ∧ n ≤ 15
def okO (a : Int) : Prop := 0 ≤ a ∧ a < 16
instance (n : Int) : Decidable (okN n) := by unfold okN; infer_instance
instance (n : Int) : Decidable (okO n) := by unfold okO; infer_instance
def hidV (n k a : Int) : Int := if okN n ∧ okO a then xr (n + 1) (der k a) else 0
def hidE (n a : Int) : Int := if okN n ∧ okO a then 0 else 2
def shwB (w k a : Int) : Bool := decide (okO a ∧ xr w (der k a) ≤ 16)
def shwV (w k a : Int) : Int := if okO a ∧ xr w (der k a) ≤ 16 then xr w (der k a) - 1 else 0
theorem hid_range (n k a : Int) : 0 ≤ hidV n k a ∧ hidV n k a < 18446744073709551616 := by
  unfold hidV
  split
  · exact xr_range _ _
  · omega
theorem shw_hid {n k a : Int} (hn : okN n) (ha : okO a) : shwB (hidV n k a) k a = true ∧ shwV (hidV n k a) k a = n := by
  have h := xr_xr (n + 1) (der k a) (by have := hn.1; omega) (by have := hn.2; omega)
  have h2 : xr (hidV n k a) (der k a) = n + 1 := by unfold hidV; rw [if_pos ⟨hn, ha⟩]; exact h
  have h3 : n + 1 ≤ 16 := by have := hn.2; omega
  unfold shwB shwV
  rw [h2]
  refine ⟨decide_eq_true ⟨ha, h3⟩, ?_⟩
  rw [if_pos ⟨ha, h3⟩]
  omega
theorem shw_range {w k a : Int} (h : shwB w k a = true) : -1 ≤ shwV w k a ∧ shwV w k a ≤ 15 := by
  have h1 := of_decide_eq_true h
  unfold shwV
  rw [if_pos h1]
  have := (xr_range w (der k a)).1
  omega
/-- what a link at an object of l leads to -/
abbrev nB (l : List Int) (k a : Int) : Bool := shwB (pk l a.toNat) k a
abbrev nV (l : List Int) (k a : Int) : Int := shwV (pk l a.toNat) k a
/-- a list, followed: what has been seen, where it is -/
def lwF (l : List Int) (k : Int) : Nat → List Int → Int → List Int × Int
  | 0, _, _ => ([], 150)
  | f + 1, seen, a => if a = -1 then (seen, 0) else if (l.length : Int) ≤ a ∨ a ∈ seen then ([], 150) else if nB l k a = false then ([], 150) else lwF l k f (seen ++ [a]) (nV l k a)
def okL (l : List Int) (a : Int) : Prop := l.length ≤ 16 ∧ -1 ≤ a ∧ a < l.length
instance (l : List Int) (a : Int) : Decidable (okL l a) := by unfold okL; infer_instance
def lst (l : List Int) (k a : Int) : List Int × Int := if okL l a then lwF l k 17 [] a else ([], 2)
/-- under way -/
def lw (l : List Int) (k : Int) (seen : List Int) (a : Int) : List Int × Int := lwF l k (17 - seen.length) seen a
/-- what has been seen: objects that there are, each once -/
structure Seen (l seen : List Int) : Prop where
  nd : seen.Nodup
  at_ : ∀ x ∈ seen, 0 ≤ x ∧ x < l.length
theorem nodup_len : ∀ (n : Nat) (s : List Int), s.Nodup → (∀ x ∈ s, 0 ≤ x ∧ x < n) → s.length ≤ n := by
  intro n
  induction n with
  | zero =>
    intro s _ h
    cases s with
    | nil => exact Nat.le_refl _
    | cons x r => have := h x (by simp); omega
  | succ n ih =>
    intro s hs h
    have h1 := ih (s.filter (fun x => decide (x ≠ (n : Int)))) (List.Pairwise.filter _ hs) (fun x hx => by
      rw [List.mem_filter] at hx
      have := h x hx.1
      have : x ≠ (n : Int) := by simpa using hx.2
      omega)
    have h2 : s.length ≤ (s.filter (fun x => decide (x ≠ (n : Int)))).length + 1 := by
      clear h1 ih h
      induction s with
      | nil => simp
      | cons x r ih =>
        have h3 := List.nodup_cons.1 hs
        by_cases hx : x = (n : Int)
        · subst hx
          have : r.filter (fun x => decide (x ≠ (n : Int))) = r := List.filter_eq_self.2 (fun y hy => by
            have : y ≠ (n : Int) := fun e => h3.1 (e ▸ hy)
            simpa using this)
          rw [List.filter_cons_of_neg (by simp), this]
          simp
        · rw [List.filter_cons_of_pos (by simpa using hx)]
          have := ih h3.2
          simp only [List.length_cons]
          omega
    omega
theorem Seen.len {l seen : List Int} (h : Seen l seen) : seen.length ≤ l.length := nodup_len _ _ h.nd h.at_
theorem Seen.nil (l : List Int) : Seen l [] := ⟨List.nodup_nil, by simp⟩
theorem Seen.add {l seen : List Int} {a : Int} (h : Seen l seen) (h0 : 0 ≤ a) (h1 : a < l.length) (h2 : a ∉ seen) : Seen l (seen ++ [a]) := by
  refine ⟨?_, fun x hx => ?_⟩
  · rw [List.nodup_append]
    refine ⟨h.nd, by simp, fun x hx y hy => ?_⟩
    have : y = a := by simpa using hy
    subst this
    exact fun e => h2 (e ▸ hx)
  · rcases List.mem_append.1 hx with h3 | h3
    · exact h.at_ x h3
    · have : x = a := by simpa using h3
      subst this
      exact ⟨h0, h1⟩
section
variable {l seen : List Int} {k a : Int}
theorem lst_bad (h : ¬ okL l a) : lst l k a = ([], 2) := if_neg h
theorem lst_ok (h : okL l a) : lst l k a = lw l k [] a := if_pos h
theorem lw_end (h : seen.length ≤ 16) : lw l k seen (-1) = (seen, 0) := by
  unfold lw
  rw [show 17 - seen.length = (16 - seen.length) + 1 by omega]
  unfold lwF
  rw [if_pos rfl]
theorem lw_out (h : seen.length ≤ 16) (h0 : a ≠ -1) (h1 : (l.length : Int) ≤ a ∨ a ∈ seen) : lw l k seen a = ([], 150) := by
  unfold lw
  rw [show 17 - seen.length = (16 - seen.length) + 1 by omega]
  unfold lwF
  rw [if_neg h0, if_pos h1]
theorem lw_none (h : seen.length ≤ 16) (h0 : a ≠ -1) (h1 : nB l k a = false) : lw l k seen a = ([], 150) := by
  unfold lw
  rw [show 17 - seen.length = (16 - seen.length) + 1 by omega]
  unfold lwF
  rw [if_neg h0]
  split <;> first | rfl | rw [if_pos h1]
theorem lw_step (h : seen.length ≤ 16) (h0 : a ≠ -1) (h1 : ¬ ((l.length : Int) ≤ a ∨ a ∈ seen)) (h2 : nB l k a = true) : lw l k seen a = lw l k (seen ++ [a]) (nV l k a) := by
  unfold lw
  rw [show 17 - seen.length = (16 - seen.length) + 1 by omega, show 17 - (seen ++ [a]).length = 16 - seen.length by simp]
  rw [lwF.eq_2]
  rw [if_neg h0, if_neg h1, if_neg (by rw [h2]; decide)]
end
/-- a path along links, to its end -/
inductive Chain (l : List Int) (k : Int) : Int → List Int → Prop
  | nil : Chain l k (-1) []
  | cons {a : Int} {xs : List Int} : 0 ≤ a → a < l.length → nB l k a = true → Chain l k (nV l k a) xs → Chain l k a (a :: xs)
theorem lw_chain {l : List Int} {k : Int} (hl : l.length ≤ 16) : ∀ (xs seen : List Int) (a : Int), Chain l k a xs → Seen l (seen ++ xs) → lw l k seen a = (seen ++ xs, 0) := by
  intro xs
  induction xs with
  | nil =>
    intro seen a h hs
    cases h
    rw [List.append_nil] at hs ⊢
    exact lw_end (by have := hs.len; omega)
  | cons x r ih =>
    intro seen a h hs
    cases h with
    | cons h0 h1 h2 h3 =>
      have hlen := hs.len
      rw [List.length_append, List.length_cons] at hlen
      have hn : x ∉ seen := fun e => by
        have := (List.nodup_append.1 hs.nd).2.2 x e x (by simp)
        exact this rfl
      rw [lw_step (by omega) (by omega) (by rintro (e | e); omega; exact hn e) h2]
      rw [ih (seen ++ [x]) _ h3 (by rw [List.append_assoc]; exact hs), List.append_assoc]
      rfl
theorem chain_lw {l : List Int} {k : Int} (hl : l.length ≤ 16) : ∀ (f : Nat) (seen : List Int) (a : Int) (out : List Int), seen.length + f = 17 → -1 ≤ a → Seen l seen → lwF l k f seen a = (out, 0) → ∃ xs, out = seen ++ xs ∧ Chain l k a xs ∧ Seen l out := by
  intro f
  induction f with
  | zero => intro seen a out _ _ _ h; simp [lwF] at h
  | succ f ih =>
    intro seen a out hf ha hs h
    unfold lwF at h
    split at h
    · rename_i e
      subst e
      obtain ⟨rfl, _⟩ := Prod.mk.inj h
      exact ⟨[], by simp, .nil, hs⟩
    · split at h
      · simp at h
      · split at h
        · simp at h
        · rename_i h1 h2 h3
          have h2' : ¬ (l.length : Int) ≤ a ∧ a ∉ seen := not_or.1 h2
          have h3' : nB l k a = true := by cases e : nB l k a <;> simp_all
          obtain ⟨xs, e1, e2, e3⟩ := ih (seen ++ [a]) _ out (by simp; omega) (shw_range h3').1 (hs.add (by omega) (by omega) h2'.2) h
          exact ⟨a :: xs, by rw [e1]; simp, .cons (by omega) (by omega) h3' e2, e3⟩
theorem lst_chain {l : List Int} {k a : Int} {out : List Int} (h : lst l k a = (out, 0)) : okL l a ∧ Chain l k a out ∧ Seen l out := by
  by_cases ho : okL l a
  · rw [lst_ok ho] at h
    obtain ⟨xs, e1, e2, e3⟩ := chain_lw ho.1 17 [] a out rfl ho.2.1 (Seen.nil l) h
    rw [List.nil_append] at e1
    subst e1
    exact ⟨ho, e2, e3⟩
  · rw [lst_bad ho] at h
    simp at h
theorem chain_lst {l : List Int} {k a : Int} {out : List Int} (ho : okL l a) (h : Chain l k a out) (hs : Seen l out) : lst l k a = (out, 0) := by
  rw [lst_ok ho, lw_chain ho.1 out [] a h (by simpa using hs)]
  rfl
/-- which errors -/
theorem lwF_err (l : List Int) (k : Int) : ∀ (f : Nat) (seen : List Int) (a : Int), (lwF l k f seen a).2 = 0 ∨ (lwF l k f seen a) = ([], 150) := by
  intro f
  induction f with
  | zero => intro seen a; exact .inr rfl
  | succ f ih =>
    intro seen a
    unfold lwF
    split
    · exact .inl rfl
    · split
      · exact .inr rfl
      · split
        · exact .inr rfl
        · exact ih _ _
theorem lst_err {l : List Int} {k a : Int} (ho : okL l a) : (lst l k a).2 = 0 ∨ lst l k a = ([], 150) := by
  rw [lst_ok ho]
  exact lwF_err _ _ _ _ _
/-- fresh links -/
def frN (n : Nat) (i : Nat) : Int := if i + 1 = n then -1 else (i + 1 : Nat)
def frs (n : Nat) (k : Int) : List Int := (List.range n).map fun i => hidV (frN n i) k i
def okF (n : Int) : Prop := 1 ≤ n ∧ n ≤ 16
instance (n : Int) : Decidable (okF n) := by unfold okF; infer_instance
def frV (n k : Int) : List Int := if okF n then frs n.toNat k else []
def frE (n : Int) : Int := if okF n then 0 else 2
theorem frs_len (n : Nat) (k : Int) : (frs n k).length = n := by simp [frs]
theorem frs_at {n : Nat} {k : Int} {i : Nat} (h : i < n) : pk (frs n k) i = hidV (frN n i) k i := by simp [pk, frs, h]
theorem fr_ok {n i : Nat} (hn : n ≤ 16) (h : i < n) : okN (frN n i) ∧ okO i := by
  unfold frN okN okO
  split <;> omega
theorem fr_next {n : Nat} {k : Int} {i : Nat} (hn : n ≤ 16) (h : i < n) : nB (frs n k) k i = true ∧ nV (frs n k) k i = frN n i := by
  have h1 := fr_ok hn h
  unfold nB nV
  rw [show (i : Int).toNat = i by omega, frs_at h]
  exact shw_hid h1.1 h1.2
/-- from i on -/
def upF (n i : Nat) : List Int := (List.range (n - i)).map fun j => ((i + j : Nat) : Int)
theorem fr_chain {n : Nat} {k : Int} (hn : n ≤ 16) : ∀ (m i : Nat), i + (m + 1) = n → Chain (frs n k) k i (upF n i) := by
  intro m
  induction m with
  | zero =>
    intro i hi
    have e : upF n i = [(i : Int)] := by simp [upF, show n - i = 1 by omega]
    rw [e]
    obtain ⟨h1, h2⟩ := fr_next (k := k) hn (show i < n by omega)
    refine .cons (by omega) (by rw [frs_len]; omega) h1 ?_
    rw [h2, show frN n i = -1 by unfold frN; rw [if_pos (by omega)]]
    exact .nil
  | succ m ih =>
    intro i hi
    have e : upF n i = (i : Int) :: upF n (i + 1) := by
      unfold upF
      rw [show n - i = (n - (i + 1)) + 1 by omega, List.range_succ_eq_map]
      simp only [List.map_cons, List.map_map, Nat.add_zero]
      congr 1
      apply List.map_congr_left
      intro j _
      simp only [Function.comp]
      congr 1
      omega
    rw [e]
    obtain ⟨h1, h2⟩ := fr_next (k := k) hn (show i < n by omega)
    refine .cons (by omega) (by rw [frs_len]; omega) h1 ?_
    rw [h2, show frN n i = ((i + 1 : Nat) : Int) by unfold frN; rw [if_neg (by omega)]]
    exact ih (i + 1) (by omega)
theorem up_seen (n i : Nat) (l : List Int) (hl : l.length = n) : Seen l (upF n i) := by
  refine ⟨?_, fun x hx => ?_⟩
  · unfold upF
    exact List.Pairwise.map _ (fun a b hab e => hab (by omega)) List.nodup_range
  · unfold upF at hx
    obtain ⟨j, hj, rfl⟩ := List.mem_map.1 hx
    have := List.mem_range.1 hj
    omega
theorem lst_fresh {n i : Nat} {k : Int} (h1 : n ≤ 16) (hi : i < n) : lst (frs n k) k i = (upF n i, 0) := by
  refine chain_lst ⟨by rw [frs_len]; exact h1, by omega, by rw [frs_len]; omega⟩ (fr_chain h1 (n - i - 1) i (by omega)) (up_seen _ _ _ (frs_len n k))
/-- two lists that share no object, the end of the one led to the other: both are one -/
theorem chain_upd {l l' : List Int} {k : Int} (hlen : l'.length = l.length) : ∀ (xs : List Int) (a : Int), Chain l k a xs → (∀ x ∈ xs, pk l' x.toNat = pk l x.toNat) → Chain l' k a xs := by
  intro xs
  induction xs with
  | nil => intro a h _; cases h; exact .nil
  | cons x r ih =>
    intro a h he
    cases h with
    | cons h0 h1 h2 h3 =>
      have e := he x (by simp)
      refine .cons h0 (by omega) (by unfold nB; rw [e]; exact h2) ?_
      unfold nV
      rw [e]
      exact ih _ h3 (fun x hx => he x (by simp [hx]))
theorem chain_app {l l' : List Int} {k b z : Int} {ys : List Int} (hlen : l'.length = l.length) (hb : Chain l' k b ys) (hz : nB l' k z = true ∧ nV l' k z = b) : ∀ (xs : List Int) (a : Int), Chain l k a (xs ++ [z]) → (∀ x ∈ xs, pk l' x.toNat = pk l x.toNat) → Chain l' k a (xs ++ [z] ++ ys) := by
  intro xs
  induction xs with
  | nil =>
    intro a h _
    rw [List.nil_append] at h ⊢
    cases h with
    | cons h0 h1 h2 h3 =>
      refine .cons h0 (by omega) hz.1 ?_
      rw [hz.2]
      exact hb
  | cons x r ih =>
    intro a h he
    rw [List.cons_append] at h
    cases h with
    | cons h0 h1 h2 h3 =>
      have e := he x (by simp)
      refine .cons h0 (by omega) (by unfold nB; rw [e]; exact h2) ?_
      unfold nV
      rw [e]
      exact ih _ h3 (fun x hx => he x (by simp [hx]))
theorem pk_set_self {l : List Int} {i : Nat} (x : Int) (h : i < l.length) : pk (l.set i x) i = x := by simp [pk, h]
theorem pk_set_ne {l : List Int} {i j : Nat} (x : Int) (h : i ≠ j) : pk (l.set i x) j = pk l j := by simp [pk, List.getElem?_set_ne h]
theorem lst_join {l : List Int} {k a b z : Int} {xs ys : List Int} (ha : lst l k a = (xs ++ [z], 0)) (hb : lst l k b = (ys, 0)) (hy : ys ≠ []) (hd : ∀ x ∈ xs ++ [z], x ∉ ys) :
    lst (l.set z.toNat (hidV b k z)) k a = (xs ++ [z] ++ ys, 0) ∧ okN b ∧ okO z := by
  obtain ⟨oa, ca, sa⟩ := lst_chain ha
  obtain ⟨ob, cb, sb⟩ := lst_chain hb
  obtain ⟨hz0, hz1⟩ := sa.at_ z (by simp)
  have hlen : (l.set z.toNat (hidV b k z)).length = l.length := by simp
  have h16 := oa.1
  have hz : okO z := ⟨hz0, by omega⟩
  have hbn : okN b := ⟨ob.2.1, by have := ob.2.2; omega⟩
  have hzt : z.toNat < l.length := by omega
  have hself : pk (l.set z.toNat (hidV b k z)) z.toNat = hidV b k z := pk_set_self _ hzt
  have hother : ∀ x : Int, 0 ≤ x → x ≠ z → pk (l.set z.toNat (hidV b k z)) x.toNat = pk l x.toNat := fun x h0 hx => pk_set_ne _ (by omega)
  have hsh := shw_hid (k := k) hbn hz
  have hndz : z ∉ xs := fun e => by
    have := (List.nodup_append.1 sa.nd).2.2 z e z (by simp)
    exact this rfl
  have cb' : Chain (l.set z.toNat (hidV b k z)) k b ys := chain_upd hlen _ _ cb (fun x hx => hother x (sb.at_ x hx).1 (fun e => hd z (by simp) (e ▸ hx)))
  have cab := chain_app hlen cb' (z := z) (by unfold nB nV; rw [hself]; exact hsh) xs a ca (fun x hx => hother x (sa.at_ x (by simp [hx])).1 (fun e => hndz (e ▸ hx)))
  refine ⟨chain_lst ⟨by rw [hlen]; exact h16, oa.2.1, by rw [hlen]; exact oa.2.2⟩ cab ⟨?_, fun x hx => ?_⟩, hbn, hz⟩
  · rw [List.nodup_append]
    exact ⟨sa.nd, sb.nd, fun x hx y hy e => hd x hx (e ▸ hy)⟩
  · rw [hlen]
    rcases List.mem_append.1 hx with h | h
    · exact sa.at_ x h
    · exact sb.at_ x h
end Go.Proofs.Ytnnfmlbgoplnaaa
