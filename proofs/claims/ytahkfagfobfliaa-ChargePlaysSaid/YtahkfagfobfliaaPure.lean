/-
  Counters: the arithmetic of it.
-/
import Derived.Test.YtahkfagfobfliaaBase
set_option linter.unusedVariables false
set_option linter.unusedSimpArgs false
namespace Go.Proofs.Ytahkfagfobfliaa
open Go

/-- what is charged to each group, and its limit -/
@[ext] structure Ct where
  us : Nat → Int
  mo : Nat → Int
def isG (x : Int) : Prop := 1 ≤ x ∧ x ≤ 16
def isN (x : Int) : Prop := 0 ≤ x ∧ x ≤ 9007199254740991
instance (x : Int) : Decidable (isG x) := by unfold isG; infer_instance
instance (x : Int) : Decidable (isN x) := by unfold isN; infer_instance
def Ct.set (t : Ct) (k : Nat) (v : Int) : Ct := ⟨fun j => if j = k then v else t.us j, t.mo⟩
def Ct.up (t : Ct) (k : Nat) (n : Int) : Ct := t.set k (t.us k + n)
def Ct.dn (t : Ct) (k : Nat) (n : Int) : Ct := t.set k (t.us k - n)
def Ct.lim (t : Ct) (k : Nat) (n : Int) : Ct := ⟨t.us, fun j => if j = k then n else t.mo j⟩
def Ct.all (t : Ct) (l : List Int) (n : Int) : Ct := ⟨fun j => if (j : Int) ∈ l then t.us j + n else t.us j, t.mo⟩
def noC : Ct := ⟨fun _ => 0, fun _ => 9007199254740991⟩
structure CI (t : Ct) : Prop where
  u : ∀ k, 1 ≤ k → k ≤ 16 → isN (t.us k)
  m : ∀ k, 1 ≤ k → k ≤ 16 → isN (t.mo k)
theorem CI.new : CI noC := ⟨fun _ _ _ => by unfold isN noC; dsimp only; omega, fun _ _ _ => by unfold isN noC; dsimp only; omega⟩
def askE (g n : Int) : Int := if ¬ isG g then 110 else if ¬ isN n then 2 else 0
theorem askE_cases (g n : Int) : (askE g n = 110 ∧ ¬ isG g) ∨ (askE g n = 2 ∧ isG g ∧ ¬ isN n) ∨ (askE g n = 0 ∧ isG g ∧ isN n) := by
  unfold askE
  by_cases h1 : isG g
  · by_cases h2 : isN n
    · simp [h1, h2]
    · simp [h1, h2]
  · simp [h1]
theorem isG.nat {g : Int} (h : isG g) : ∃ k : Nat, g = k ∧ 1 ≤ k ∧ k ≤ 16 := ⟨g.toNat, by unfold isG at h; omega, by unfold isG at h; omega, by unfold isG at h; omega⟩
def fits (t : Ct) (x n : Int) : Prop := t.us x.toNat + n ≤ t.mo x.toNat
instance (t : Ct) (x n : Int) : Decidable (fits t x n) := by unfold fits; infer_instance
structure IsPath (l : List Int) : Prop where
  n1 : 1 ≤ l.length
  n2 : l.length ≤ 8
  g : ∀ i, i < l.length → isG (pk l i)
  d : ∀ i, i < l.length → pk l i ∉ l.take i
inductive UpIs (t : Ct) (g n : Int) : Int → Ct → Prop
  | bad (h : askE g n ≠ 0) : UpIs t g n (askE g n) t
  | full (k : Nat) (hg : g = k) (h1 : 1 ≤ k) (h2 : k ≤ 16) (hn : isN n) (hf : t.mo k < t.us k + n) : UpIs t g n 120 t
  | ok (k : Nat) (hg : g = k) (h1 : 1 ≤ k) (h2 : k ≤ 16) (hn : isN n) (hf : t.us k + n ≤ t.mo k) : UpIs t g n 0 (t.up k n)
inductive DnIs (t : Ct) (g n : Int) : Int → Ct → Prop
  | bad (h : askE g n ≠ 0) : DnIs t g n (askE g n) t
  | few (k : Nat) (hg : g = k) (h1 : 1 ≤ k) (h2 : k ≤ 16) (hn : isN n) (hf : t.us k < n) : DnIs t g n 2 t
  | ok (k : Nat) (hg : g = k) (h1 : 1 ≤ k) (h2 : k ≤ 16) (hn : isN n) (hf : n ≤ t.us k) : DnIs t g n 0 (t.dn k n)
inductive LmIs (t : Ct) (g n : Int) : Int → Ct → Prop
  | bad (h : askE g n ≠ 0) : LmIs t g n (askE g n) t
  | ok (k : Nat) (hg : g = k) (h1 : 1 ≤ k) (h2 : k ≤ 16) (hn : isN n) : LmIs t g n 0 (t.lim k n)
inductive TryIs (q : Int) (t : Ct) (l : List Int) (n : Int) : Int → Int → Ct → Prop
  | bad (h : q ≠ 0) : TryIs q t l n 0 q t
  | full (j : Nat) (hq : q = 0) (hp : IsPath l) (hn : isN n) (hj : j < l.length) (hb : ∀ i, i < j → fits t (pk l i) n) (hf : ¬ fits t (pk l j) n) : TryIs q t l n (pk l j) 120 t
  | ok (hq : q = 0) (hp : IsPath l) (hn : isN n) (hb : ∀ i, i < l.length → fits t (pk l i) n) : TryIs q t l n 0 0 (t.all l n)
inductive BkIs (q : Int) (t : Ct) (l : List Int) (n : Int) : Int → Ct → Prop
  | bad (h : q ≠ 0) : BkIs q t l n q t
  | few (j : Nat) (hq : q = 0) (hp : IsPath l) (hn : isN n) (hj : j < l.length) (hb : ∀ i, i < j → n ≤ t.us (pk l i).toNat) (hf : t.us (pk l j).toNat < n) : BkIs q t l n 2 t
  | ok (hq : q = 0) (hp : IsPath l) (hn : isN n) (hb : ∀ i, i < l.length → n ≤ t.us (pk l i).toNat) : BkIs q t l n 0 (t.all l (-n))
theorem first_not (P : Nat → Prop) [DecidablePred P] (n : Nat) : (∀ i, i < n → P i) ∨ ∃ j, j < n ∧ (∀ i, i < j → P i) ∧ ¬ P j := by
  induction n with
  | zero => exact .inl fun i hi => by omega
  | succ n ih =>
    rcases ih with h | ⟨j, hj, h⟩
    · by_cases hp : P n
      · exact .inl fun i hi => by
          by_cases e : i = n
          · rw [e]; exact hp
          · exact h i (by omega)
      · exact .inr ⟨n, by omega, h, hp⟩
    · exact .inr ⟨j, by omega, h⟩
section
variable {t t' : Ct} {g n e a q : Int} {l : List Int} {k : Nat}
theorem UpIs.ex (t : Ct) (g n : Int) : ∃ e t', UpIs t g n e t' := by
  rcases askE_cases g n with ⟨h, _⟩ | ⟨h, _⟩ | ⟨_, hg, hn⟩
  · exact ⟨_, _, .bad (by rw [h]; decide)⟩
  · exact ⟨_, _, .bad (by rw [h]; decide)⟩
  · obtain ⟨k, e, h1, h2⟩ := hg.nat
    by_cases hf : t.us k + n ≤ t.mo k
    · exact ⟨_, _, .ok k e h1 h2 hn hf⟩
    · exact ⟨_, _, .full k e h1 h2 hn (by omega)⟩
theorem DnIs.ex (t : Ct) (g n : Int) : ∃ e t', DnIs t g n e t' := by
  rcases askE_cases g n with ⟨h, _⟩ | ⟨h, _⟩ | ⟨_, hg, hn⟩
  · exact ⟨_, _, .bad (by rw [h]; decide)⟩
  · exact ⟨_, _, .bad (by rw [h]; decide)⟩
  · obtain ⟨k, e, h1, h2⟩ := hg.nat
    by_cases hf : n ≤ t.us k
    · exact ⟨_, _, .ok k e h1 h2 hn hf⟩
    · exact ⟨_, _, .few k e h1 h2 hn (by omega)⟩
theorem LmIs.ex (t : Ct) (g n : Int) : ∃ e t', LmIs t g n e t' := by
  rcases askE_cases g n with ⟨h, _⟩ | ⟨h, _⟩ | ⟨_, hg, hn⟩
  · exact ⟨_, _, .bad (by rw [h]; decide)⟩
  · exact ⟨_, _, .bad (by rw [h]; decide)⟩
  · obtain ⟨k, e, h1, h2⟩ := hg.nat
    exact ⟨_, _, .ok k e h1 h2 hn⟩
theorem TryIs.ex (t : Ct) (l : List Int) (n q : Int) (h : q = 0 → IsPath l ∧ isN n) : ∃ a e t', TryIs q t l n a e t' := by
  by_cases hq : q = 0
  · obtain ⟨hp, hn⟩ := h hq
    rcases first_not (fun i => fits t (pk l i) n) l.length with hb | ⟨j, hj, hb, hf⟩
    · exact ⟨_, _, _, .ok hq hp hn hb⟩
    · exact ⟨_, _, _, .full j hq hp hn hj hb hf⟩
  · exact ⟨_, _, _, .bad hq⟩
theorem BkIs.ex (t : Ct) (l : List Int) (n q : Int) (h : q = 0 → IsPath l ∧ isN n) : ∃ e t', BkIs q t l n e t' := by
  by_cases hq : q = 0
  · obtain ⟨hp, hn⟩ := h hq
    rcases first_not (fun i => n ≤ t.us (pk l i).toNat) l.length with hb | ⟨j, hj, hb, hf⟩
    · exact ⟨_, _, .ok hq hp hn hb⟩
    · exact ⟨_, _, .few j hq hp hn hj hb (by omega)⟩
  · exact ⟨_, _, .bad hq⟩
theorem CI.set (h : CI t) {v : Int} (hv : isN v) : CI (t.set k v) := ⟨fun j h1 h2 => by
  unfold Ct.set
  dsimp only
  split
  · exact hv
  · exact h.u j h1 h2, h.m⟩
theorem CI.lim (h : CI t) (hv : isN n) : CI (t.lim k n) := ⟨h.u, fun j h1 h2 => by
  unfold Ct.lim
  dsimp only
  split
  · exact hv
  · exact h.m j h1 h2⟩
theorem UpIs.ci (h : UpIs t g n e t') (hc : CI t) : CI t' := by
  cases h with
  | bad _ => exact hc
  | full _ _ _ _ _ _ => exact hc
  | ok k hg h1 h2 hn hf =>
    have := hc.u k h1 h2
    have := hc.m k h1 h2
    exact hc.set (by unfold isN at *; omega)
theorem DnIs.ci (h : DnIs t g n e t') (hc : CI t) : CI t' := by
  cases h with
  | bad _ => exact hc
  | few _ _ _ _ _ _ => exact hc
  | ok k hg h1 h2 hn hf =>
    have := hc.u k h1 h2
    exact hc.set (by unfold isN at *; omega)
theorem LmIs.ci (h : LmIs t g n e t') (hc : CI t) : CI t' := by
  cases h with
  | bad _ => exact hc
  | ok k hg h1 h2 hn => exact hc.lim hn
theorem mem_pk (h : (k : Int) ∈ l) : ∃ i, i < l.length ∧ pk l i = k := by
  obtain ⟨i, hi, e⟩ := List.getElem_of_mem h
  exact ⟨i, hi, by rw [← pk_at l i hi, e]⟩
theorem TryIs.ci (h : TryIs q t l n a e t') (hc : CI t) : CI t' := by
  cases h with
  | bad _ => exact hc
  | full _ _ _ _ _ _ _ => exact hc
  | ok hq hp hn hb =>
    refine ⟨fun k h1 h2 => ?_, hc.m⟩
    unfold Ct.all
    dsimp only
    have hu := hc.u k h1 h2
    have hm := hc.m k h1 h2
    split
    · rename_i hk
      obtain ⟨i, hi, e⟩ := mem_pk hk
      have := hb i hi
      unfold fits at this
      rw [e, Int.toNat_natCast] at this
      unfold isN at *
      omega
    · exact hu
theorem BkIs.ci (h : BkIs q t l n e t') (hc : CI t) : CI t' := by
  cases h with
  | bad _ => exact hc
  | few _ _ _ _ _ _ _ => exact hc
  | ok hq hp hn hb =>
    refine ⟨fun k h1 h2 => ?_, hc.m⟩
    unfold Ct.all
    dsimp only
    have hu := hc.u k h1 h2
    split
    · rename_i hk
      obtain ⟨i, hi, e⟩ := mem_pk hk
      have := hb i hi
      rw [e, Int.toNat_natCast] at this
      unfold isN at *
      omega
    · exact hu
theorem Ct.dn_up (t : Ct) (k : Nat) (n : Int) : t.dn k n = t.up k (-n) := by unfold Ct.dn Ct.up; rw [Int.sub_eq_add_neg]
theorem Ct.all_nil (t : Ct) (n : Int) : t.all [] n = t := by ext <;> simp [Ct.all]
/-- one group of a path after the other -/
theorem Ct.all_next (t : Ct) (l : List Int) (n : Int) {j : Nat} (hj : j < l.length) (hd : ∀ i, i < l.length → pk l i ∉ l.take i) {k : Nat} (hk : pk l j = k) : t.all (l.take (j + 1)) n = (t.all (l.take j) n).up k n := by
  have hn : (k : Int) ∉ l.take j := by
    rw [← hk]
    exact hd j hj
  rw [List.take_succ_eq_append_getElem hj, pk_at l j hj, hk]
  ext i
  · unfold Ct.all Ct.up Ct.set
    dsimp only
    by_cases e : i = k
    · subst e
      rw [if_pos (by simp), if_pos rfl, if_neg hn]
    · rw [if_neg e]
      have : ((i : Int) ∈ l.take j ++ [(k : Int)]) ↔ (i : Int) ∈ l.take j := by
        rw [List.mem_append, List.mem_singleton]
        constructor
        · rintro (h | h)
          · exact h
          · exact absurd (Int.ofNat.inj h) e
        · exact .inl
      simp only [this]
  · rfl
/-- it is taken back again -/
theorem Ct.all_back (t : Ct) (l : List Int) (n : Int) {j : Nat} (hj : j < l.length) (hd : ∀ i, i < l.length → pk l i ∉ l.take i) {k : Nat} (hk : pk l j = k) : (t.all (l.take (j + 1)) n).dn k n = t.all (l.take j) n := by
  rw [Ct.all_next t l n hj hd hk]
  ext i
  · unfold Ct.up Ct.dn Ct.set
    dsimp only
    by_cases e : i = k
    · subst e; simp
    · simp [e]
  · rfl
theorem all_us (t : Ct) (l : List Int) (n : Int) (k : Nat) : (t.all l n).us k = if (k : Int) ∈ l then t.us k + n else t.us k := rfl
theorem IsPath.next (h : IsPath l) {j : Nat} (hj : j < l.length) : ∃ k : Nat, pk l j = k ∧ 1 ≤ k ∧ k ≤ 16 ∧ (k : Int) ∉ l.take j := by
  obtain ⟨k, e, h1, h2⟩ := (h.g j hj).nat
  exact ⟨k, e, h1, h2, by rw [← e]; exact h.d j hj⟩
end
end Go.Proofs.Ytahkfagfobfliaa
