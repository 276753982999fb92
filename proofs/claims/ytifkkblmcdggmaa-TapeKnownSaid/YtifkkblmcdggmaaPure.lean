/-
  Scripts, their bytes, and back, as plain lists: no program in it.
-/
import Derived.Test.YtifkkblmcdggmaaMem
set_option linter.unusedVariables false
set_option linter.unusedSimpArgs false
namespace Go.Proofs.Ytifkkblmcdggmaa
open Go

def okI (lo hi x : Int) : Bool := decide (lo ≤ x) && decide (x ≤ hi)
def okC (c : Cl) : Bool := okI 0 13 c.op && okI 0 255 c.a && okI 0 65535 c.b && okI 0 255 c.c
def okL (l : List Cl) : Bool := decide (l.length ≤ 64) && l.all okC
def okS (S : Scr) : Bool := okI 1 8 S.cpus && okI 1 1024 S.pages && decide ((S.calls.length : Int) = S.cpus) && decide (S.picks.length ≤ 4096) && S.calls.all okL && S.picks.all (okI 0 255)
def encC (c : Cl) : List Int := [c.op, c.a, c.b / 256, c.b % 256, c.c]
def encL (l : List Cl) : List Int := (l.length : Int) :: l.flatMap encC
def encLs (L : List (List Cl)) : List Int := L.flatMap encL
def head3 (S : Scr) : List Int := [S.cpus - 1, (S.pages - 1) / 256, (S.pages - 1) % 256]
def enc (S : Scr) : List Int := head3 S ++ encLs S.calls ++ S.picks
def nx (l : List Int) : Int := l.headD 0
def two (l : List Int) : Int := nx l * 256 + nx (l.drop 1)
def callAt (l : List Int) : Cl := ⟨nx l % 14, nx (l.drop 1), two (l.drop 2), nx (l.drop 4)⟩
def decC (n : Nat) (l : List Int) : List Cl := (List.range n).map fun i => callAt (l.drop (5 * i))
def num (l : List Int) : Nat := (nx l % 65).toNat
def decL (l : List Int) : List Cl := decC (num l) (l.drop 1)
def stepL (l : List Int) : List Int := l.drop (1 + 5 * num l)
def rest : Nat → List Int → List Int
  | 0, l => l
  | k + 1, l => stepL (rest k l)
def decLs (n : Nat) (l : List Int) : List (List Cl) := (List.range n).map fun i => decL (rest i l)
def cpusOf (l : List Int) : Nat := (1 + nx l % 8).toNat
def dec (l : List Int) : Scr := { cpus := 1 + nx l % 8, pages := 1 + two (l.drop 1) % 1024, calls := decLs (cpusOf l) (l.drop 3), picks := (rest (cpusOf l) (l.drop 3)).take 4096 }
def Bytey (l : List Int) : Prop := ∀ x ∈ l, 0 ≤ x ∧ x ≤ 255

theorem okI_iff {lo hi x : Int} : okI lo hi x = true ↔ lo ≤ x ∧ x ≤ hi := by simp [okI]
theorem okC_iff {c : Cl} : okC c = true ↔ (0 ≤ c.op ∧ c.op ≤ 13) ∧ (0 ≤ c.a ∧ c.a ≤ 255) ∧ (0 ≤ c.b ∧ c.b ≤ 65535) ∧ (0 ≤ c.c ∧ c.c ≤ 255) := by
  simp only [okC, Bool.and_eq_true, okI_iff]
  constructor
  · rintro ⟨⟨⟨a, b⟩, c⟩, d⟩; exact ⟨a, b, c, d⟩
  · rintro ⟨a, b, c, d⟩; exact ⟨⟨⟨a, b⟩, c⟩, d⟩
theorem okL_iff {l : List Cl} : okL l = true ↔ l.length ≤ 64 ∧ ∀ c ∈ l, okC c = true := by simp [okL]
theorem okS_iff {S : Scr} : okS S = true ↔ (1 ≤ S.cpus ∧ S.cpus ≤ 8) ∧ (1 ≤ S.pages ∧ S.pages ≤ 1024) ∧ (S.calls.length : Int) = S.cpus ∧ S.picks.length ≤ 4096 ∧ (∀ l ∈ S.calls, okL l = true) ∧ ∀ x ∈ S.picks, 0 ≤ x ∧ x ≤ 255 := by
  simp only [okS, Bool.and_eq_true, okI_iff, decide_eq_true_eq, List.all_eq_true]
  constructor
  · rintro ⟨⟨⟨⟨⟨a, b⟩, c⟩, d⟩, e⟩, f⟩; exact ⟨a, b, c, d, e, f⟩
  · rintro ⟨a, b, c, d, e, f⟩; exact ⟨⟨⟨⟨⟨a, b⟩, c⟩, d⟩, e⟩, f⟩

theorem Bytey.drop {l : List Int} (h : Bytey l) (n : Nat) : Bytey (l.drop n) := fun x hx => h x (List.mem_of_mem_drop hx)
theorem Bytey.nx {l : List Int} (h : Bytey l) : 0 ≤ nx l ∧ nx l ≤ 255 := by
  cases l with
  | nil => simp [Go.Proofs.Ytifkkblmcdggmaa.nx]
  | cons x r => simpa [Go.Proofs.Ytifkkblmcdggmaa.nx] using h x (by simp)
theorem Bytey.two {l : List Int} (h : Bytey l) : 0 ≤ two l ∧ two l ≤ 65535 := by
  have h1 := h.nx
  have h2 := (h.drop 1).nx
  unfold Go.Proofs.Ytifkkblmcdggmaa.two
  omega
theorem Bytey.rest {l : List Int} (h : Bytey l) (k : Nat) : Bytey (rest k l) := by
  induction k with
  | zero => exact h
  | succ k ih => exact ih.drop _
theorem num_lt (l : List Int) : num l ≤ 64 := by unfold num; omega
theorem num_eq {l : List Int} : (num l : Int) = nx l % 65 := by unfold num; omega
theorem cpusOf_eq (l : List Int) : (cpusOf l : Int) = 1 + nx l % 8 := by unfold cpusOf; omega
theorem cpusOf_le (l : List Int) : 1 ≤ cpusOf l ∧ cpusOf l ≤ 8 := by unfold cpusOf; omega

theorem callAt_ok {l : List Int} (h : Bytey l) : okC (callAt l) = true := by
  have h1 := (h.drop 1).nx
  have h2 := (h.drop 2).two
  have h3 := (h.drop 4).nx
  rw [okC_iff]
  unfold callAt
  dsimp only
  omega
theorem decC_length (n : Nat) (l : List Int) : (decC n l).length = n := by simp [decC]
theorem decC_succ (n : Nat) (l : List Int) : decC (n + 1) l = decC n l ++ [callAt (l.drop (5 * n))] := by simp [decC, List.range_succ]
theorem decLs_length (n : Nat) (l : List Int) : (decLs n l).length = n := by simp [decLs]
theorem decLs_succ (n : Nat) (l : List Int) : decLs (n + 1) l = decLs n l ++ [decL (rest n l)] := by simp [decLs, List.range_succ]
theorem decL_ok {l : List Int} (h : Bytey l) : okL (decL l) = true := by
  rw [okL_iff]
  refine ⟨by rw [decL, decC_length]; exact num_lt l, fun c hc => ?_⟩
  simp only [decL, decC, List.mem_map] at hc
  obtain ⟨i, _, rfl⟩ := hc
  exact callAt_ok ((h.drop 1).drop _)
theorem dec_ok {l : List Int} (h : Bytey l) : okS (dec l) = true := by
  rw [okS_iff]
  have h1 := h.nx
  have h2 := (h.drop 1).two
  refine ⟨by unfold dec; dsimp only; omega, by unfold dec; dsimp only; omega, by unfold dec; dsimp only; rw [decLs_length]; exact cpusOf_eq l, by unfold dec; dsimp only; rw [List.length_take]; exact Nat.min_le_left _ _, fun c hc => ?_, fun x hx => ?_⟩
  · simp only [dec, decLs, List.mem_map] at hc
    obtain ⟨i, _, rfl⟩ := hc
    exact decL_ok ((h.drop 3).rest i)
  · exact ((h.drop 3).rest _) x (List.mem_of_mem_take hx)

theorem callAt_enc {c : Cl} (h : okC c = true) (r : List Int) : callAt (encC c ++ r) = c := by
  rw [okC_iff] at h
  obtain ⟨op, a, b, cc⟩ := c
  dsimp only at h
  show Cl.mk (op % 14) a (b / 256 * 256 + b % 256) cc = Cl.mk op a b cc
  rw [Cl.mk.injEq]
  refine ⟨by omega, rfl, by omega, rfl⟩
theorem decC_cons (n : Nat) (l : List Int) : decC (n + 1) l = callAt l :: decC n (l.drop 5) := by
  simp only [decC, List.range_succ_eq_map, List.map_cons, List.map_map, Nat.mul_zero, List.drop_zero, List.cons.injEq, true_and]
  apply List.map_congr_left
  intro i _
  simp only [Function.comp, List.drop_drop]
  rw [show 5 * (i + 1) = 5 + 5 * i by omega]
theorem encC_length (c : Cl) : (encC c).length = 5 := rfl
theorem decC_enc (l : List Cl) (h : ∀ c ∈ l, okC c = true) (r : List Int) : decC l.length (l.flatMap encC ++ r) = l ∧ (l.flatMap encC ++ r).drop (5 * l.length) = r := by
  induction l with
  | nil => simp [decC]
  | cons c l ih =>
    obtain ⟨i1, i2⟩ := ih (fun x hx => h x (by simp [hx]))
    have hd : ((c :: l).flatMap encC ++ r).drop 5 = l.flatMap encC ++ r := by
      rw [List.flatMap_cons, List.append_assoc]
      exact List.drop_left' (encC_length c)
    constructor
    · rw [List.length_cons, decC_cons, hd, i1, List.flatMap_cons, List.append_assoc, callAt_enc (h c (by simp))]
    · rw [List.length_cons, show 5 * (l.length + 1) = 5 + 5 * l.length by omega, ← List.drop_drop, hd, i2]
theorem encL_num {l : List Cl} (h : okL l = true) (r : List Int) : num (encL l ++ r) = l.length := by
  rw [okL_iff] at h
  simp only [num, nx, encL, List.cons_append, List.headD_cons]
  omega
theorem encL_drop (l : List Cl) (r : List Int) : (encL l ++ r).drop 1 = l.flatMap encC ++ r := by simp [encL]
theorem decL_enc {l : List Cl} (h : okL l = true) (r : List Int) : decL (encL l ++ r) = l := by
  rw [decL, encL_num h, encL_drop]
  exact (decC_enc l ((okL_iff.1 h).2) r).1
theorem stepL_enc {l : List Cl} (h : okL l = true) (r : List Int) : stepL (encL l ++ r) = r := by
  rw [stepL, encL_num h, ← List.drop_drop, encL_drop]
  exact (decC_enc l ((okL_iff.1 h).2) r).2
theorem rest_succ (k : Nat) (l : List Int) : rest (k + 1) l = rest k (stepL l) := by
  induction k with
  | zero => rfl
  | succ k ih =>
    rw [rest, ih]
    rfl
theorem decLs_cons (n : Nat) (l : List Int) : decLs (n + 1) l = decL l :: decLs n (stepL l) := by
  simp only [decLs, List.range_succ_eq_map, List.map_cons, List.map_map, List.cons.injEq]
  refine ⟨rfl, List.map_congr_left fun i _ => ?_⟩
  simp only [Function.comp]
  rw [rest_succ]
theorem decLs_enc (L : List (List Cl)) (h : ∀ l ∈ L, okL l = true) (r : List Int) : decLs L.length (encLs L ++ r) = L ∧ rest L.length (encLs L ++ r) = r := by
  induction L with
  | nil => simp [decLs, encLs, rest]
  | cons l L ih =>
    obtain ⟨i1, i2⟩ := ih (fun x hx => h x (by simp [hx]))
    have e : encLs (l :: L) ++ r = encL l ++ (encLs L ++ r) := by simp [encLs]
    constructor
    · rw [e, List.length_cons, decLs_cons, decL_enc (h l (by simp)), stepL_enc (h l (by simp)), i1]
    · rw [e, List.length_cons, rest_succ, stepL_enc (h l (by simp)), i2]
theorem dec_enc {S : Scr} (h : okS S = true) (more : List Int) : dec (enc S ++ more) = { S with picks := (S.picks ++ more).take 4096 } := by
  rw [okS_iff] at h
  obtain ⟨h1, h2, h3, h4, h5, h6⟩ := h
  have e0 : enc S ++ more = (S.cpus - 1) :: (S.pages - 1) / 256 :: (S.pages - 1) % 256 :: (encLs S.calls ++ (S.picks ++ more)) := by simp [enc, head3]
  have ec : cpusOf (enc S ++ more) = S.calls.length := by
    rw [e0]
    simp only [cpusOf, nx, List.headD_cons]
    omega
  have e3 : (enc S ++ more).drop 3 = encLs S.calls ++ (S.picks ++ more) := by rw [e0]; rfl
  obtain ⟨d1, d2⟩ := decLs_enc S.calls h5 (S.picks ++ more)
  unfold dec
  rw [ec, e3, d1, d2, e0]
  obtain ⟨cpus, pages, cl, pk⟩ := S
  dsimp only at *
  simp only [nx, two, List.drop_succ_cons, List.drop_zero, List.headD_cons, Scr.mk.injEq, and_true]
  omega
theorem dec_enc' {S : Scr} (h : okS S = true) : dec (enc S) = S := by
  have := dec_enc h []
  rw [List.append_nil, List.append_nil, List.take_of_length_le ((okS_iff.1 h).2.2.2.1)] at this
  exact this
theorem enc_inj {S T : Scr} (hS : okS S = true) (hT : okS T = true) (h : enc S = enc T) : S = T := by
  rw [← dec_enc' hS, ← dec_enc' hT, h]
theorem encLs_length (L : List (List Cl)) : L.length ≤ (encLs L).length := by
  induction L with
  | nil => simp
  | cons l L ih => simp only [encLs, List.flatMap_cons, List.length_append, List.length_cons, encL] at *; omega
theorem enc_length {S : Scr} (h : okS S = true) : 3 + S.cpus ≤ ((enc S).length : Int) := by
  have h3 := (okS_iff.1 h).2.2.1
  have := encLs_length S.calls
  simp only [enc, head3, List.length_append, List.length_cons, List.length_nil]
  omega
theorem flat_encC_length (l : List Cl) : (l.flatMap encC).length = l.length * 5 := by
  induction l with
  | nil => rfl
  | cons c r ih => simp only [List.flatMap_cons, List.length_append, List.length_cons, encC_length] at *; omega
theorem encLs_upper (L : List (List Cl)) (h : ∀ l ∈ L, okL l = true) : (encLs L).length ≤ L.length * 321 := by
  induction L with
  | nil => simp [encLs]
  | cons l L ih =>
    have h1 := (okL_iff.1 (h l (by simp))).1
    have h2 := ih (fun x hx => h x (by simp [hx]))
    have h3 := flat_encC_length l
    simp only [encLs, List.flatMap_cons, List.length_append, List.length_cons, encL] at *
    omega
theorem enc_upper {S : Scr} (h : okS S = true) : (enc S).length ≤ 10000 := by
  obtain ⟨h1, h2, h3, h4, h5, h6⟩ := okS_iff.1 h
  have := encLs_upper S.calls h5
  simp only [enc, head3, List.length_append, List.length_cons, List.length_nil]
  omega
theorem flat_encC_bytey (l : List Cl) (h : ∀ c ∈ l, okC c = true) : Bytey (l.flatMap encC) := by
  intro x hx
  obtain ⟨c, hc, hx⟩ := List.mem_flatMap.1 hx
  have := okC_iff.1 (h c hc)
  simp only [encC, List.mem_cons, List.mem_nil_iff, or_false] at hx
  omega
theorem enc_bytey {S : Scr} (h : okS S = true) : Bytey (enc S) := by
  obtain ⟨h1, h2, h3, h4, h5, h6⟩ := okS_iff.1 h
  intro x hx
  simp only [enc, head3, encLs, List.mem_append, List.mem_cons, List.mem_nil_iff, or_false, List.mem_flatMap] at hx
  rcases hx with (hx | ⟨l, hl, hx⟩) | hx
  · omega
  · have hk := okL_iff.1 (h5 l hl)
    rcases List.mem_cons.1 hx with rfl | hx
    · omega
    · exact flat_encC_bytey l hk.2 x hx
  · exact h6 x hx
end Go.Proofs.Ytifkkblmcdggmaa
