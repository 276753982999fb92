/-
  Plain facts on the runes of a list of bytes, on folding, on names and on the order of texts. No run of the model is in this text but its own decoding of UTF-8.
-/
import Derived.Lib.MapLaws
import Derived.Laws.Cover4
import Derived.Laws.Strings
set_option linter.unusedVariables false
namespace Go.Proofs.YtekajahffnhboabDoor.sp
open Go Go.Lib

/-! ### the runes of bytes -/
def runesGo : Nat → List UInt8 → List Int
  | 0, _ => []
  | n + 1, l => if l = [] then [] else ((decodeL l).1 : Int) :: runesGo n (l.drop (decodeL l).2)
def runes (l : List UInt8) : List Int := runesGo l.length l

theorem runesGo_nil : ∀ n, runesGo n [] = []
  | 0 => rfl
  | n + 1 => by simp [runesGo]
theorem runesGo_fuel : ∀ (n m : Nat) (l : List UInt8), l.length ≤ n → l.length ≤ m → runesGo n l = runesGo m l
  | 0, m, l, hn, _ => by
    have : l = [] := List.eq_nil_of_length_eq_zero (by omega)
    subst this
    rw [runesGo_nil, runesGo_nil]
  | n + 1, 0, l, _, hm => by
    have : l = [] := List.eq_nil_of_length_eq_zero (by omega)
    subst this
    rw [runesGo_nil, runesGo_nil]
  | n + 1, m + 1, l, hn, hm => by
    by_cases hne : l = []
    · subst hne
      rw [runesGo_nil, runesGo_nil]
    · have hw := decodeL_width l
      have hl : 0 < l.length := List.length_pos_iff.2 hne
      simp only [runesGo, if_neg hne]
      rw [runesGo_fuel n m _ (by rw [List.length_drop]; omega) (by rw [List.length_drop]; omega)]
theorem runes_nil : runes [] = [] := rfl
theorem runes_step (l : List UInt8) (hne : l ≠ []) : runes l = ((decodeL l).1 : Int) :: runes (l.drop (decodeL l).2) := by
  have hw := decodeL_width l
  have hl : 0 < l.length := List.length_pos_iff.2 hne
  unfold runes
  obtain ⟨n, hn⟩ : ∃ n, l.length = n + 1 := ⟨l.length - 1, by omega⟩
  rw [hn]
  simp only [runesGo, if_neg hne]
  rw [runesGo_fuel n _ _ (by rw [List.length_drop]; omega) (Nat.le_refl _)]

/-- The runes of a string from a place on. -/
def at' (s : ByteArray) (pos : Nat) : List Int := runes (s.data.toList.drop pos)
theorem at_zero (s : ByteArray) : at' s 0 = runes s.data.toList := by simp [at']
theorem at_step (s : ByteArray) (pos : Nat) (h : pos < s.size) : at' s pos = ((Utf8.decode s pos).1 : Int) :: at' s (pos + (Utf8.decode s pos).2) := by
  unfold at'
  have hs : s.data.toList.length = s.size := by simp
  have hne : s.data.toList.drop pos ≠ [] := by
    intro e
    have := congrArg List.length e
    rw [List.length_drop, hs] at this
    simp at this
    omega
  rw [runes_step _ hne, decodeL_drop, List.drop_drop]
theorem at_end (s : ByteArray) (pos : Nat) (h : ¬ pos < s.size) : at' s pos = [] := by
  unfold at'
  have hs : s.data.toList.length = s.size := by simp
  rw [List.drop_of_length_le (by rw [hs]; omega), runes_nil]
theorem width_pos (s : ByteArray) (pos : Nat) : 1 ≤ (Utf8.decode s pos).2 := by
  rw [← decodeL_drop]
  exact decodeL_width _

/-! ### code points -/
def Sc (r : Int) : Prop := (0 ≤ r ∧ r < 55296) ∨ (57344 ≤ r ∧ r ≤ 1114111)
theorem decodeL_sc (l : List UInt8) : Sc ((decodeL l).1 : Int) := by
  rw [decodeL_N]
  have k0 := (l.getD 0 0).toNat_lt
  have k1 := (l.getD 1 0).toNat_lt
  have k2 := (l.getD 2 0).toNat_lt
  have k3 := (l.getD 3 0).toNat_lt
  unfold Sc
  rcases decodeN_shape l.length (l.getD 0 0).toNat (l.getD 1 0).toNat (l.getD 2 0).toNat (l.getD 3 0).toNat with ⟨c, e⟩ | ⟨c1, c2, c3, cv, e⟩ | ⟨c1, c2, c3, c4, cv, cs, e⟩ | ⟨c1, c2, c3, c4, c5, cv, cw, e⟩ | e
  all_goals (rw [e]; dsimp only; omega)
theorem decode_sc (s : ByteArray) (pos : Nat) : Sc ((Utf8.decode s pos).1 : Int) := by
  rw [← decodeL_drop]
  exact decodeL_sc _
theorem decode_hi (s : ByteArray) (pos : Nat) : (Utf8.decode s pos).1 ≤ 1114111 := by
  have := decode_sc s pos
  unfold Sc at this
  omega
theorem runesGo_sc : ∀ (n : Nat) (l : List UInt8), ∀ r ∈ runesGo n l, Sc r
  | 0, _, r, h => by simp [runesGo] at h
  | n + 1, l, r, h => by
    simp only [runesGo] at h
    split at h
    · simp at h
    · rcases List.mem_cons.1 h with rfl | h
      · exact decodeL_sc l
      · exact runesGo_sc n _ r h
theorem runes_sc (l : List UInt8) : ∀ r ∈ runes l, Sc r := runesGo_sc _ l
theorem runesGo_length : ∀ (n : Nat) (l : List UInt8), (runesGo n l).length ≤ n
  | 0, _ => by simp [runesGo]
  | n + 1, l => by
    simp only [runesGo]
    split
    · simp
    · have := runesGo_length n (l.drop (decodeL l).2)
      simp
      omega
theorem runes_length (l : List UInt8) : (runes l).length ≤ l.length := runesGo_length _ l
theorem at_length (s : ByteArray) : (at' s 0).length ≤ s.size := by
  rw [at_zero]
  have := runes_length s.data.toList
  simpa using this

/-! ### encoding -/
def enc (rs : List Int) : List UInt8 := rs.flatMap encodeRune
theorem enc_nil : enc [] = [] := rfl
theorem enc_cons (r : Int) (rs : List Int) : enc (r :: rs) = encodeRune r ++ enc rs := by simp [enc]
theorem enc_append (a b : List Int) : enc (a ++ b) = enc a ++ enc b := by simp [enc]
theorem encodeRune_length (r : Int) : 1 ≤ (encodeRune r).length ∧ (encodeRune r).length ≤ 4 := by
  have := encodeRuneZ_length r
  simpa [encodeRune] using this
theorem enc_length (rs : List Int) : (enc rs).length ≤ 4 * rs.length := by
  induction rs with
  | nil => simp [enc]
  | cons r rs ih =>
    have := encodeRune_length r
    rw [enc_cons, List.length_append, List.length_cons]
    omega

theorem byteZ (x : Int) (h0 : 0 ≤ x) (h1 : x < 256) : (x.toNat.toUInt8).toNat = x.toNat := by
  simp [Nat.toUInt8]
  omega

theorem decodeL_enc (r : Int) (h : Sc r) (t : List UInt8) : decodeL (encodeRune r ++ t) = (r.toNat, (encodeRune r).length) := by
  rw [decodeL_N]
  unfold Sc at h
  unfold encodeRune
  by_cases c1 : r ≤ 127
  · rw [encodeRuneZ_one (by omega) c1]
    simp only [List.map_cons, List.map_nil, List.cons_append, List.nil_append, List.getD_cons_zero, List.length_cons, List.length_nil]
    rw [byteZ r (by omega) (by omega)]
    unfold decodeN
    rw [if_pos (by omega)]
  · by_cases c2 : r ≤ 2047
    · rw [encodeRuneZ_two (by omega) c2]
      simp only [List.map_cons, List.map_nil, List.cons_append, List.nil_append, List.getD_cons_zero, List.getD_cons_succ, List.length_cons, List.length_nil]
      rw [byteZ (192 + r / 64) (by omega) (by omega), byteZ (128 + r % 64) (by omega) (by omega)]
      unfold decodeN
      rw [if_neg (by omega), if_pos ⟨by omega, by omega, by omega⟩, if_pos (by omega)]
      apply Prod.ext <;> simp only <;> omega
    · by_cases c3 : r ≤ 65535
      · rw [encodeRuneZ_three (by omega)]
        simp only [List.map_cons, List.map_nil, List.cons_append, List.nil_append, List.getD_cons_zero, List.getD_cons_succ, List.length_cons, List.length_nil]
        rw [byteZ (224 + r / 4096) (by omega) (by omega), byteZ (128 + r / 64 % 64) (by omega) (by omega), byteZ (128 + r % 64) (by omega) (by omega)]
        unfold decodeN
        rw [if_neg (by omega), if_neg (by omega), if_pos ⟨by omega, ⟨by omega, by omega⟩, by omega, by omega⟩, if_pos ⟨by omega, by omega⟩]
        apply Prod.ext <;> simp only <;> omega
      · rw [encodeRuneZ_four (by omega) (by omega)]
        simp only [List.map_cons, List.map_nil, List.cons_append, List.nil_append, List.getD_cons_zero, List.getD_cons_succ, List.length_cons, List.length_nil]
        rw [byteZ (240 + r / 262144) (by omega) (by omega), byteZ (128 + r / 4096 % 64) (by omega) (by omega), byteZ (128 + r / 64 % 64) (by omega) (by omega), byteZ (128 + r % 64) (by omega) (by omega)]
        unfold decodeN
        rw [if_neg (by omega), if_neg (by omega), if_neg (by omega), if_pos ⟨by omega, ⟨by omega, by omega⟩, ⟨by omega, by omega⟩, by omega, by omega⟩, if_pos ⟨by omega, by omega⟩]
        apply Prod.ext <;> simp only <;> omega

theorem runes_enc_append : ∀ (rs : List Int), (∀ r ∈ rs, Sc r) → ∀ t : List UInt8, runes (enc rs ++ t) = rs ++ runes t
  | [], _, t => by simp [enc]
  | r :: rs, h, t => by
    have hr := h r (by simp)
    have hl := encodeRune_length r
    rw [enc_cons, List.append_assoc, runes_step _ (by intro e; have := congrArg List.length e; rw [List.length_append] at this; simp only [List.length_nil] at this; omega), decodeL_enc r hr]
    dsimp only
    rw [List.drop_left, runes_enc_append rs (fun x hx => h x (by simp [hx])) t]
    have : 0 ≤ r := by unfold Sc at hr; omega
    simp
    omega
theorem runes_enc (rs : List Int) (h : ∀ r ∈ rs, Sc r) : runes (enc rs) = rs := by
  have := runes_enc_append rs h []
  simpa [runes_nil] using this
theorem enc_inj {a b : List Int} (ha : ∀ r ∈ a, Sc r) (hb : ∀ r ∈ b, Sc r) (h : enc a = enc b) : a = b := by
  rw [← runes_enc a ha, ← runes_enc b hb, h]

/-! ### folding -/
def low (r : Int) : Bool := (decide (97 ≤ r) && decide (r ≤ 122)) || (decide (224 ≤ r) && decide (r ≤ 254) && decide (r ≠ 247)) || (decide (945 ≤ r) && decide (r ≤ 969) && decide (r ≠ 962))
theorem low_iff (r : Int) : low r = true ↔ (97 ≤ r ∧ r ≤ 122) ∨ (224 ≤ r ∧ r ≤ 254 ∧ r ≠ 247) ∨ (945 ≤ r ∧ r ≤ 969 ∧ r ≠ 962) := by
  simp [low, and_assoc, or_assoc]
theorem low_false (r : Int) : low r = false ↔ ¬ ((97 ≤ r ∧ r ≤ 122) ∨ (224 ≤ r ∧ r ≤ 254 ∧ r ≠ 247) ∨ (945 ≤ r ∧ r ≤ 969 ∧ r ≠ 962)) := by
  rw [← low_iff]
  simp
def fold (r : Int) : Int := if low (r + 32) then r + 32 else r
theorem fold_or (r : Int) : (fold r = r + 32 ∧ low (r + 32) = true) ∨ (fold r = r ∧ low (r + 32) = false) := by
  unfold fold
  by_cases h : low (r + 32) = true
  · exact .inl ⟨if_pos h, h⟩
  · exact .inr ⟨if_neg h, by simpa using h⟩
theorem fold_sc {r : Int} (h : Sc r) : Sc (fold r) := by
  rcases fold_or r with ⟨e, hl⟩ | ⟨e, _⟩
  · rw [e]
    rw [low_iff] at hl
    unfold Sc
    omega
  · rw [e]
    exact h
theorem fold_fold (r : Int) : fold (fold r) = fold r := by
  rcases fold_or r with ⟨e, hl⟩ | ⟨e, hl⟩
  · rw [e]
    have h2 : low (r + 32 + 32) = false := by
      rw [low_false]
      rw [low_iff] at hl
      omega
    unfold fold
    simp [h2]
  · rw [e, e]
def folds (rs : List Int) : List Int := rs.map fold
theorem folds_sc {rs : List Int} (h : ∀ r ∈ rs, Sc r) : ∀ r ∈ folds rs, Sc r := by
  intro r hr
  obtain ⟨x, hx, rfl⟩ := List.mem_map.1 hr
  exact fold_sc (h x hx)
theorem folds_folds (rs : List Int) : folds (folds rs) = folds rs := by
  unfold folds
  rw [List.map_map]
  exact List.map_congr_left (fun r _ => fold_fold r)

/-- A text's folded bytes. -/
def foldB (l : List UInt8) : List UInt8 := enc (folds (runes l))
theorem runes_foldB (l : List UInt8) : runes (foldB l) = folds (runes l) := runes_enc _ (folds_sc (runes_sc l))
theorem foldB_foldB (l : List UInt8) : foldB (foldB l) = foldB l := by
  show enc (folds (runes (foldB l))) = foldB l
  rw [runes_foldB, folds_folds]
  rfl

/-- Some small letters made great. -/
def small3 (r : Int) : Bool := (decide (97 ≤ r) && decide (r ≤ 122)) || (decide (224 ≤ r) && decide (r ≤ 246)) || (decide (945 ≤ r) && decide (r ≤ 961))
theorem small3_iff (r : Int) : small3 r = true ↔ (97 ≤ r ∧ r ≤ 122) ∨ (224 ≤ r ∧ r ≤ 246) ∨ (945 ≤ r ∧ r ≤ 961) := by
  simp [small3, or_assoc]
def up (r : Int) : Int := if small3 r then r - 32 else r
theorem up_or (r : Int) : (up r = r - 32 ∧ small3 r = true) ∨ (up r = r ∧ small3 r = false) := by
  unfold up
  by_cases h : small3 r = true
  · exact .inl ⟨if_pos h, h⟩
  · exact .inr ⟨if_neg h, by simpa using h⟩
theorem up_sc {r : Int} (h : Sc r) : Sc (up r) := by
  rcases up_or r with ⟨e, hl⟩ | ⟨e, _⟩
  · rw [e]
    rw [small3_iff] at hl
    unfold Sc
    omega
  · rw [e]
    exact h
theorem fold_up (r : Int) : fold (up r) = fold r := by
  rcases up_or r with ⟨e, hl⟩ | ⟨e, hl⟩
  · rw [e]
    rw [small3_iff] at hl
    have h1 : low (r - 32 + 32) = true := by rw [low_iff]; omega
    have h2 : low (r + 32) = false := by rw [low_false]; omega
    unfold fold
    rw [if_pos h1, if_neg (by rw [h2]; decide)]
    omega
  · rw [e]
def greatB (l : List UInt8) : List UInt8 := enc ((runes l).map up)
theorem ups_sc {rs : List Int} (h : ∀ r ∈ rs, Sc r) : ∀ r ∈ rs.map up, Sc r := by
  intro r hr
  obtain ⟨x, hx, rfl⟩ := List.mem_map.1 hr
  exact up_sc (h x hx)
theorem runes_greatB (l : List UInt8) : runes (greatB l) = (runes l).map up := runes_enc _ (ups_sc (runes_sc l))
theorem foldB_greatB (l : List UInt8) : foldB (greatB l) = foldB l := by
  show enc (folds (runes (greatB l))) = _
  rw [runes_greatB]
  unfold foldB folds
  rw [List.map_map]
  congr 1
  exact List.map_congr_left (fun r _ => fold_up r)

/-! ### names -/
def tail3 (r : Int) : Bool := (decide (48 ≤ r) && decide (r ≤ 57)) || decide (r = 45) || decide (r = 95)
theorem tail3_iff (r : Int) : tail3 r = true ↔ (48 ≤ r ∧ r ≤ 57) ∨ r = 45 ∨ r = 95 := by simp [tail3, or_assoc]
/-- May a name have a rune at a place? -/
def may (r : Int) (n : Nat) : Bool := low (fold r) || (decide (0 < n) && tail3 r)
/-- Are these runes, from place n on, a name's rest? -/
def chk : Nat → List Int → Bool
  | n, [] => decide (n ≠ 0)
  | n, r :: rs => if n = 16 then false else if may r n then chk (n + 1) rs else false
/-- by definition -/
def isName (rs : List Int) : Bool := decide (1 ≤ rs.length) && decide (rs.length ≤ 16) && low (fold (rs.headD 0)) && rs.all fun r => low (fold r) || tail3 r
theorem chk_pos : ∀ (rs : List Int) (n : Nat), 1 ≤ n → n ≤ 16 → chk n rs = (decide (n + rs.length ≤ 16) && rs.all fun r => low (fold r) || tail3 r)
  | [], n, h, h' => by
    have a : decide (n ≠ 0) = true := by simp; omega
    have b : decide (n + ([] : List Int).length ≤ 16) = true := by simp; omega
    unfold chk
    rw [a, b]
    rfl
  | r :: rs, n, h, h' => by
    unfold chk
    by_cases e : n = 16
    · rw [if_pos e]
      have : decide (n + (r :: rs).length ≤ 16) = false := by simp; omega
      rw [this]
      rfl
    · rw [if_neg e]
      have h0 : decide (0 < n) = true := by simp; omega
      have hm : may r n = (low (fold r) || tail3 r) := by simp [may, h0]
      rw [hm]
      by_cases hr : (low (fold r) || tail3 r) = true
      · rw [if_pos hr, chk_pos rs (n + 1) (by omega) (by omega), List.all_cons, hr, Bool.true_and]
        congr 1
        simp only [List.length_cons, decide_eq_decide]
        omega
      · rw [if_neg hr, List.all_cons]
        have : (low (fold r) || tail3 r) = false := by simpa using hr
        rw [this]
        simp
theorem chk_isName (rs : List Int) : chk 0 rs = isName rs := by
  cases rs with
  | nil => rfl
  | cons r rs =>
    unfold chk isName
    rw [if_neg (by omega)]
    have hm : may r 0 = low (fold r) := by simp [may]
    rw [hm]
    by_cases hr : low (fold r) = true
    · have h1 : decide (1 ≤ (r :: rs).length) = true := by simp
      have h2 : decide ((r :: rs).length ≤ 16) = decide (1 + rs.length ≤ 16) := by
        simp only [List.length_cons, decide_eq_decide]
        omega
      rw [if_pos hr, chk_pos rs 1 (by omega) (by omega), List.all_cons, h1, h2]
      simp [hr]
    · have : low (fold r) = false := by simpa using hr
      rw [if_neg hr]
      simp [this]
theorem isName_folds (rs : List Int) : isName (folds rs) = isName rs := by
  unfold isName folds
  rw [List.length_map]
  congr 1
  · cases rs with
    | nil => rfl
    | cons r rs => simp [fold_fold]
  · rw [List.all_map]
    congr 1
    funext r
    show (low (fold (fold r)) || tail3 (fold r)) = (low (fold r) || tail3 r)
    rw [fold_fold]
    rcases fold_or r with ⟨e, hl⟩ | ⟨e, hl⟩
    · rw [e, hl]
      simp
    · rw [e]
theorem isName_ups (rs : List Int) : isName (rs.map up) = isName rs := by
  unfold isName
  rw [List.length_map]
  congr 1
  · cases rs with
    | nil => rfl
    | cons r rs => simp [fold_up]
  · rw [List.all_map]
    congr 1
    funext r
    show (low (fold (up r)) || tail3 (up r)) = (low (fold r) || tail3 r)
    rw [fold_up]
    rcases up_or r with ⟨e, hl⟩ | ⟨e, hl⟩
    · have : low (fold r) = true := by
        rw [← fold_up, e]
        rw [small3_iff] at hl
        have h1 : low (r - 32 + 32) = true := by rw [low_iff]; omega
        unfold fold
        rw [if_pos h1, h1]
      rw [this]
      simp
    · rw [e]

/-! ### the order of texts -/
def rlt : List Int → List Int → Bool
  | _, [] => false
  | [], _ :: _ => true
  | a :: x, b :: y => decide (a < b) || (decide (a = b) && rlt x y)

theorem bl_cons (a b : UInt8) (x y : List UInt8) : Op.bytesLess (a :: x) (b :: y) = true ↔ a.toNat < b.toNat ∨ (a.toNat = b.toNat ∧ Op.bytesLess x y = true) := by
  simp [Op.bytesLess, UInt8.lt_iff_toNat_lt, ← UInt8.toNat_inj]
theorem bl_prefix (p u v : List UInt8) : Op.bytesLess (p ++ u) (p ++ v) = Op.bytesLess u v := by
  induction p with
  | nil => rfl
  | cons a p ih =>
    rw [Bool.eq_iff_iff, List.cons_append, List.cons_append, bl_cons, ih]
    simp
theorem bl_asymm : ∀ x y : List UInt8, Op.bytesLess x y = true → Op.bytesLess y x = false
  | _, [], h => by simp [Op.bytesLess] at h
  | [], _ :: _, _ => by simp [Op.bytesLess]
  | a :: x, b :: y, h => by
    rw [Bool.eq_false_iff]
    intro h'
    rw [bl_cons] at h h'
    rcases h with h | ⟨e, h⟩
    · rcases h' with h' | ⟨e', _⟩ <;> omega
    · rcases h' with h' | ⟨e', h'⟩
      · omega
      · rw [bl_asymm x y h] at h'
        simp at h'
set_option maxHeartbeats 2000000 in
theorem bl_rune (a b : Int) (ha : Sc a) (hb : Sc b) (h : a < b) (u v : List UInt8) : Op.bytesLess (encodeRune a ++ u) (encodeRune b ++ v) = true := by
  unfold Sc at ha hb
  unfold encodeRune
  have A : (a ≤ 127 ∧ encodeRuneZ a = [a]) ∨ (128 ≤ a ∧ a ≤ 2047 ∧ encodeRuneZ a = [192 + a / 64, 128 + a % 64]) ∨ (2048 ≤ a ∧ a ≤ 65535 ∧ encodeRuneZ a = [224 + a / 4096, 128 + a / 64 % 64, 128 + a % 64]) ∨ (65536 ≤ a ∧ encodeRuneZ a = [240 + a / 262144, 128 + a / 4096 % 64, 128 + a / 64 % 64, 128 + a % 64]) := by
    by_cases c1 : a ≤ 127
    · exact .inl ⟨c1, encodeRuneZ_one (by omega) c1⟩
    · by_cases c2 : a ≤ 2047
      · exact .inr (.inl ⟨by omega, c2, encodeRuneZ_two (by omega) c2⟩)
      · by_cases c3 : a ≤ 65535
        · exact .inr (.inr (.inl ⟨by omega, c3, encodeRuneZ_three (by omega)⟩))
        · exact .inr (.inr (.inr ⟨by omega, encodeRuneZ_four (by omega) (by omega)⟩))
  have B : (b ≤ 127 ∧ encodeRuneZ b = [b]) ∨ (128 ≤ b ∧ b ≤ 2047 ∧ encodeRuneZ b = [192 + b / 64, 128 + b % 64]) ∨ (2048 ≤ b ∧ b ≤ 65535 ∧ encodeRuneZ b = [224 + b / 4096, 128 + b / 64 % 64, 128 + b % 64]) ∨ (65536 ≤ b ∧ encodeRuneZ b = [240 + b / 262144, 128 + b / 4096 % 64, 128 + b / 64 % 64, 128 + b % 64]) := by
    by_cases c1 : b ≤ 127
    · exact .inl ⟨c1, encodeRuneZ_one (by omega) c1⟩
    · by_cases c2 : b ≤ 2047
      · exact .inr (.inl ⟨by omega, c2, encodeRuneZ_two (by omega) c2⟩)
      · by_cases c3 : b ≤ 65535
        · exact .inr (.inr (.inl ⟨by omega, c3, encodeRuneZ_three (by omega)⟩))
        · exact .inr (.inr (.inr ⟨by omega, encodeRuneZ_four (by omega) (by omega)⟩))
  rcases A with ⟨a1, ea⟩ | ⟨a0, a1, ea⟩ | ⟨a0, a1, ea⟩ | ⟨a0, ea⟩ <;> rcases B with ⟨b1, eb⟩ | ⟨b0, b1, eb⟩ | ⟨b0, b1, eb⟩ | ⟨b0, eb⟩
  all_goals first | (exfalso; omega) | skip
  all_goals rw [ea, eb]
  all_goals simp only [List.map_cons, List.map_nil, List.cons_append, List.nil_append, bl_cons]
  · rw [byteZ a (by omega) (by omega), byteZ b (by omega) (by omega)]; omega
  · rw [byteZ a (by omega) (by omega), byteZ (192 + b / 64) (by omega) (by omega)]; omega
  · rw [byteZ a (by omega) (by omega), byteZ (224 + b / 4096) (by omega) (by omega)]; omega
  · rw [byteZ a (by omega) (by omega), byteZ (240 + b / 262144) (by omega) (by omega)]; omega
  · rw [byteZ (192 + a / 64) (by omega) (by omega), byteZ (192 + b / 64) (by omega) (by omega), byteZ (128 + a % 64) (by omega) (by omega), byteZ (128 + b % 64) (by omega) (by omega)]; omega
  · rw [byteZ (192 + a / 64) (by omega) (by omega), byteZ (224 + b / 4096) (by omega) (by omega)]; omega
  · rw [byteZ (192 + a / 64) (by omega) (by omega), byteZ (240 + b / 262144) (by omega) (by omega)]; omega
  · rw [byteZ (224 + a / 4096) (by omega) (by omega), byteZ (224 + b / 4096) (by omega) (by omega), byteZ (128 + a / 64 % 64) (by omega) (by omega), byteZ (128 + b / 64 % 64) (by omega) (by omega), byteZ (128 + a % 64) (by omega) (by omega), byteZ (128 + b % 64) (by omega) (by omega)]; omega
  · rw [byteZ (224 + a / 4096) (by omega) (by omega), byteZ (240 + b / 262144) (by omega) (by omega)]; omega
  · rw [byteZ (240 + a / 262144) (by omega) (by omega), byteZ (240 + b / 262144) (by omega) (by omega), byteZ (128 + a / 4096 % 64) (by omega) (by omega), byteZ (128 + b / 4096 % 64) (by omega) (by omega), byteZ (128 + a / 64 % 64) (by omega) (by omega), byteZ (128 + b / 64 % 64) (by omega) (by omega), byteZ (128 + a % 64) (by omega) (by omega), byteZ (128 + b % 64) (by omega) (by omega)]; omega
theorem bl_nil (x : List UInt8) : Op.bytesLess x [] = false := by cases x <;> rfl
theorem bl_enc : ∀ a b : List Int, (∀ r ∈ a, Sc r) → (∀ r ∈ b, Sc r) → Op.bytesLess (enc a) (enc b) = rlt a b
  | a, [], _, _ => by
    rw [enc_nil, bl_nil]
    cases a <;> rfl
  | [], b :: y, _, _ => by
    rw [enc_nil, enc_cons]
    have hl := encodeRune_length b
    cases e : encodeRune b with
    | nil => rw [e] at hl; simp at hl
    | cons c t => rfl
  | a :: x, b :: y, ha, hb => by
    rw [enc_cons, enc_cons]
    have hsa := ha a (by simp)
    have hsb := hb b (by simp)
    have ih := bl_enc x y (fun r h => ha r (by simp [h])) (fun r h => hb r (by simp [h]))
    unfold rlt
    by_cases h1 : a < b
    · rw [bl_rune a b hsa hsb h1]
      simp [h1]
    · by_cases h2 : a = b
      · subst h2
        rw [bl_prefix, ih]
        simp
      · rw [bl_asymm _ _ (bl_rune b a hsb hsa (by omega) (enc y) (enc x))]
        simp [h1, h2]

/-- Cutting. -/
def cutB (l : List UInt8) (n : Int) : List UInt8 := enc ((runes l).take n.toNat)
theorem take_sc {rs : List Int} (h : ∀ r ∈ rs, Sc r) (k : Nat) : ∀ r ∈ rs.take k, Sc r := fun r hr => h r (List.mem_of_mem_take hr)
theorem runes_cutB (l : List UInt8) (n : Int) : runes (cutB l n) = (runes l).take n.toNat := runes_enc _ (take_sc (runes_sc l) _)
theorem cutB_cutB (l : List UInt8) (n : Int) : cutB (cutB l n) n = cutB l n := by
  show enc ((runes (cutB l n)).take n.toNat) = _
  rw [runes_cutB, List.take_take, Nat.min_self]
  rfl

/-! ### one text behind another: at most as many runes as both have -/
theorem decodeN_alone' (n n' b0 b1 b2 b3 c1 c2 c3 : Nat) (hn : n ≤ n') (h1 : 1 < n → c1 = b1) (h2 : 2 < n → c2 = b2) (h3 : 3 < n → c3 = b3)
    (x1 : n = 1 → n < n' → c1 / 64 ≠ 2) (x2 : n = 2 → n < n' → c2 / 64 ≠ 2) (x3 : n = 3 → n < n' → c3 / 64 ≠ 2) (hpos : 1 ≤ n) : decodeN n' b0 c1 c2 c3 = decodeN n b0 b1 b2 b3 := by
  by_cases k1 : 1 < n ∧ b1 / 64 = 2
  · have e1 := h1 k1.1
    subst e1
    have k1' : 1 < n' ∧ c1 / 64 = 2 := ⟨by omega, k1.2⟩
    by_cases k2 : 2 < n ∧ b2 / 64 = 2
    · have e2 := h2 k2.1
      subst e2
      have k2' : 2 < n' ∧ c2 / 64 = 2 := ⟨by omega, k2.2⟩
      by_cases k3 : 3 < n ∧ b3 / 64 = 2
      · have e3 := h3 k3.1
        subst e3
        have k3' : 3 < n' ∧ c3 / 64 = 2 := ⟨by omega, k3.2⟩
        unfold decodeN
        simp only [eq_true k1, eq_true k1', eq_true k2, eq_true k2', eq_true k3, eq_true k3']
      · have k3' : ¬ (3 < n' ∧ c3 / 64 = 2) := by
          rintro ⟨a, b⟩
          by_cases hn3 : 3 < n
          · have := h3 hn3
            subst this
            exact k3 ⟨hn3, b⟩
          · exact x3 (by omega) (by omega) b
        unfold decodeN
        simp only [eq_true k1, eq_true k1', eq_true k2, eq_true k2', eq_false k3, eq_false k3', and_false, if_false]
    · have k2' : ¬ (2 < n' ∧ c2 / 64 = 2) := by
        rintro ⟨a, b⟩
        by_cases hn2 : 2 < n
        · have := h2 hn2
          subst this
          exact k2 ⟨hn2, b⟩
        · exact x2 (by omega) (by omega) b
      unfold decodeN
      simp only [eq_true k1, eq_true k1', eq_false k2, eq_false k2', and_false, false_and, if_false]
  · have k1' : ¬ (1 < n' ∧ c1 / 64 = 2) := by
      rintro ⟨a, b⟩
      by_cases hn1 : 1 < n
      · have := h1 hn1
        subst this
        exact k1 ⟨hn1, b⟩
      · exact x1 (by omega) (by omega) b
    unfold decodeN
    simp only [eq_false k1, eq_false k1', and_false, false_and, if_false]
/-- The first byte of what is encoded goes on with no rune. -/
theorem enc_head (rs : List Int) (h : ∀ r ∈ rs, Sc r) (hne : enc rs ≠ []) : ((enc rs).getD 0 0).toNat / 64 ≠ 2 := by
  cases rs with
  | nil => exact absurd rfl hne
  | cons r rs =>
    have hr := h r (by simp)
    unfold Sc at hr
    rw [enc_cons]
    unfold encodeRune
    by_cases c1 : r ≤ 127
    · rw [encodeRuneZ_one (by omega) c1]
      simp only [List.map_cons, List.cons_append, List.getD_cons_zero]
      rw [byteZ r (by omega) (by omega)]
      omega
    · by_cases c2 : r ≤ 2047
      · rw [encodeRuneZ_two (by omega) c2]
        simp only [List.map_cons, List.cons_append, List.getD_cons_zero]
        rw [byteZ (192 + r / 64) (by omega) (by omega)]
        omega
      · by_cases c3 : r ≤ 65535
        · rw [encodeRuneZ_three (by omega)]
          simp only [List.map_cons, List.cons_append, List.getD_cons_zero]
          rw [byteZ (224 + r / 4096) (by omega) (by omega)]
          omega
        · rw [encodeRuneZ_four (by omega) (by omega)]
          simp only [List.map_cons, List.cons_append, List.getD_cons_zero]
          rw [byteZ (240 + r / 262144) (by omega) (by omega)]
          omega
theorem getD_left (l t : List UInt8) (k : Nat) (h : k < l.length) : (l ++ t).getD k 0 = l.getD k 0 := by
  simp [List.getD, List.getElem?_append_left h]
theorem getD_right (l t : List UInt8) (k : Nat) (h : l.length ≤ k) : (l ++ t).getD k 0 = t.getD (k - l.length) 0 := by
  simp [List.getD, List.getElem?_append_right h]
theorem decodeL_append (l : List UInt8) (hne : l ≠ []) (rs : List Int) (h : ∀ r ∈ rs, Sc r) : decodeL (l ++ enc rs) = decodeL l := by
  have hl : 0 < l.length := List.length_pos_iff.2 hne
  rw [decodeL_N, decodeL_N, getD_left l _ 0 hl]
  have hd : ∀ k, l.length = k → l.length < (l ++ enc rs).length → ((l ++ enc rs).getD k 0).toNat / 64 ≠ 2 := by
    intro k hk hlt
    rw [getD_right l _ k (by omega), hk, Nat.sub_self]
    refine enc_head rs h ?_
    intro e
    rw [e] at hlt
    simp at hlt
  refine decodeN_alone' _ _ _ _ _ _ _ _ _ (by simp) ?_ ?_ ?_ (hd 1) (hd 2) (hd 3) hl
  · intro hk; rw [getD_left l _ 1 hk]
  · intro hk; rw [getD_left l _ 2 hk]
  · intro hk; rw [getD_left l _ 3 hk]
theorem runes_append_enc (rs : List Int) (h : ∀ r ∈ rs, Sc r) : ∀ (n : Nat) (l : List UInt8), l.length ≤ n → runes (l ++ enc rs) = runes l ++ rs
  | 0, l, hn => by
    have : l = [] := List.eq_nil_of_length_eq_zero (by omega)
    subst this
    simp [runes_enc rs h, runes_nil]
  | n + 1, l, hn => by
    by_cases hne : l = []
    · subst hne
      simp [runes_enc rs h, runes_nil]
    · have hw := decodeL_width l
      have hle := decodeL_le l hne
      rw [runes_step (l ++ enc rs) (by simp [hne]), decodeL_append l hne rs h, runes_step l hne, List.cons_append]
      congr 1
      rw [List.drop_append_of_le_length hle]
      exact runes_append_enc rs h n _ (by rw [List.length_drop]; omega)

/-! ### the order -/
theorem bl_irrefl : ∀ x : List UInt8, Op.bytesLess x x = false
  | [] => rfl
  | a :: x => by
    rw [Bool.eq_false_iff]
    intro h
    rw [bl_cons] at h
    rcases h with h | ⟨_, h⟩
    · omega
    · rw [bl_irrefl x] at h
      simp at h
theorem bl_total : ∀ x y : List UInt8, x ≠ y → Op.bytesLess x y = false → Op.bytesLess y x = true
  | [], [], h, _ => absurd rfl h
  | _ :: _, [], _, _ => rfl
  | [], _ :: _, _, h => by simp [Op.bytesLess] at h
  | a :: x, b :: y, h, hl => by
    rw [bl_cons]
    rw [Bool.eq_false_iff] at hl
    have hl' := fun k => hl ((bl_cons a b x y).2 k)
    by_cases e : a.toNat = b.toNat
    · right
      refine ⟨e.symm, bl_total x y ?_ ?_⟩
      · intro exy
        exact h (by rw [exy, UInt8.toNat_inj.1 e])
      · rw [Bool.eq_false_iff]
        intro k
        exact hl' (.inr ⟨e, k⟩)
    · left
      have : ¬ a.toNat < b.toNat := fun k => hl' (.inl k)
      omega
theorem bl_trans : ∀ x y z : List UInt8, Op.bytesLess x y = true → Op.bytesLess y z = true → Op.bytesLess x z = true
  | _, [], _, h, _ => by rw [bl_nil] at h; simp at h
  | _, _ :: _, [], _, h => by rw [bl_nil] at h; simp at h
  | [], _ :: _, _ :: _, _, _ => rfl
  | a :: x, b :: y, c :: z, h1, h2 => by
    rw [bl_cons] at h1 h2 ⊢
    rcases h1 with h1 | ⟨e1, h1⟩ <;> rcases h2 with h2 | ⟨e2, h2⟩
    · left; omega
    · left; omega
    · left; omega
    · right
      exact ⟨by omega, bl_trans x y z h1 h2⟩

/-! ### string of runes -/
theorem encode_rune (r : Int) (h : Sc r) : (Utf8.encode r).data.toList = encodeRune r := by
  unfold Sc at h
  obtain ⟨k, rfl⟩ := Int.eq_ofNat_of_zero_le (show 0 ≤ r by omega)
  have hv : Utf8.valid (k : Int) = true := by
    simp [Utf8.valid]
    omega
  unfold Utf8.encode encodeRune
  simp only [hv, if_true, Int.toNat_natCast]
  by_cases c1 : k < 128
  · rw [if_pos c1, encodeRuneZ_one (by omega) (by omega)]
    simp [Nat.toUInt8]
  · by_cases c2 : k < 2048
    · have e0 : (192 + (k : Int) / 64).toNat = 192 + k / 64 := by omega
      have e1 : (128 + (k : Int) % 64).toNat = 128 + k % 64 := by omega
      rw [if_neg c1, if_pos c2, encodeRuneZ_two (by omega) (by omega)]
      simp only [List.map_cons, List.map_nil, e0, e1, Nat.toUInt8]
    · by_cases c3 : k < 65536
      · have e0 : (224 + (k : Int) / 4096).toNat = 224 + k / 4096 := by omega
        have e1 : (128 + (k : Int) / 64 % 64).toNat = 128 + k / 64 % 64 := by omega
        have e2 : (128 + (k : Int) % 64).toNat = 128 + k % 64 := by omega
        rw [if_neg c1, if_neg c2, if_pos c3, encodeRuneZ_three (by omega)]
        simp only [List.map_cons, List.map_nil, e0, e1, e2, Nat.toUInt8]
      · have e0 : (240 + (k : Int) / 262144).toNat = 240 + k / 262144 := by omega
        have e1 : (128 + (k : Int) / 4096 % 64).toNat = 128 + k / 4096 % 64 := by omega
        have e2 : (128 + (k : Int) / 64 % 64).toNat = 128 + k / 64 % 64 := by omega
        have e3 : (128 + (k : Int) % 64).toNat = 128 + k % 64 := by omega
        rw [if_neg c1, if_neg c2, if_neg c3, encodeRuneZ_four (by omega) (by omega)]
        simp only [List.map_cons, List.map_nil, e0, e1, e2, e3, Nat.toUInt8]
theorem foldl_enc : ∀ (ns : List Int), (∀ r ∈ ns, Sc r) → ∀ s : ByteArray, (ns.foldl (fun r n => r ++ Utf8.encode n) s).data.toList = s.data.toList ++ enc ns
  | [], _, s => by simp [enc]
  | r :: ns, h, s => by
    rw [List.foldl_cons, foldl_enc ns (fun x hx => h x (by simp [hx])), enc_cons, ByteArray.data_append, Array.toList_append, encode_rune r (h r (by simp)), List.append_assoc]
theorem runesBytes_enc (ns : List Int) (h : ∀ r ∈ ns, Sc r) : runesBytes ns = ⟨(enc ns).toArray⟩ := by
  have := foldl_enc ns h ByteArray.empty
  apply ByteArray.ext
  apply Array.ext'
  show (ns.foldl (fun r n => r ++ Utf8.encode n) ByteArray.empty).data.toList = enc ns
  rw [this]
  rfl
end Go.Proofs.YtekajahffnhboabDoor.sp
