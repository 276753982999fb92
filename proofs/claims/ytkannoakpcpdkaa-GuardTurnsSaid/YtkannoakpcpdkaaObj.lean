/-
  The program's objects: isSize, ownBytes, object, laid, Lay.
-/
import Derived.Test.YtkannoakpcpdkaaCat
set_option linter.unusedVariables false
set_option linter.unusedSimpArgs false
namespace Go.Proofs.Ytkannoakpcpdkaa
open Go Go.RowKit

/-- a new block whose first m bytes are told, as a slice of capacity cap -/
structure GotY (w w' : World) (g cap m : Nat) (f : Nat → Int) : Prop where
  row : RowY w' g m f
  new : w.heap.size ≤ g
  le : m ≤ cap
  max : cap ≤ maxLen
  below : Below w.heap.size w w'
theorem GotY.shows {w w' : World} {g cap m : Nat} {f : Nat → Int} (h : GotY w w' g cap m f) : ShowB w' (.slice (some ⟨g, 0, none⟩) m cap) (lst m f) := h.row.shows h.le h.max
theorem GotY.cap {w w' : World} {g cap m : Nat} {f : Nat → Int} (h : GotY w w' g cap m f) : m ≤ cap ∧ cap ≤ 9223372036854775807 := ⟨h.le, by have := h.max; unfold maxLen at this; omega⟩
theorem GotY.from {w0 w w' : World} {g cap m : Nat} {f : Nat → Int} (h : GotY w w' g cap m f) (hb : Below w0.heap.size w0 w) : GotY w0 w' g cap m f := ⟨h.row, Nat.le_trans hb.size h.new, h.le, h.max, below_then hb h.below⟩
theorem flat_obj (n : Nat) (a o l : Int) (hn : 1 ≤ n) : ([lst 8 (fun _ => a), lst n (turnF (fun _ => o) (n - 1) l), lst 8 (fun _ => a)] : List (List Int)).flatten = lst (n + 16) (objF n a o l) := by
  refine List.ext_getElem (by simp [len_lst]; omega) fun i h1 h2 => ?_
  rw [len_lst] at h2
  have e : ([lst 8 (fun _ => a), lst n (turnF (fun _ => o) (n - 1) l), lst 8 (fun _ => a)] : List (List Int)).flatten = lst 8 (fun _ => a) ++ (lst n (turnF (fun _ => o) (n - 1) l) ++ lst 8 (fun _ => a)) := by simp
  have hr : (lst (n + 16) (objF n a o l))[i]'(by rw [len_lst]; exact h2) = objF n a o l i := by simp [lst]
  rw [hr]
  simp only [e]
  by_cases c1 : i < 8
  · rw [List.getElem_append_left (by rw [len_lst]; exact c1)]
    simp [lst, objF, c1]
  · rw [List.getElem_append_right (by rw [len_lst]; omega)]
    simp only [len_lst]
    by_cases c2 : i < n + 8
    · rw [List.getElem_append_left (by rw [len_lst]; omega)]
      have c3 : ¬ (i < 8 ∨ n + 8 ≤ i) := by omega
      simp only [lst, List.getElem_map, List.getElem_range, objF, c3, if_false, turnF]
      by_cases c4 : i = n + 7
      · rw [if_pos (by omega), if_pos c4]
      · rw [if_neg (by omega), if_neg c4]
    · rw [List.getElem_append_right (by rw [len_lst]; omega)]
      have c3 : i < 8 ∨ n + 8 ≤ i := by omega
      simp [lst, objF, c3]
theorem len_flat {n : Nat} {a o l : Int} {L : List (List Int)} (h : L.flatten = lst (n + 16) (objF n a o l)) : L.flatten.length = n + 16 := by rw [h, len_lst]
theorem show3 {w : World} {K : Nat} {T : TypeId} {a b c : Value} {x y z : List Int} (h : w.heap[K]? = some (.cells #[a, b, c] T (0, 0))) (ha : ShowB w a x) (hb : ShowB w b y) (hc : ShowB w c z) : ShowL w (.slice (some ⟨K, 0, none⟩) 3 3) [x, y, z] := by
  refine ⟨[a, b, c], ⟨rfl, some ⟨K, 0, none⟩, 3, rfl, ⟨Nat.le_refl 3, by unfold maxLen; omega⟩, fun _ => ⟨K, 0, rfl, fun j hj => ?_⟩⟩, fun i hi => ?_⟩
  · have h3 : j = 0 ∨ j = 1 ∨ j = 2 := by simp at hj; omega
    rcases h3 with rfl | rfl | rfl
    · exact self_cell h 0 _ rfl
    · exact self_cell h 1 _ rfl
    · exact self_cell h 2 _ rfl
  · have h3 : i = 0 ∨ i = 1 ∨ i = 2 := by simp at hi; omega
    rcases h3 with rfl | rfl | rfl
    · exact ⟨a, rfl, ha⟩
    · exact ⟨b, rfl, hb⟩
    · exact ⟨c, rfl, hc⟩
set_option maxHeartbeats 1000000 in
theorem cIsSize (x : Int) (z : Bool) (hz : decide (1 ≤ x ∧ x ≤ 1024) = z) (w : World) : Calls Try.prog 21 #[.int .i64 x] w fun e w' => e = .returned (.bool z) ∧ w' = w := by
  have HZ := Lib.hid hz
  clear hz
  by_cases h1 : 1 ≤ x
  · by_cases h2 : x ≤ 1024
    · have HZ2 : Hid (z = true) := Lib.hid (by rw [← HZ.out]; simp [h1, h2])
      go_enter Try.func21, Try.ntmps21
      go_wp2
      go_ret
      exact ⟨by rw [HZ2.out]; rfl, rfl⟩
    · have HZ2 : Hid (z = false) := Lib.hid (by rw [← HZ.out]; simp [h2])
      go_enter Try.func21, Try.ntmps21
      go_wp2
      go_ret
      exact ⟨by rw [HZ2.out]; rfl, rfl⟩
  · have HZ2 : Hid (z = false) := Lib.hid (by rw [← HZ.out]; simp [h1])
    go_enter Try.func21, Try.ntmps21
    go_wp2
    go_ret
    exact ⟨by rw [HZ2.out]; rfl, rfl⟩
set_option maxHeartbeats 1000000 in
theorem cOwn (u : Value) (l : List Int) (m : Int) (hm : m = (l.length : Int) - 16) (w : World) (hu : ShowB w u l) : Calls Try.prog 24 #[u] w fun e w' => e = .returned (.int .i64 m) ∧ w' = w := by
  obtain ⟨ao, cap, rfl, hcap, _⟩ := hu.form
  clear hu
  have HM := Lib.hid hm
  clear hm
  generalize l.length = n at *
  go_enter Try.func24, Try.ntmps24
  go_wp2
  go_ret
  exact ⟨ret_int HM.out.symm, rfl⟩
set_option maxHeartbeats 2000000 in
theorem cObject (n M : Nat) (a o l : Int) (h1 : 1 ≤ n) (h2 : n ≤ 1024) (hM : M = n + 16) (w : World) :
    Calls Try.prog 28 #[.int .i64 n, .int .u8 a, .int .u8 o, .int .u8 l] w fun e w' => ∃ g cap, e = .returned (.slice (some ⟨g, 0, none⟩) M cap) ∧ GotY w w' g cap M (objF n a o l) := by
  have HM := Lib.hid hM
  clear hM
  go_enter Try.func28, Try.ntmps28
  go_wp2_with fail
  refine (cRepeat a 8 (by decide) (by decide) _ _ (lit_b w 5 [a] 1 rfl (by decide))).mono ?_
  rintro e w1 ⟨g1, rfl, h3, h4, h5⟩
  have hb1 : Hid (Below w.heap.size w w1) := Lib.hid (below_then (below_one (Below.refl _ w) _) h5)
  have HG1 : Hid (w.heap.size ≤ g1) := Lib.hid (by rw [size_alloc] at h3; omega)
  have H4 := Lib.hid h4
  clear h3 h4 h5
  go_wp2_with fail
  refine (cRepeat o n h1 h2 _ _ (lit_b w1 5 [o] 1 rfl (by decide))).mono ?_
  rintro e w2 ⟨g2, rfl, h3, h4, h5⟩
  have hb12 : Below w1.heap.size w1 w2 := below_then (below_one (Below.refl _ w1) _) h5
  have hb2 : Hid (Below w.heap.size w w2) := Lib.hid (below_then hb1.out hb12)
  have hne : g1 ≠ g2 := by have := H4.out.lt; rw [size_alloc] at h3; omega
  have HR1 := Lib.hid (H4.out.below hb12)
  have HG2 : Hid (w.heap.size ≤ g2) := Lib.hid (by have := hb1.out.size; rw [size_alloc] at h3; omega)
  have HR2 := Lib.hid h4
  have HNE := Lib.hid hne
  clear h3 h4 h5 hb12 hne H4
  have hc := HR2.out.cell (i := n - 1) (by omega)
  have hf := HR2.out.free (n - 1)
  obtain ⟨p, rfl⟩ : ∃ p, n = p + 1 := ⟨n - 1, by omega⟩
  simp only [Nat.add_sub_cancel] at hc hf
  go_wp2_with fail
  have hs2 := HR2.out.set (i := p) (by omega) l
  have hs1 := HR1.out.kept (kept_set w2 g2 p (.int .u8 l)) HNE.out
  have hb3 := (hb2.out.setCell (p := ⟨g2, p, none⟩) HG2.out (.int .u8 l))
  have hz : (w2.setCell ⟨g2, p, none⟩ (.int .u8 l)).heap.size = w2.heap.size := by simp [World.setCell]
  generalize w2.setCell ⟨g2, p, none⟩ (.int .u8 l) = w3 at hs2 hs1 hb3 hz ⊢
  have hK := heap_new w3 (.cells #[.slice (some ⟨g1, 0, none⟩) 8 8, .slice (some ⟨g2, 0, none⟩) (p + 1) (p + 1), .slice (some ⟨g1, 0, none⟩) 8 8] 22)
  have hbn := below_one (Below.refl w3.heap.size w3) (.cells #[.slice (some ⟨g1, 0, none⟩) 8 8, .slice (some ⟨g2, 0, none⟩) (p + 1) (p + 1), .slice (some ⟨g1, 0, none⟩) 8 8] 22)
  have hl := show3 hK ((hs1.shows (cap := 8) (by omega) (by unfold maxLen; omega)).below hbn) ((hs2.shows (cap := p + 1) (by omega) (by unfold maxLen; omega)).below hbn) ((hs1.shows (cap := 8) (by omega) (by unfold maxLen; omega)).below hbn)
  rw [hz] at hl
  have hfl : ([lst 8 (fun _ => a), lst (p + 1) (turnF (fun _ => o) p l), lst 8 (fun _ => a)] : List (List Int)).flatten = lst (p + 1 + 16) (objF (p + 1) a o l) := flat_obj (p + 1) a o l h1
  have hlen : ([lst 8 (fun _ => a), lst (p + 1) (turnF (fun _ => o) p l), lst 8 (fun _ => a)] : List (List Int)).flatten.length = M := by rw [len_flat hfl, HM.out]
  refine (cConcat _ _ _ hl (by rw [hlen, HM.out]; omega) (by rw [hlen, HM.out]; omega)).mono ?_
  rintro e w4 ⟨ao, cap, rfl, h6, h7⟩
  obtain ⟨g, cap2, he, hg1, hg2, hg3, hrow⟩ := h6.row (by rw [hlen, HM.out]; omega)
  rw [hlen] at he hg2 hrow ⊢
  obtain ⟨rfl, _, rfl⟩ := Value.slice.inj he
  have HW : Hid (GotY w w4 g cap M (objF (p + 1) a o l)) := Lib.hid ⟨hrow.congr (fun i hi => by rw [hfl]; exact pk_lst _ (by rw [HM.out] at hi; exact hi)), by rw [size_alloc] at hg1; have := hb3.size; omega, hg2, hg3, below_then hb3 (below_then hbn h7)⟩
  clear he hg1 hg2 hg3 hrow h6 h7 hl hK hbn hs1 hs2 hb3 hfl hlen
  go_wp2
  go_ret
  exact ⟨g, cap, rfl, HW.out⟩
set_option maxHeartbeats 1000000 in
theorem cLaid (n M : Nat) (out : Bool) (h1 : 1 ≤ n) (h2 : n ≤ 1024) (hM : M = n + 16) (w : World) :
    Calls Try.prog 22 #[.int .i64 n, .bool out] w fun e w' => ∃ g cap, e = .returned (.slice (some ⟨g, 0, none⟩) M cap) ∧ GotY w w' g cap M (if out then outF n else freeF n) := by
  have HM := Lib.hid hM
  clear hM
  cases out with
  | false =>
    go_enter Try.func22, Try.ntmps22
    go_wp2_with fail
    refine (cObject n M 187 107 165 h1 h2 HM.out w).mono ?_
    rintro e w' ⟨g, cap, rfl, h⟩
    have H := Lib.hid h
    clear h
    go_wp2
    go_ret
    exact ⟨g, cap, rfl, by simpa using H.out⟩
  | true =>
    go_enter Try.func22, Try.ntmps22
    go_wp2_with fail
    refine (cObject n M 204 90 90 h1 h2 HM.out w).mono ?_
    rintro e w' ⟨g, cap, rfl, h⟩
    have H := Lib.hid h
    clear h
    go_wp2
    go_ret
    exact ⟨g, cap, rfl, by simpa using H.out⟩
set_option maxHeartbeats 1000000 in
theorem cLayYes (n M : Nat) (h1 : 1 ≤ n) (h2 : n ≤ 1024) (hM : M = n + 16) (w : World) :
    Calls Try.prog 9 #[.int .i64 n] w fun e w' => ∃ g cap, e = .returned (.tuple #[.slice (some ⟨g, 0, none⟩) M cap, .int .i64 0]) ∧ GotY w w' g cap M (freeF n) := by
  have HM := Lib.hid hM
  clear hM
  go_enter Try.func9, Try.ntmps9
  go_wp2_with fail
  refine (cIsSize n true (decide_eq_true (by omega)) w).mono ?_
  rintro e w' ⟨rfl, rfl⟩
  go_wp2_with fail
  refine (cLaid n M false h1 h2 HM.out _).mono ?_
  rintro e w2 ⟨g, cap, rfl, h⟩
  have H := Lib.hid h
  clear h
  go_wp2
  go_ret2
  exact ⟨g, cap, rfl, by simpa using H.out⟩
set_option maxHeartbeats 1000000 in
theorem cLayNo (x : Int) (h : ¬ (1 ≤ x ∧ x ≤ 1024)) (w : World) :
    Calls Try.prog 9 #[.int .i64 x] w fun e w' => e = .returned (.tuple #[.slice none 0 0, .int .i64 2]) ∧ w' = w := by
  go_enter Try.func9, Try.ntmps9
  go_wp2_with fail
  refine (cIsSize x false (decide_eq_false h) w).mono ?_
  rintro e w' ⟨rfl, rfl⟩
  go_wp2
  go_ret2
  exact ⟨rfl, rfl⟩
end Go.Proofs.Ytkannoakpcpdkaa
