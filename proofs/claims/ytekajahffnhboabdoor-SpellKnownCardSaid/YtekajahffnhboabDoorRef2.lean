/-
  What the document's own answers (Runes, Check, Fold, Same, Less, Cut of the reference) are, and the small helpers of the statements: great, one.
-/
import Derived.Test.YtekajahffnhboabDoorRef
set_option linter.unusedVariables false
set_option linter.unusedSimpArgs false
namespace Go.Proofs.YtekajahffnhboabDoor
open Go Go.RowKit

theorem at_len (s : ByteArray) : sp.at' s 0 = sp.runes s.data.toList := sp.at_zero s
theorem own_form {w : World} {B n : Nat} {e : TypeId} {v : Value} {xs : List Value} (h : w.ownsRow B e 1 v n xs) : ∃ ao cap, v = .slice ao n cap := by
  rcases h.2 with ⟨rfl, rfl⟩ | ⟨g, cap, cur, rfl, _⟩
  · exact ⟨none, 0, rfl⟩
  · exact ⟨_, _, rfl⟩
theorem own_form_pos {w : World} {B n : Nat} {e : TypeId} {v : Value} {xs : List Value} (h : w.ownsRow B e 1 v n xs) (hn : 0 < n) : ∃ g cap, v = .slice (some ⟨g, 0, none⟩) n cap ∧ B ≤ g ∧ g < w.heap.size := by
  rcases h.2 with ⟨rfl, rfl⟩ | ⟨g, cap, cur, rfl, hb, hg, _⟩
  · omega
  · exact ⟨g, cap, rfl, hb, (Array.getElem?_eq_some_iff.1 hg).1⟩
theorem own_cell {w : World} {B n g cap : Nat} {e : TypeId} {rs : List Int} (h : w.ownsRow B e 1 (.slice (some ⟨g, 0, none⟩) n cap) n (cells rs)) (k : Nat) (hk : k < n) (hn : n = rs.length) : w.cell? ⟨g, k, none⟩ = some (.int .i32 (rs.getD k 0)) := by
  rw [h.cellAt k (by omega)]
  have hk' : k < rs.length := by omega
  simp [cells, List.getD, hk']

set_option maxHeartbeats 1000000 in
theorem rRunesN (s : ByteArray) (w : World) (hs : s.size ≤ 8796093022208) :
    Calls Tryd.prog 13 #[.string s] w fun e w' => e = .returned (.int .i64 (sp.at' s 0).length) ∧ Below w.heap.size w w' := by
  have hal := sp.at_length s
  go_enter Tryd.func13, Tryd.ntmps13
  go_wp2_with (go_at_call 24; refine (rRunes s _ hs).mono ?_)
  rintro e W1 ⟨v, rfl, hown, b1⟩
  obtain ⟨ao, cap, rfl⟩ := own_form hown
  go_wp2
  go_ret
  exact ⟨rfl, b1⟩

theorem getD_mem (rs : List Int) (k : Nat) (h : k < rs.length) : rs.getD k 0 ∈ rs := by
  rw [List.getD_eq_getElem?_getD, List.getElem?_eq_getElem h]
  exact List.getElem_mem h
/-- Is a rune one that a name may have? -/
def okB (r : Int) : Bool := sp.low (sp.fold r) || sp.tail3 r
theorem okB_false {r : Int} (h : sp.low (sp.fold r) = false) (h2 : ¬ ((48 ≤ r ∧ r ≤ 57) ∨ r = 45 ∨ r = 95)) : okB r = false := by
  unfold okB
  rw [h, Bool.false_or, Bool.eq_false_iff]
  intro k
  exact h2 ((sp.tail3_iff r).1 k)
theorem okB_true {r : Int} (h2 : (48 ≤ r ∧ r ≤ 57) ∨ r = 45 ∨ r = 95) : okB r = true := by
  unfold okB
  rw [(sp.tail3_iff r).2 h2, Bool.or_true]
theorem all_take (rs : List Int) (k : Nat) (hk : k < rs.length) (h : (rs.take k).all okB = true) (hx : okB (rs.getD k 0) = true) : (rs.take (k + 1)).all okB = true := by
  rw [List.take_succ_eq_append_getElem hk, List.all_append, h, Bool.true_and]
  rw [List.getD_eq_getElem?_getD, List.getElem?_eq_getElem hk] at hx
  simpa using hx
theorem all_not (rs : List Int) (k : Nat) (hk : k < rs.length) (hx : okB (rs.getD k 0) = false) : rs.all okB = false := by
  rw [Bool.eq_false_iff]
  intro h
  rw [List.all_eq_true] at h
  rw [h _ (getD_mem rs k hk)] at hx
  cases hx

set_option maxHeartbeats 8000000 in
set_option maxRecDepth 100000 in
theorem rCheck (s : ByteArray) (w : World) (hs : s.size ≤ 8796093022208) :
    Calls Tryd.prog 11 #[.string s] w fun e w' => e = .returned (.int .i64 (errOf (sp.isName (sp.at' s 0)))) ∧ Below w.heap.size w w' := by
  have hal := sp.at_length s
  have hsc : ∀ r ∈ sp.at' s 0, sp.Sc r := by rw [sp.at_zero]; exact sp.runes_sc _
  have hrun := fun W => rRunes s W hs
  generalize sp.at' s 0 = rs at *
  by_cases hl0 : rs.length < 1
  · have hR : sp.isName rs = false := by
      have : decide (1 ≤ rs.length) = false := decide_eq_false (by omega)
      simp [sp.isName, this]
    have HR := Lib.hid hR
    clear hR
    go_enter Tryd.func11, Tryd.ntmps11
    go_wp2_with (go_at_call 24; refine (hrun _).mono ?_)
    rintro e W1 ⟨v, rfl, hown, b1⟩
    obtain ⟨ao, cap, rfl⟩ := own_form hown
    go_wp2
    go_ret
    exact ⟨ret_int (by rw [HR.out]; rfl), b1⟩
  · by_cases hl1 : 16 < rs.length
    · have hR : sp.isName rs = false := by
        have : decide (rs.length ≤ 16) = false := by simp; omega
        simp [sp.isName, this]
      have HR := Lib.hid hR
      clear hR
      have hl0' : 1 ≤ rs.length := by omega
      clear hl0
      go_enter Tryd.func11, Tryd.ntmps11
      go_wp2_with (go_at_call 24; refine (hrun _).mono ?_)
      rintro e W1 ⟨v, rfl, hown, b1⟩
      obtain ⟨ao, cap, rfl⟩ := own_form hown
      go_wp2
      go_ret
      exact ⟨ret_int (by rw [HR.out]; rfl), b1⟩
    · have hlo : 1 ≤ rs.length := by omega
      have hhi : rs.length ≤ 16 := by omega
      clear hl0 hl1
      have hs0 : sp.Sc (rs.getD 0 0) := hsc _ (getD_mem rs 0 (by omega))
      have hx0 : 0 ≤ rs.getD 0 0 ∧ rs.getD 0 0 ≤ 1114111 := by unfold sp.Sc at hs0; omega
      have HX : Hid (rs.headD 0 = rs.getD 0 0) := Lib.hid (by cases rs <;> rfl)
      obtain ⟨x, hx⟩ : ∃ x, rs.getD 0 0 = x := ⟨_, rfl⟩
      rw [hx] at hx0 HX
      have HXX := Lib.hid hx
      clear hx hs0
      by_cases hf0 : sp.low (sp.fold x) = true
      · have HN : Hid (sp.isName rs = rs.all okB) := by
          refine Lib.hid ?_
          have e1 : decide (1 ≤ rs.length) = true := by simp; omega
          have e2 : decide (rs.length ≤ 16) = true := by simp; omega
          unfold sp.isName
          rw [HX.out, hf0, e1, e2]
          rfl
        go_enter Tryd.func11, Tryd.ntmps11
        go_wp2_with (go_at_call 24; refine (hrun _).mono ?_)
        rintro e W1 ⟨v, rfl, hown, b1⟩
        obtain ⟨g, cap, rfl, hg, hgs⟩ := own_form_pos hown (by omega)
        have hc0 := own_cell hown 0 (by omega) rfl
        rw [HXX.out] at hc0
        go_wp2_with (first
          | (go_at_call 26; refine (rfold_any _ _ (by omega) (by omega)).mono ?_; rintro e w' ⟨rfl, rfl⟩)
          | (go_at_call 25; refine (rsmall_any _ _).mono ?_; rintro e w' ⟨rfl, rfl⟩))
        go_loop [4] (fun i => ∃ k : Nat, k ≤ rs.length ∧ i = .int .i64 k ∧ (rs.take k).all okB = true) (fun i => rs.length - (intOf i).toNat)
        case atStart => exact ⟨0, by omega, rfl, rfl⟩
        case round =>
          obtain ⟨k, hk, rfl, hall⟩ := hrel
          have HA := Lib.hid hall
          clear hall
          by_cases hlt : k < rs.length
          · have hck := own_cell hown k hlt rfl
            have hsk : sp.Sc (rs.getD k 0) := hsc _ (getD_mem rs k hlt)
            have hxk : 0 ≤ rs.getD k 0 ∧ rs.getD k 0 ≤ 1114111 := by unfold sp.Sc at hsk; omega
            obtain ⟨y, hy⟩ : ∃ y, rs.getD k 0 = y := ⟨_, rfl⟩
            rw [hy] at hxk hck
            have HY := Lib.hid hy
            clear hy hsk hc0
            by_cases hfy : sp.low (sp.fold y) = true
            · have HO : Hid ((rs.take (k + 1)).all okB = true) := Lib.hid (all_take rs k hlt HA.out (by rw [HY.out]; unfold okB; rw [hfy]; rfl))
              go_wp2_with (first
                | (go_at_call 26; refine (rfold_any _ _ (by omega) (by omega)).mono ?_; rintro e w' ⟨rfl, rfl⟩)
                | (go_at_call 25; refine (rsmall_any _ _).mono ?_; rintro e w' ⟨rfl, rfl⟩))
              all_goals
                go_round
                case rel => exact ⟨k + 1, by omega, by go_num, HO.out⟩
                case measure => simp [intOf]; omega
            · have hfy' : sp.low (sp.fold y) = false := by simpa using hfy
              clear hfy
              go_wp2_with (first
                | (go_at_call 26; refine (rfold_any _ _ (by omega) (by omega)).mono ?_; rintro e w' ⟨rfl, rfl⟩)
                | (go_at_call 25; refine (rsmall_any _ _).mono ?_; rintro e w' ⟨rfl, rfl⟩))
              all_goals (try (rename_i hz; simp only [Bool.not_eq_true', Bool.not_eq_false', bne_iff_ne, bne_eq_false_iff_eq, decide_eq_true_eq, decide_eq_false_iff_not, ne_eq] at hz))
              all_goals first
                | (go_ret
                   exact ⟨ret_int (by rw [HN.out, all_not rs k hlt (by rw [HY.out]; exact okB_false hfy' (by omega))]; rfl), b1⟩)
                | (go_round
                   case rel => exact ⟨k + 1, by omega, by go_num, all_take rs k hlt HA.out (by rw [HY.out]; exact okB_true (by omega))⟩
                   case measure => simp [intOf]; omega)
          · have hke : k = rs.length := by omega
            subst hke
            go_wp2
            go_ret
            have := HA.out
            rw [List.take_length] at this
            exact ⟨ret_int (by rw [HN.out, this]; rfl), b1⟩
      · have hf0' : sp.low (sp.fold x) = false := by simpa using hf0
        clear hf0
        have HR : Hid (sp.isName rs = false) := by
          refine Lib.hid ?_
          unfold sp.isName
          rw [HX.out, hf0']
          simp
        go_enter Tryd.func11, Tryd.ntmps11
        go_wp2_with (go_at_call 24; refine (hrun _).mono ?_)
        rintro e W1 ⟨v, rfl, hown, b1⟩
        obtain ⟨g, cap, rfl, hg, hgs⟩ := own_form_pos hown (by omega)
        have hc0 := own_cell hown 0 (by omega) rfl
        rw [HXX.out] at hc0
        go_wp2_with (first
          | (go_at_call 26; refine (rfold_any _ _ (by omega) (by omega)).mono ?_; rintro e w' ⟨rfl, rfl⟩)
          | (go_at_call 25; refine (rsmall_any _ _).mono ?_; rintro e w' ⟨rfl, rfl⟩))
        go_ret
        exact ⟨ret_int (by rw [HR.out]; rfl), b1⟩
end Go.Proofs.YtekajahffnhboabDoor
