/-
  mustBe: a wrong byte ends it by a panic with its index.
-/
import Derived.Test.YtkannoakpcpdkaaObj
set_option linter.unusedVariables false
set_option linter.unusedSimpArgs false
namespace Go.Proofs.Ytkannoakpcpdkaa
open Go Go.RowKit

/-- how mustBe ends -/
def mustE (l : List Int) (out : Bool) : Ending := match fw (wrg l out) l.length with
  | none => .returned (.tuple #[])
  | some k => .panicked [{ v := .iface 3 (.int .i64 (k : Int)), recovered := false }]
theorem must_ok {l : List Int} {out : Bool} (h : ∀ j, j < l.length → wrg l out j = false) : mustE l out = .returned (.tuple #[]) := by simp [mustE, fw_none h]
theorem must_bad {l : List Int} {out : Bool} {k : Nat} (hk : k < l.length) (hp : wrg l out k = true) (h : ∀ j, j < k → wrg l out j = false) : mustE l out = .panicked [{ v := .iface 3 (.int .i64 (k : Int)), recovered := false }] := by simp [mustE, fw_some hk hp h]
def Fine (l : List Int) (out : Bool) (k : Nat) : Prop := ∀ j, j < k → wrg l out j = false
theorem Fine.zero (l : List Int) (out : Bool) : Fine l out 0 := fun j hj => by omega
theorem Fine.succ {l : List Int} {out : Bool} {k : Nat} (h : Fine l out k) (hk : wrg l out k = false) : Fine l out (k + 1) := fun j hj => by
  by_cases e : j = k
  · rw [e]; exact hk
  · exact h j (by omega)
theorem wrg_f (l : List Int) (k : Nat) : wrg l false k = (pk l k != freeF (l.length - 16) k) := by simp [wrg]
theorem wrg_side {l : List Int} {k : Nat} (h : k < 8 ∨ l.length - 8 ≤ k) : wrg l true k = (pk l k != 204) := by
  unfold wrg
  rw [if_pos rfl, decide_eq_true h, Bool.true_and]
theorem wrg_mid {l : List Int} {k : Nat} (h : ¬ (k < 8 ∨ l.length - 8 ≤ k)) : wrg l true k = false := by
  simp only [wrg, h, if_true, decide_false, Bool.false_and]
set_option maxHeartbeats 4000000 in
theorem cMust (u : Value) (l : List Int) (out : Bool) (hl : szOk l) (w : World) (hu : ShowB w u l) :
    Calls Try.prog 26 #[u, .bool out] w fun e w' => e = mustE l out ∧ Below w.heap.size w w' := by
  obtain ⟨ao, cap, rfl, hcap, hat⟩ := hu.form
  have HU := Lib.hid hu
  have HAT := Lib.hid hat
  obtain ⟨n, hn⟩ : ∃ n, l.length = n + 16 := ⟨l.length - 16, by unfold szOk at hl; omega⟩
  have hn1 : 1 ≤ n := by unfold szOk at hl; omega
  have hn2 : n ≤ 1024 := by unfold szOk at hl; omega
  have HN : Hid (l.length - 16 = n) := Lib.hid (by omega)
  have HLEN := Lib.hid hn
  obtain ⟨M, hM⟩ : ∃ M, M = l.length := ⟨_, rfl⟩
  have HML := Lib.hid hM
  have HMN : Hid (M = n + 16) := Lib.hid (by rw [hM, hn])
  rw [← hM] at hcap ⊢
  have hMb : M ≤ 1040 := by rw [HMN.out]; omega
  clear hat hu hn hl hM
  go_enter Try.func26, Try.ntmps26
  go_wp2_with fail
  refine (cOwn _ l n (by rw [HLEN.out]; omega) w (by rw [HML.out]; exact HU.out)).mono ?_
  rintro e w' ⟨rfl, rfl⟩
  go_wp2_with fail
  refine (cLaid n M out hn1 hn2 HMN.out w').mono ?_
  rintro e w1 ⟨g, gc, rfl, hG⟩
  have hgc := hG.cap
  have HG := Lib.hid hG
  clear hG
  go_wp2
  go_loopw [14] (fun i wr => ∃ k : Nat, k ≤ M ∧ i = .int .i64 k ∧ Hid (Fine l out k) ∧ w1 = wr) (fun i _ => M - (intOf i).toNat)
  case atStart => exact ⟨0, by omega, by first | rfl | go_num, Lib.hid (Fine.zero _ _), rfl⟩
  case round =>
    obtain ⟨k, hk, rfl, HF, rfl⟩ := hrel
    by_cases hlt : k < M
    · obtain ⟨b1, o1, rfl, c1⟩ := HAT.out k (by rw [← HML.out]; exact hlt)
      have d1 := cell_keep HG.out.below c1
      have d2 := HG.out.row.cell hlt
      clear c1
      have HKL : Hid (k < l.length) := Lib.hid (by rw [← HML.out]; exact hlt)
      have HS : Hid (wrg l out k = false → Fine l out (k + 1)) := Lib.hid HF.out.succ
      have HP : Hid (wrg l out k = true → mustE l out = .panicked [{ v := .iface 3 (.int .i64 (k : Int)), recovered := false }]) := Lib.hid (fun h => must_bad HKL.out h HF.out)
      have hbk : M ≤ 1040 := hMb
      cases out with
      | false =>
        have HW : Hid (wrg l false k = (pk l k != freeF n k)) := Lib.hid (by rw [wrg_f, HN.out])
        simp only [Bool.false_eq_true, if_false] at d2
        generalize freeF n k = y at d2 HW
        generalize pk l k = x at d1 HW
        by_cases hxy : x = y
        · subst hxy
          have HS1 := Lib.hid (HS.out (by rw [HW.out]; simp))
          clear HS HP HW
          go_wp2
          go_roundw
          case rel => exact ⟨k + 1, by omega, by go_num, HS1, by first | trivial | rfl⟩
          case measure => simp [intOf]; omega
        · have HP1 := Lib.hid (HP.out (by rw [HW.out]; simpa using hxy))
          have hne : (x != y) = true := by simpa using hxy
          clear HS HP HW
          go_wp2
          exact ⟨rfl, HP1.out.symm, HG.out.below⟩
      | true =>
        simp only [if_true] at d2
        have HO : Hid (pk l k = pk l k) := Lib.hid rfl
        by_cases h8 : k < 8
        · have HW : Hid (wrg l true k = (pk l k != outF n k)) := Lib.hid (by rw [wrg_side (.inl h8), show outF n k = 204 from outF_side (.inl h8) _ _ _])
          clear HO
          generalize outF n k = y at d2 HW
          generalize pk l k = x at d1 HW
          by_cases hxy : x = y
          · subst hxy
            have HS1 := Lib.hid (HS.out (by rw [HW.out]; simp))
            clear HS HP HW
            go_wp2
            go_roundw
            case rel => exact ⟨k + 1, by omega, by go_num, HS1, by first | trivial | rfl⟩
            case measure => simp [intOf]; omega
          · have HP1 := Lib.hid (HP.out (by rw [HW.out]; simpa using hxy))
            have hne : (x != y) = true := by simpa using hxy
            clear HS HP HW
            go_wp2
            exact ⟨rfl, HP1.out.symm, HG.out.below⟩
        · by_cases h9 : k < n + 8
          · have hW : wrg l true k = false := wrg_mid (by rw [HLEN.out]; omega)
            have HS1 := Lib.hid (HS.out hW)
            have h9' : (k : Int) < 8 + (n : Int) := by omega
            clear HS HP hW HO
            generalize outF n k = y at d2
            generalize pk l k = x at d1
            obtain ⟨z, hz⟩ : ∃ z, (x != y) = z := ⟨_, rfl⟩
            cases z with
            | false =>
              go_wp2
              go_roundw
              case rel => exact ⟨k + 1, by omega, by go_num, HS1, by first | trivial | rfl⟩
              case measure => simp [intOf]; omega
            | true =>
              go_wp2
              go_roundw
              case rel => exact ⟨k + 1, by omega, by go_num, HS1, by first | trivial | rfl⟩
              case measure => simp [intOf]; omega
          · have h9' : ¬ (k : Int) < 8 + (n : Int) := by omega
            have HW : Hid (wrg l true k = (pk l k != outF n k)) := Lib.hid (by rw [wrg_side (.inr (by rw [HLEN.out]; omega)), show outF n k = 204 from outF_side (.inr (by omega)) _ _ _])
            clear HO
            generalize outF n k = y at d2 HW
            generalize pk l k = x at d1 HW
            by_cases hxy : x = y
            · subst hxy
              have HS1 := Lib.hid (HS.out (by rw [HW.out]; simp))
              clear HS HP HW
              go_wp2
              go_roundw
              case rel => exact ⟨k + 1, by omega, by go_num, HS1, by first | trivial | rfl⟩
              case measure => simp [intOf]; omega
            · have HP1 := Lib.hid (HP.out (by rw [HW.out]; simpa using hxy))
              have hne : (x != y) = true := by simpa using hxy
              clear HS HP HW
              go_wp2
              exact ⟨rfl, HP1.out.symm, HG.out.below⟩
    · obtain rfl : k = M := by omega
      have HE : Hid (mustE l out = .returned (.tuple #[])) := Lib.hid (must_ok (by rw [← HML.out]; exact HF.out))
      go_wp2
      first | go_end0 | refine bodyPost_ret (results_none rfl _ _ _) rfl ?_
      exact ⟨HE.out.symm, HG.out.below⟩
end Go.Proofs.Ytkannoakpcpdkaa
