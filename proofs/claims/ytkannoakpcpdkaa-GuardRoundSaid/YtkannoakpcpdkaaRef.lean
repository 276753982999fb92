/-
  The document's own objects: laid, Lay.
-/
import Derived.Test.YtkannoakpcpdkaaChk
set_option linter.unusedVariables false
set_option linter.unusedSimpArgs false
namespace Go.Proofs.Ytkannoakpcpdkaa
open Go Go.RowKit

theorem lst_succ (k : Nat) (f : Nat → Int) : lst (k + 1) f = lst k f ++ [f k] := by simp [lst, List.range_succ]
set_option maxHeartbeats 4000000 in
theorem rLaid (n M : Nat) (a o l : Int) (h1 : 1 ≤ n) (h2 : n ≤ 1024) (hM : M = n + 16) (w : World) :
    Calls Try.prog 23 #[.int .i64 n, .int .u8 a, .int .u8 o, .int .u8 l] w fun e w' => ∃ g cap, e = .returned (.slice (some ⟨g, 0, none⟩) M cap) ∧ GotY w w' g cap M (objF n a o l) := by
  have HM := Lib.hid hM
  have hm16 : (n : Int) + 16 = (M : Int) := by omega
  have hMb : M ≤ 1040 := by omega
  have hMb1 : 17 ≤ M := by omega
  clear hM
  go_enter Try.func23, Try.ntmps23
  go_wp2
  go_loopw [9, 10] (fun s i wr => ∃ (k : Nat) (ao : Option Addr) (cap : Nat), k ≤ M ∧ i = .int .i64 k ∧ s = .slice ao k cap ∧ Hid (OwnB w.heap.size wr (.slice ao k cap) (lst k (objF n a o l))) ∧ Hid (Below w.heap.size w wr)) (fun s i _ => M - (intOf i).toNat)
  case atStart => exact ⟨0, none, 0, by omega, by first | rfl | go_num, rfl, Lib.hid (OwnB.nil _ _), Lib.hid (Below.refl _ _)⟩
  case round =>
    obtain ⟨k, ao, cap, hk, rfl, rfl, HO, HB⟩ := hrel
    by_cases hlt : k < M
    · have HL : Hid ((lst k (objF n a o l) ++ [objF n a o l k]).length = k + 1) := Lib.hid (by simp [len_lst])
      have HK : Hid ((lst k (objF n a o l)).length + [objF n a o l k].length ≤ 10000) := Lib.hid (by simp only [len_lst, List.length_cons, List.length_nil]; omega)
      have HS : Hid (lst k (objF n a o l) ++ [objF n a o l k] = lst (k + 1) (objF n a o l)) := Lib.hid (lst_succ _ _).symm
      obtain ⟨y, hy⟩ : ∃ y, objF n a o l k = y := ⟨_, rfl⟩
      rw [hy] at HL HK HS
      have hO2 : OwnB w.heap.size (wr.alloc (.cells #[.int .u8 y] 5)) (.slice ao k cap) (lst k (objF n a o l)) := HO.out.below (below_one (Below.refl _ wr) _)
      have HO2 := Lib.hid hO2
      have HN : Hid (ShowB (wr.alloc (.cells #[.int .u8 y] 5)) (.slice (some ⟨wr.heap.size, 0, none⟩) 1 1) [y]) := Lib.hid (lit_b wr 5 [y] 1 rfl (by decide))
      have HZ : Hid (w.heap.size ≤ (wr.alloc (.cells #[.int .u8 y] 5)).heap.size) := Lib.hid (by rw [size_alloc]; have := HB.out.size; omega)
      have HB1 : Hid (Below w.heap.size w (wr.alloc (.cells #[.int .u8 y] 5))) := Lib.hid (below_one HB.out _)
      clear hO2
      by_cases c1 : k < 8
      · obtain rfl : a = y := by rw [← hy]; simp [objF, c1]
        clear hy
        go_wp2_with (at_builtin; refine wpList_appendB (by rfl) _ _ (by rfl) w.heap.size _ _ _ _ (k + 1) (by rfl) (by rfl) HO2.out HN.out HK.out HZ.out HL.out ?_)
        intro ao2 cap2 w2 h3 h4
        rw [HS.out] at h3
        have H3 := Lib.hid h3
        have H4 := Lib.hid (HB1.out.trans h4)
        clear h3 h4
        go_wp2
        go_roundw
        case rel => exact ⟨k + 1, ao2, cap2, by omega, by go_num, rfl, H3, H4⟩
        case measure => simp [intOf]; omega
      · by_cases c2 : n + 8 ≤ k
        · obtain rfl : a = y := by rw [← hy]; simp [objF, c2]
          have c2' : (n : Int) + 8 ≤ (k : Int) := by omega
          clear hy
          go_wp2_with (at_builtin; refine wpList_appendB (by rfl) _ _ (by rfl) w.heap.size _ _ _ _ (k + 1) (by rfl) (by rfl) HO2.out HN.out HK.out HZ.out HL.out ?_)
          intro ao2 cap2 w2 h3 h4
          rw [HS.out] at h3
          have H3 := Lib.hid h3
          have H4 := Lib.hid (HB1.out.trans h4)
          clear h3 h4
          go_wp2
          go_roundw
          case rel => exact ⟨k + 1, ao2, cap2, by omega, by go_num, rfl, H3, H4⟩
          case measure => simp [intOf]; omega
        · have c2' : ¬ (n : Int) + 8 ≤ (k : Int) := by omega
          by_cases c3 : k = n + 7
          · obtain rfl : l = y := by rw [← hy, objF, if_neg (by omega), if_pos c3]
            have c3' : ((k : Int) == (n : Int) + 7) = true := by simp; omega
            clear hy c3
            go_wp2_with (at_builtin; refine wpList_appendB (by rfl) _ _ (by rfl) w.heap.size _ _ _ _ (k + 1) (by rfl) (by rfl) HO2.out HN.out HK.out HZ.out HL.out ?_)
            intro ao2 cap2 w2 h3 h4
            rw [HS.out] at h3
            have H3 := Lib.hid h3
            have H4 := Lib.hid (HB1.out.trans h4)
            clear h3 h4
            go_wp2
            go_roundw
            case rel => exact ⟨k + 1, ao2, cap2, by omega, by go_num, rfl, H3, H4⟩
            case measure => simp [intOf]; omega
          · obtain rfl : o = y := by rw [← hy, objF, if_neg (by omega), if_neg c3]
            have c3' : ((k : Int) == (n : Int) + 7) = false := by simp; omega
            clear hy c3
            go_wp2_with (at_builtin; refine wpList_appendB (by rfl) _ _ (by rfl) w.heap.size _ _ _ _ (k + 1) (by rfl) (by rfl) HO2.out HN.out HK.out HZ.out HL.out ?_)
            intro ao2 cap2 w2 h3 h4
            rw [HS.out] at h3
            have H3 := Lib.hid h3
            have H4 := Lib.hid (HB1.out.trans h4)
            clear h3 h4
            go_wp2
            go_roundw
            case rel => exact ⟨k + 1, ao2, cap2, by omega, by go_num, rfl, H3, H4⟩
            case measure => simp [intOf]; omega
    · obtain rfl : k = M := by omega
      have hr := HO.out.row (by rw [len_lst]; omega)
      obtain ⟨g, cap2, he, hg1, hg2, hg3, hrow⟩ := hr
      rw [len_lst] at he hg2 hrow
      obtain ⟨rfl, _, rfl⟩ := Value.slice.inj he
      have HW : Hid (GotY w wr g cap k (objF n a o l)) := Lib.hid ⟨hrow.congr (fun i hi => pk_lst _ hi), hg1, hg2, hg3, HB.out⟩
      clear he hg1 hg2 hg3 hrow HO
      go_wp2
      go_ret
      exact ⟨g, cap, rfl, HW.out⟩
set_option maxHeartbeats 1000000 in
theorem rLayYes (n M : Nat) (h1 : 1 ≤ n) (h2 : n ≤ 1024) (hM : M = n + 16) (w : World) :
    Calls Try.prog 10 #[.int .i64 n] w fun e w' => ∃ g cap, e = .returned (.tuple #[.slice (some ⟨g, 0, none⟩) M cap, .int .i64 0]) ∧ GotY w w' g cap M (freeF n) := by
  have HM := Lib.hid hM
  clear hM
  go_enter Try.func10, Try.ntmps10
  go_wp2_with fail
  refine (rLaid n M 187 107 165 h1 h2 HM.out _).mono ?_
  rintro e w2 ⟨g, cap, rfl, h⟩
  have H := Lib.hid h
  clear h
  go_wp2
  go_ret2
  exact ⟨g, cap, rfl, H.out⟩
set_option maxHeartbeats 1000000 in
theorem rLayNo (x : Int) (h : ¬ (1 ≤ x ∧ x ≤ 1024)) (w : World) :
    Calls Try.prog 10 #[.int .i64 x] w fun e w' => e = .returned (.tuple #[.slice none 0 0, .int .i64 2]) ∧ w' = w := by
  by_cases h1 : x < 1
  · go_enter Try.func10, Try.ntmps10
    go_wp2
    go_ret2
    exact ⟨rfl, rfl⟩
  · have h2 : 1024 < x := by omega
    go_enter Try.func10, Try.ntmps10
    go_wp2
    go_ret2
    exact ⟨rfl, rfl⟩
end Go.Proofs.Ytkannoakpcpdkaa
