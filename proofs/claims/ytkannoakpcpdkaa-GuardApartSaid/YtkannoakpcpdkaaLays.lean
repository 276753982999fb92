/-
  GuardLays, GuardApart.
-/
import Derived.Test.YtkannoakpcpdkaaWorks
set_option linter.unusedVariables false
set_option linter.unusedSimpArgs false
namespace Go.Proofs.Ytkannoakpcpdkaa
open Go Go.RowKit

set_option maxHeartbeats 4000000 in
theorem walkLays (x : Int) (w : World) : Calls Try.prog 3 #[.int .i64 x] w fun e w' => e = .returned (.bool true) ∧ Below w.heap.size w w' := by
  by_cases hx : 1 ≤ x ∧ x ≤ 1024
  · obtain ⟨n, rfl⟩ : ∃ n : Nat, x = n := ⟨x.toNat, by omega⟩
    have h1 : 1 ≤ n := by omega
    have h2 : n ≤ 1024 := by omega
    obtain ⟨M, hM⟩ : ∃ M, M = n + 16 := ⟨_, rfl⟩
    have HM := Lib.hid hM
    have hMb : M ≤ 1040 := by omega
    clear hx hM
    go_enter Try.func3, Try.ntmps3
    go_wp2_with fail
    refine (cLayYes n M h1 h2 HM.out w).mono ?_
    rintro e w1 ⟨g1, k1, rfl, G1⟩
    have H1 := Lib.hid G1
    have hk1 := G1.cap
    clear G1
    go_wp2_with fail
    refine (rLayYes n M h1 h2 HM.out w1).mono ?_
    rintro e w2 ⟨g2, k2, rfl, G2⟩
    have H2 := Lib.hid G2
    clear G2
    go_wp2_with fail
    refine (cEqYes _ _ (lst M (freeF n)) (lst M (freeF n)) rfl w2 (H1.out.shows.below H2.out.below) H2.out.shows (by rw [HM.out]; exact bytey_free n)).mono ?_
    rintro e w3 ⟨rfl, rfl⟩
    have HNE : Hid (g2 ≠ g1) := Lib.hid (by have := H1.out.row.lt; have := H2.out.new; omega)
    go_wp2
    go_loopw [7] (fun i wr => ∃ (k : Nat) (f : Nat → Int), k ≤ M ∧ i = .int .i64 k ∧ Hid (RowY wr g1 M f) ∧ Hid (Kept (· = g1) w3 wr)) (fun i _ => M - (intOf i).toNat)
    case atStart => exact ⟨0, _, by omega, by first | rfl | go_num, Lib.hid (H1.out.row.below H2.out.below), Lib.hid (Kept.refl _ _)⟩
    case round =>
      obtain ⟨k, f, hk, rfl, HR, HK⟩ := hrel
      by_cases hlt : k < M
      · have c1 := HR.out.cell hlt
        have f1 := HR.out.free k
        have HS := Lib.hid (HR.out.set hlt 1)
        have HK2 := Lib.hid (HK.out.setCell (p := ⟨g1, k, none⟩) rfl (.int .u8 1))
        go_wp2
        go_roundw
        case rel => exact ⟨k + 1, _, by omega, by go_num, HS, HK2⟩
        case measure => simp [intOf]; omega
      · obtain rfl : k = M := by omega
        have HB3 : Hid (Below w.heap.size w wr) := Lib.hid (below_kept (below_then H1.out.below H2.out.below) HK.out (fun j hj => by rw [hj]; exact H1.out.new))
        have HR2 : Hid (RowY wr g2 k (freeF n)) := Lib.hid (H2.out.row.kept HK.out HNE.out)
        go_wp2_with fail
        refine (cLayYes n k h1 h2 HM.out wr).mono ?_
        rintro e w4 ⟨g3, k3, rfl, G3⟩
        have H3 := Lib.hid G3
        clear G3
        go_wp2_with fail
        refine (cEqYes _ _ (lst k (freeF n)) (lst k (freeF n)) rfl w4 H3.out.shows ((HR2.out.below H3.out.below).shows H2.out.le H2.out.max) (by rw [HM.out]; exact bytey_free n)).mono ?_
        rintro e w5 ⟨rfl, rfl⟩
        go_wp2_with fail
        refine (cWorks _).mono ?_
        rintro e w6 ⟨rfl, hb⟩
        have HB := Lib.hid (below_then (below_then HB3.out H3.out.below) hb)
        clear hb
        go_wp2
        go_ret
        exact ⟨rfl, HB.out⟩
  · have HX := Lib.hid hx
    clear hx
    go_enter Try.func3, Try.ntmps3
    go_wp2_with fail
    refine (cLayNo x HX.out w).mono ?_
    rintro e w1 ⟨rfl, rfl⟩
    go_wp2_with fail
    refine (rLayNo x HX.out _).mono ?_
    rintro e w2 ⟨rfl, rfl⟩
    go_wp2_with fail
    refine (cEqYes _ _ [] [] rfl _ (ShowB.nil _) (ShowB.nil _) bytey_nil).mono ?_
    rintro e w3 ⟨rfl, rfl⟩
    go_wp2
    go_loopw [7] (fun i wr => i = .int .i64 0 ∧ w3 = wr) (fun i _ => 0)
    case atStart => exact ⟨by first | rfl | go_num, rfl⟩
    case round =>
      obtain ⟨rfl, rfl⟩ := hrel
      go_wp2_with fail
      refine (cLayNo x HX.out _).mono ?_
      rintro e w1 ⟨rfl, rfl⟩
      go_wp2_with fail
      refine (cEqYes _ _ [] [] rfl _ (ShowB.nil _) (ShowB.nil _) bytey_nil).mono ?_
      rintro e w4 ⟨rfl, rfl⟩
      go_wp2_with fail
      refine (cWorks _).mono ?_
      rintro e w6 ⟨rfl, hb⟩
      have HB := Lib.hid hb
      clear hb
      go_wp2
      go_ret
      exact ⟨rfl, HB.out⟩
set_option maxHeartbeats 4000000 in
theorem walkApart (u : Value) (l : List Int) (w : World) (hu : ShowB w u l) : Calls Try.prog 7 #[u] w fun e w' => e = .returned (.bool true) ∧ Below w.heap.size w w' := by
  have HU := Lib.hid hu
  have hA := chk_apart l
  have hs1 := chk_sum l false
  have hs2 := chk_sum l true
  clear hu
  go_enter Try.func7, Try.ntmps7
  go_wp2_with fail
  refine (cChk _ l false w HU.out).mono ?_
  rintro e w1 ⟨rfl, hb1⟩
  have HB1 := Lib.hid hb1
  clear hb1
  go_wp2_with fail
  refine (cChk _ l true w1 (HU.out.below HB1.out)).mono ?_
  rintro e w2 ⟨rfl, hb2⟩
  have HB2 := Lib.hid (below_then HB1.out hb2)
  clear hb2
  obtain ⟨p, hp⟩ : ∃ p, chkE l false = p := ⟨_, rfl⟩
  obtain ⟨q, hq⟩ : ∃ q, chkE l true = q := ⟨_, rfl⟩
  rw [hp, hq] at hA
  rw [hp] at hs1 ⊢
  rw [hq] at hs2 ⊢
  clear hp hq
  rcases hs1 with rfl | rfl | rfl <;> rcases hs2 with rfl | rfl | rfl <;> simp at hA <;>
  · go_wp2_with fail
    refine (cWorks _).mono ?_
    rintro e w3 ⟨rfl, hb⟩
    have HB := Lib.hid (below_then HB2.out hb)
    clear hb
    go_wp2
    go_ret
    exact ⟨rfl, HB.out⟩
end Go.Proofs.Ytkannoakpcpdkaa
