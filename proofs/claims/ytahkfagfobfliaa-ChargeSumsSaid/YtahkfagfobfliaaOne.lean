/-
  Counters that are the call's own; the laws' helpers works and path.
-/
import Derived.Test.YtahkfagfobfliaaNew
import Derived.Test.YtahkfagfobfliaaBack
set_option linter.unusedVariables false
set_option linter.unusedSimpArgs false
namespace Go.Proofs.Ytahkfagfobfliaa
open Go Go.RowKit

/-- the types of what a call on counters changes -/
def tysA : List TypeId := [49]
structure C1 (W w : World) (B g : Nat) (t : Ct) : Prop where
  cv : CV w B g t
  ci : CI t
  low : Below W.heap.size W w
  ge : W.heap.size ≤ B ∧ W.heap.size ≤ g
section
variable {W w w' : World} {B g : Nat} {t t' : Ct} {x n a e q u : Int} {l : List Int} {v : Value}
theorem C1.kt (h : C1 W w B g t) {Ts : List TypeId} (hk : KT Ts w w') (hb : Below W.heap.size W w') (hT : 45 ∉ Ts ∧ 49 ∉ Ts) : C1 W w' B g t := by
  obtain ⟨S, hk, hS⟩ := hk
  exact ⟨h.cv.kept hk hS hT, h.ci, hb, h.ge⟩
theorem C1.below (h : C1 W w B g t) (hb : Below w.heap.size w w') : C1 W w' B g t := ⟨h.cv.below hb, h.ci, below_then h.low hb, h.ge⟩
theorem C1.alloc (h : C1 W w B g t) (o : Obj) : C1 W (w.alloc o) B g t := h.below (below_one (Below.refl _ _) _)
theorem C1.drew (h : C1 W w B g t) : C1 W w.drew B g t := h.below (Below.refl _ w).drew
theorem C1.drewN (h : C1 W w B g t) (m : Nat) : C1 W (w.drewN m) B g t := h.below (below_drewN (Below.refl _ w) m)
theorem C1.next (h : C1 W w B g t) (hv : CV w' B g t') (hk : Kept (· = g) w w') (hc : CI t') : C1 W w' B g t' ∧ KT tysA w w' :=
  ⟨⟨hv, hc, below_kept h.low hk (by rintro k rfl; exact h.ge.2), h.ge⟩, _, hk, h.cv.typ⟩
theorem C1.arg (h : C1 W w B g t) (hu : ShowI W v l) : Stays w g v l := fun w' hk => hu.below (below_kept h.low hk (by rintro k rfl; exact h.ge.2))
theorem C1.own (h : C1 W w B g t) {b : Nat} (hu : OwnI b w v l) : Stays w g v l := fun w' hk => (show OwnI b w' v l from own_kept2 hu hk h.cv.typ (by decide)).shows
theorem C1.lit (h : C1 W w B g t) (l : List Int) (n : Nat) (hn : l.length = n) (hm : n ≤ 10000) : Stays (w.alloc (.cells (nms l).toArray 3)) g (.slice (some ⟨w.heap.size, 0, none⟩) n n) l := fun w' hk => by
  have hg := h.cv.lt.2
  have h1 := lit_i w 3 l n hn hm
  obtain ⟨hl, ao, cap, hv, hc, hs⟩ := h1
  refine ⟨hl, ao, cap, hv, hc, fun hn => ?_⟩
  obtain ⟨b, o, ha, hx⟩ := hs hn
  refine ⟨b, o, ha, fun j hj => ?_⟩
  have h2 := hx j hj
  have h3 : (nms l)[j]? = some ((nms l)[j]'(by omega)) := List.getElem?_eq_getElem (by omega)
  rw [h3] at h2
  rw [h3]
  refine cell_kept h2 hk ?_
  have hb : b = w.heap.size := by
    subst ha
    cases hv
    rfl
  dsimp only
  omega
theorem oNew (W : World) : Calls Try.prog 8 #[] W fun e w' => ∃ B g, e = .returned (.pointer (some ⟨B, 0, none⟩)) ∧ C1 W w' B g noC := by
  refine (cNew W).mono ?_
  rintro e w' ⟨B, g, rfl, h1, h2, h3, h4⟩
  exact ⟨B, g, rfl, h1, CI.new, h2, h3, h4⟩
theorem oLimit (h : C1 W w B g t) (hr : LmIs t x n e t') :
    Calls Try.prog 17 #[.pointer (some ⟨B, 0, none⟩), .int .i64 x, .int .i64 n] w fun e' w' => e' = .returned (.int .i64 e) ∧ C1 W w' B g t' ∧ KT tysA w w' := by
  refine (cLimit h.cv hr).mono ?_
  rintro e' w' ⟨rfl, h1, h2⟩
  exact ⟨rfl, h.next h1 h2 (hr.ci h.ci)⟩
theorem oUp (h : C1 W w B g t) (hr : UpIs t x n e t') :
    Calls Try.prog 18 #[.pointer (some ⟨B, 0, none⟩), .int .i64 x, .int .i64 n] w fun e' w' => e' = .returned (.int .i64 e) ∧ C1 W w' B g t' ∧ KT tysA w w' := by
  refine (cUp h.cv h.ci hr).mono ?_
  rintro e' w' ⟨rfl, h1, h2⟩
  exact ⟨rfl, h.next h1 h2 (hr.ci h.ci)⟩
theorem oDown (h : C1 W w B g t) (hr : DnIs t x n e t') :
    Calls Try.prog 19 #[.pointer (some ⟨B, 0, none⟩), .int .i64 x, .int .i64 n] w fun e' w' => e' = .returned (.int .i64 e) ∧ C1 W w' B g t' ∧ KT tysA w w' := by
  refine (cDown h.cv h.ci hr).mono ?_
  rintro e' w' ⟨rfl, h1, h2⟩
  exact ⟨rfl, h.next h1 h2 (hr.ci h.ci)⟩
theorem oTry (h : C1 W w B g t) (hq : askP l n = q) (hr : TryIs q t l n a e t') (hu : Stays w g v l) :
    Calls Try.prog 20 #[.pointer (some ⟨B, 0, none⟩), v, .int .i64 n] w fun e' w' => e' = .returned (.tuple #[.int .i64 a, .int .i64 e]) ∧ C1 W w' B g t' ∧ KT tysA w w' := by
  refine (cTry h.cv h.ci hq hr hu).mono ?_
  rintro e' w' ⟨rfl, h1, h2⟩
  exact ⟨rfl, h.next h1 h2 (hr.ci h.ci)⟩
theorem oBack (h : C1 W w B g t) (hq : askP l n = q) (hr : BkIs q t l n e t') (hu : Stays w g v l) :
    Calls Try.prog 21 #[.pointer (some ⟨B, 0, none⟩), v, .int .i64 n] w fun e' w' => e' = .returned (.int .i64 e) ∧ C1 W w' B g t' ∧ KT tysA w w' := by
  refine (cBack h.cv h.ci hq hr hu).mono ?_
  rintro e' w' ⟨rfl, h1, h2⟩
  exact ⟨rfl, h.next h1 h2 (hr.ci h.ci)⟩
end
def s1 : Ct := noC.lim 1 100
def s2 : Ct := s1.all [3, 2, 1] 60
def s3 : Ct := s2.all [3, 1] (-60)
theorem p321 : IsPath [3, 2, 1] := ⟨by decide, by decide, by decide, by decide⟩
theorem p21 : IsPath [2, 1] := ⟨by decide, by decide, by decide, by decide⟩
theorem p31 : IsPath [3, 1] := ⟨by decide, by decide, by decide, by decide⟩
theorem is1 : LmIs noC 1 100 0 s1 := .ok 1 rfl (by decide) (by decide) (by decide)
theorem is2 : TryIs 0 s1 [3, 2, 1] 60 0 0 s2 := .ok rfl p321 (by decide) (by decide)
theorem is3 : TryIs 0 s2 [2, 1] 41 1 120 s2 := .full 1 rfl p21 (by decide) (by decide) (by decide) (by decide)
theorem is4 : BkIs 0 s2 [3, 1] 61 2 s2 := .few 0 rfl p31 (by decide) (by decide) (by decide) (by decide)
theorem is5 : BkIs 0 s2 [3, 1] 60 0 s3 := .ok rfl p31 (by decide) (by decide)
theorem is6 : TryIs 2 s3 [1, 1] 1 0 2 s3 := .bad (by decide)
theorem is7 : UpIs s3 17 1 110 s3 := .bad (by decide)
theorem is8 : UpIs s3 1 (-1) 2 s3 := .bad (by decide)
theorem is9 : DnIs s3 2 61 2 s3 := .few 2 rfl (by decide) (by decide) (by decide) (by decide)
set_option maxHeartbeats 8000000 in
set_option maxRecDepth 100000 in
theorem works (W : World) : Calls Try.prog 15 #[] W fun e w' => e = .returned (.bool true) ∧ Below W.heap.size W w' := by
  go_enter Try.func15, Try.ntmps15
  go_wp2_with fail
  refine (oNew W).mono ?_
  rintro e w1 ⟨B, g, rfl, h1⟩
  have H1 := Lib.hid h1
  clear h1
  go_wp2_with fail
  refine (oLimit H1.out is1).mono ?_
  rintro e w2 ⟨rfl, h2, _⟩
  have H2 := Lib.hid h2
  clear h2
  go_wp2_with fail
  refine (oTry (H2.out.alloc _) (by decide) is2 (H2.out.lit [3, 2, 1] 3 rfl (by decide))).mono ?_
  rintro e w3 ⟨rfl, h3, _⟩
  have H3 := Lib.hid h3
  clear h3
  go_wp2_with fail
  refine (cUsed H3.out.cv 2 60 (by decide)).mono ?_
  rintro e w4 ⟨rfl, rfl⟩
  go_wp2_with fail
  refine (oTry (H3.out.alloc _) (by decide) is3 (H3.out.lit [2, 1] 2 rfl (by decide))).mono ?_
  rintro e w5 ⟨rfl, h5, _⟩
  have H5 := Lib.hid h5
  clear h5
  go_wp2_with fail
  refine (cUsed H5.out.cv 2 60 (by decide)).mono ?_
  rintro e w6 ⟨rfl, rfl⟩
  go_wp2_with fail
  refine (oBack (H5.out.alloc _) (by decide) is4 (H5.out.lit [3, 1] 2 rfl (by decide))).mono ?_
  rintro e w7 ⟨rfl, h7, _⟩
  have H7 := Lib.hid h7
  clear h7
  go_wp2_with fail
  refine (oBack (H7.out.alloc _) (by decide) is5 (H7.out.lit [3, 1] 2 rfl (by decide))).mono ?_
  rintro e w8 ⟨rfl, h8, _⟩
  have H8 := Lib.hid h8
  clear h8
  go_wp2_with fail
  refine (cUsed H8.out.cv 1 0 (by decide)).mono ?_
  rintro e w9 ⟨rfl, rfl⟩
  go_wp2_with fail
  refine (cUsed H8.out.cv 2 60 (by decide)).mono ?_
  rintro e w10 ⟨rfl, rfl⟩
  go_wp2_with fail
  refine (oTry (H8.out.alloc _) (by decide) is6 (H8.out.lit [1, 1] 2 rfl (by decide))).mono ?_
  rintro e w11 ⟨rfl, h11, _⟩
  have H11 := Lib.hid h11
  clear h11
  go_wp2_with fail
  refine (oUp H11.out is7).mono ?_
  rintro e w12 ⟨rfl, h12, _⟩
  have H12 := Lib.hid h12
  clear h12
  go_wp2_with fail
  refine (oUp H12.out is8).mono ?_
  rintro e w13 ⟨rfl, h13, _⟩
  have H13 := Lib.hid h13
  clear h13
  go_wp2_with fail
  refine (oDown H13.out is9).mono ?_
  rintro e w14 ⟨rfl, h14, _⟩
  have H14 := Lib.hid h14
  clear h14
  go_wp2
  go_ret
  exact ⟨rfl, H14.out.low⟩
/-- a group's path, by halves -/
def pthN (z : Nat) : List Nat := [z, z / 2, z / 4, z / 8, z / 16].filter (fun k => decide (1 ≤ k))
def pth (z : Nat) : List Int := (pthN z).map Int.ofNat
theorem pth_next : ∀ z, z < 17 → 1 ≤ z → pth z = (z : Int) :: pth (z / 2) := by decide
theorem pth_path : ∀ z, z < 17 → 1 ≤ z → (1 ≤ (pth z).length ∧ (pth z).length ≤ 8) ∧ (∀ i, i < (pth z).length → isG (pk (pth z) i)) ∧ (∀ i, i < (pth z).length → pk (pth z) i ∉ (pth z).take i) := by decide
theorem pth_is {z : Nat} (h1 : 1 ≤ z) (h2 : z < 17) : IsPath (pth z) := by
  obtain ⟨⟨a, b⟩, c, d⟩ := pth_path z h2 h1
  exact ⟨a, b, c, d⟩
theorem pth_err : ∀ z, z < 17 → 1 ≤ z → pathE (pth z) = 0 := by decide
theorem pth_ask {z : Nat} {n : Int} (h1 : 1 ≤ z) (h2 : z < 17) (hn : isN n) : askP (pth z) n = 0 := by
  unfold askP
  rw [pth_err z h2 h1]
  simp [hn]
set_option maxHeartbeats 2000000 in
set_option maxRecDepth 100000 in
theorem cPth (x : Int) (z : Nat) (hz : bring x 16 + 1 = z) (W : World) : Calls Try.prog 22 #[.int .i64 x] W fun e w' => ∃ v, e = .returned v ∧ OwnI W.heap.size w' v (pth z) ∧ Below W.heap.size W w' := by
  have hz16 : z ≤ 16 := by have := bring_lt x 16 (by decide); omega
  have HZ := Lib.hid hz
  clear hz
  go_enter Try.func22, Try.ntmps22
  go_wp2_with fail
  refine (cBringN x 16 16 rfl (by decide) _).mono ?_
  rintro e w1 ⟨rfl, rfl⟩
  have hbr : IntKind.i64.wrap (1 + (bring x 16 : Int)) = (z : Int) := by rw [IntWalk.i64_in _ (by have := HZ.out; omega)]; have := HZ.out; omega
  go_wp2
  go_loopw [0, 3] (fun i v wr => ∃ (k : Nat) (l : List Int), k ≤ 16 ∧ i = .int .i64 k ∧ l ++ pth k = pth z ∧ Hid (OwnI w1.heap.size wr v l) ∧ Hid (Below w1.heap.size w1 wr)) (fun i _ _ => (intOf i).toNat)
  case atStart => exact ⟨z, [], hz16, by first | rfl | go_num, rfl, Lib.hid (OwnI.nil _ _), Lib.hid (Below.refl _ _)⟩
  case round =>
    obtain ⟨k, l, hk, rfl, hl, HO, HBr⟩ := hrel
    by_cases hk1 : 1 ≤ k
    · have hk2 : (1 : Int) ≤ (k : Int) := by omega
      have hdiv : (k : Int).tdiv 2 = ((k / 2 : Nat) : Int) := by rw [Int.tdiv_eq_ediv_of_nonneg (by omega)]; omega
      have HL : Hid ((l ++ [(k : Int)]) ++ pth (k / 2) = pth z) := Lib.hid (by rw [← hl, pth_next k (by omega) hk1, List.append_assoc]; rfl)
      have hlen : l.length ≤ 8 := by
        have h1 := congrArg List.length hl
        rw [List.length_append] at h1
        by_cases h0 : 1 ≤ z
        · have := (pth_is h0 (by omega)).n2
          omega
        · have : z = 0 := by omega
          subst this
          have : (pth 0).length = 0 := by decide
          omega
      clear hl
      have hsz := HBr.out.size
      have HLT := Lib.hid (lit_i wr 3 [(k : Int)] 1 rfl (by decide))
      have HO1 := Lib.hid (HO.out.below (below_one (Below.refl _ wr) (.cells (nms [(k : Int)]).toArray 3)))
      go_wp2_with (at_builtin; refine wpList_appendI (by rfl) _ _ (by rfl) w1.heap.size _ _ l [(k : Int)] (l ++ [(k : Int)]).length (by rfl) (by rfl) HO1.out HLT.out (by simp; omega) (by rw [size_alloc]; omega) rfl ?_)
      intro ao cap w3 ho hb3
      have HO3 := Lib.hid ho
      have HB3 := Lib.hid ((below_one HBr.out _).trans hb3)
      clear ho hb3
      go_wp2
      go_roundw
      case rel => exact ⟨k / 2, l ++ [(k : Int)], by omega, by first | rfl | go_num, HL.out, HO3, HB3⟩
      case measure => simp [intOf]; omega
    · obtain rfl : k = 0 := by omega
      have HY : Hid (OwnI w1.heap.size wr _ (pth z)) := Lib.hid (by have h0 : pth 0 = [] := by decide
                                                                    rw [h0, List.append_nil] at hl
                                                                    rw [← hl]
                                                                    exact HO.out)
      go_wp2
      go_ret
      exact ⟨_, rfl, HY.out, HBr.out⟩
end Go.Proofs.Ytahkfagfobfliaa
