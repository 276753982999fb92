/-
  A tree of the document's answer in a world; has, Many, Parent, Online, Path, Depth, Heir, Below.
-/
import Derived.Test.YtbdlkglngjjpjaaAdd
set_option linter.unusedVariables false
set_option linter.unusedSimpArgs false
namespace Go.Proofs.Ytbdlkglngjjpjaa
open Go Go.RowKit

structure RX (w : World) (B g1 c1 n1 : Nat) (f1 : Nat → Value) (g2 c2 n2 : Nat) (f2 : Nat → Value) : Prop where
  box : w.heap[B]? = some (.cells #[.slice (some ⟨g1, 0, none⟩) n1 c1, .slice (some ⟨g2, 0, none⟩) n2 c2] 54 (0, 0))
  ups : RowF w 3 1 g1 c1 n1 f1
  ons : RowF w 4 1 g2 c2 n2 f2
def OwnR (B g1 g2 : Nat) (k : Nat) : Prop := k = B ∨ k = g1 ∨ k = g2
def upF (t : Tr) (j : Nat) : Value := .int .i64 ((t.up j : Nat) : Int)
def onF (t : Tr) (j : Nat) : Value := .bool (t.on j)
def RT (w : World) (B g1 c1 g2 c2 : Nat) (t : Tr) : Prop := RX w B g1 c1 (t.n + 1) (upF t) g2 c2 (t.n + 1) (onF t)
def tysR : List TypeId := [54, 3, 4]
section
variable {S : Nat → Prop} {w w' w1 : World} {B g1 c1 n1 g2 c2 n2 g c n : Nat} {f1 f2 f : Nat → Value} {t t' : Tr} {x : Int}
theorem RX.c0 (h : RX w B g1 c1 n1 f1 g2 c2 n2 f2) : w.cell? ⟨B, 0, none⟩ = some (.slice (some ⟨g1, 0, none⟩) n1 c1) := self_cell h.box 0 _ rfl
theorem RX.cc1 (h : RX w B g1 c1 n1 f1 g2 c2 n2 f2) : w.cell? ⟨B, 1, none⟩ = some (.slice (some ⟨g2, 0, none⟩) n2 c2) := self_cell h.box 1 _ rfl
theorem RX.fb (h : RX w B g1 c1 n1 f1 g2 c2 n2 f2) (i : Nat) : w.frozen? ⟨B, i, none⟩ = false := self_free h.box i
theorem RX.lt (h : RX w B g1 c1 n1 f1 g2 c2 n2 f2) : B < w.heap.size ∧ g1 < w.heap.size ∧ g2 < w.heap.size := ⟨lt_of_block h.box, h.ups.lt, h.ons.lt⟩
theorem RX.caps (h : RX w B g1 c1 n1 f1 g2 c2 n2 f2) : (n1 ≤ c1 ∧ c1 ≤ 9223372036854775807) ∧ (n2 ≤ c2 ∧ c2 ≤ 9223372036854775807) := by
  obtain ⟨_, _, h1⟩ := h.ups.block
  obtain ⟨_, _, h2⟩ := h.ons.block
  exact ⟨h1, h2⟩
theorem RX.typ (h : RX w B g1 c1 n1 f1 g2 c2 n2 f2) : ∀ k, OwnR B g1 g2 k → Typ w tysR k := by
  rintro k (rfl | rfl | rfl)
  · exact ⟨_, _, _, h.box, by decide⟩
  · exact h.ups.typ (by decide)
  · exact h.ons.typ (by decide)
theorem RX.kept {Ts : List TypeId} (h : RX w B g1 c1 n1 f1 g2 c2 n2 f2) (hk : Kept S w w') (hS : ∀ k, S k → Typ w Ts k) (hT : ∀ T ∈ tysR, T ∉ Ts) : RX w' B g1 c1 n1 f1 g2 c2 n2 f2 :=
  ⟨box_kept h.box hk hS (hT _ (by decide)), h.ups.kept hk hS (hT _ (by decide)), h.ons.kept hk hS (hT _ (by decide))⟩
theorem RX.below (h : RX w B g1 c1 n1 f1 g2 c2 n2 f2) (hb : Below w.heap.size w w') : RX w' B g1 c1 n1 f1 g2 c2 n2 f2 :=
  h.kept (S := fun _ => False) (Ts := []) (Kept.ofBelow hb) (fun _ e => e.elim) (by simp)
theorem RT.below (h : RT w B g1 c1 g2 c2 t) (hb : Below w.heap.size w w') : RT w' B g1 c1 g2 c2 t := RX.below h hb
theorem RT.cu (h : RT w B g1 c1 g2 c2 t) {k : Nat} (hk : k ≤ t.n) : w.cell? ⟨g1, k, none⟩ = some (.int .i64 ((t.up k : Nat) : Int)) := RowF.cell (RX.ups h) (by omega)
theorem RT.co (h : RT w B g1 c1 g2 c2 t) {k : Nat} (hk : k ≤ t.n) : w.cell? ⟨g2, k, none⟩ = some (.bool (t.on k)) := RowF.cell (RX.ons h) (by omega)
set_option maxHeartbeats 1000000 in
theorem rHasD (h : RT w B g1 c1 g2 c2 t) (x : Int) (q : Bool) (hq : decide (1 ≤ x ∧ x ≤ t.n) = q) :
    Calls Try.prog 26 #[.pointer (some ⟨B, 0, none⟩), .int .i64 x] w fun e w' => e = .returned (.bool q) ∧ w' = w := by
  have c0 := RX.c0 h
  have HQ := Lib.hid hq
  generalize t.n = N at *
  clear h hq
  by_cases h0 : 1 ≤ x
  · by_cases h2 : x < ((N + 1 : Nat) : Int)
    · have HY : Hid (true = q) := Lib.hid (by rw [← HQ.out]; exact (decide_eq_true ⟨h0, by omega⟩).symm)
      obtain ⟨M, hM⟩ : ∃ M, N + 1 = M := ⟨_, rfl⟩
      rw [hM] at c0 h2
      clear hM HQ
      go_enter Try.func26, Try.ntmps26
      go_wp2
      go_ret
      exact ⟨ret_bool HY.out, rfl⟩
    · have HY : Hid (false = q) := Lib.hid (by rw [← HQ.out]; exact (decide_eq_false (fun e => h2 (by omega))).symm)
      obtain ⟨M, hM⟩ : ∃ M, N + 1 = M := ⟨_, rfl⟩
      rw [hM] at c0 h2
      clear hM HQ
      go_enter Try.func26, Try.ntmps26
      go_wp2
      go_ret
      exact ⟨ret_bool HY.out, rfl⟩
  · have HY : Hid (false = q) := Lib.hid (by rw [← HQ.out]; exact (decide_eq_false (fun e => h0 e.1)).symm)
    go_enter Try.func26, Try.ntmps26
    go_wp2
    go_ret
    exact ⟨ret_bool HY.out, rfl⟩
theorem rHasYes (h : RT w B g1 c1 g2 c2 t) (k : Nat) (hk : 1 ≤ k ∧ k ≤ t.n) :
    Calls Try.prog 26 #[.pointer (some ⟨B, 0, none⟩), .int .i64 (k : Int)] w fun e w' => e = .returned (.bool true) ∧ w' = w := rHasD h _ _ (decide_eq_true (by omega))
theorem rHasNo (h : RT w B g1 c1 g2 c2 t) (x : Int) (hx : ¬ (1 ≤ x ∧ x ≤ t.n)) :
    Calls Try.prog 26 #[.pointer (some ⟨B, 0, none⟩), .int .i64 x] w fun e w' => e = .returned (.bool false) ∧ w' = w := rHasD h _ _ (decide_eq_false hx)
set_option maxHeartbeats 1000000 in
theorem rMany (h : RT w B g1 c1 g2 c2 t) :
    Calls Try.prog 27 #[.pointer (some ⟨B, 0, none⟩)] w fun e w' => e = .returned (.int .i64 t.n) ∧ w' = w := by
  have c0 := RX.c0 h
  obtain ⟨⟨hc, hc2⟩, _⟩ := RX.caps h
  have hM : ((t.n + 1 : Nat) : Int) - 1 = t.n := by omega
  obtain ⟨M, hM1⟩ : ∃ M, t.n + 1 = M := ⟨_, rfl⟩
  rw [hM1] at c0 hc hM
  have hpos : 1 ≤ M := by omega
  clear h hM1
  go_enter Try.func27, Try.ntmps27
  go_wp2
  go_ret
  exact ⟨rfl, rfl⟩
/-- the numbers of groups -/
theorem nu_is (n : Nat) (x : Int) : (∃ k : Nat, (1 ≤ k ∧ k ≤ n) ∧ x = (k : Int) ∧ nu n x = k) ∨ (¬ (1 ≤ x ∧ x ≤ n) ∧ nu n x = 0) := by
  rcases nu_cases n x with ⟨k, hk, rfl, hn⟩ | h
  · exact .inl ⟨k + 1, by omega, by omega, hn⟩
  · exact .inr h
set_option maxHeartbeats 1000000 in
theorem rParent (h : RT w B g1 c1 g2 c2 t) (hI : TI t) (x : Int) (u : Int) (hu : ((t.up (nu t.n x) : Nat) : Int) = u) :
    Calls Try.prog 30 #[.pointer (some ⟨B, 0, none⟩), .int .i64 x] w fun e w' => e = .returned (.int .i64 u) ∧ w' = w := by
  have HA := Lib.hid h
  rcases nu_is t.n x with ⟨k, hk, rfl, hn⟩ | ⟨hx, hn⟩
  · rw [hn] at hu
    have c0 := RX.c0 h
    have cu := h.cu hk.2
    rw [hu] at cu
    have HK := Lib.hid hk
    have hkn : k < t.n + 1 := by omega
    obtain ⟨M, hM⟩ : ∃ M, t.n + 1 = M := ⟨_, rfl⟩
    rw [hM] at c0 hkn
    clear h hI hn hu hM hk
    go_enter Try.func30, Try.ntmps30
    go_wp2_with fail
    refine (rHasYes HA.out k HK.out).mono ?_
    rintro e w1 ⟨rfl, rfl⟩
    go_wp2
    go_ret
    exact ⟨rfl, rfl⟩
  · rw [hn, hI.up0] at hu
    subst hu
    clear h hI hn
    go_enter Try.func30, Try.ntmps30
    go_wp2_with fail
    refine (rHasNo HA.out x hx).mono ?_
    rintro e w1 ⟨rfl, rfl⟩
    go_wp2
    go_ret
    exact ⟨rfl, rfl⟩
set_option maxHeartbeats 1000000 in
theorem rOnline (h : RT w B g1 c1 g2 c2 t) (hI : TI t) (x : Int) (q : Bool) (hq : t.on (nu t.n x) = q) :
    Calls Try.prog 31 #[.pointer (some ⟨B, 0, none⟩), .int .i64 x] w fun e w' => e = .returned (.bool q) ∧ w' = w := by
  have HA := Lib.hid h
  rcases nu_is t.n x with ⟨k, hk, rfl, hn⟩ | ⟨hx, hn⟩
  · rw [hn] at hq
    have c1 := RX.cc1 h
    have co := h.co hk.2
    rw [hq] at co
    have HK := Lib.hid hk
    have hkn : k < t.n + 1 := by omega
    obtain ⟨M, hM⟩ : ∃ M, t.n + 1 = M := ⟨_, rfl⟩
    rw [hM] at c1 hkn
    clear h hI hn hq hM hk
    go_enter Try.func31, Try.ntmps31
    go_wp2_with fail
    refine (rHasYes HA.out k HK.out).mono ?_
    rintro e w1 ⟨rfl, rfl⟩
    go_wp2
    go_ret
    exact ⟨rfl, rfl⟩
  · rw [hn, hI.on0] at hq
    subst hq
    clear h hI hn
    go_enter Try.func31, Try.ntmps31
    go_wp2_with fail
    refine (rHasNo HA.out x hx).mono ?_
    rintro e w1 ⟨rfl, rfl⟩
    go_wp2
    go_ret
    exact ⟨rfl, rfl⟩
theorem path_len16 (hI : TI t) (k : Nat) : (path t k).length ≤ 8 := by
  by_cases h : k ≤ t.n
  · exact hI.dep k h
  · rw [path_no (by omega)]; simp
set_option maxHeartbeats 2000000 in
set_option maxRecDepth 100000 in
theorem rPath (h : RT w B g1 c1 g2 c2 t) (hI : TI t) {l : List Int} (hl : ints (path t (nu t.n x)) = l) :
    Calls Try.prog 34 #[.pointer (some ⟨B, 0, none⟩), .int .i64 x] w (GivesI w l) := by
  subst hl
  have HA := Lib.hid h
  have HI := Lib.hid hI
  obtain ⟨i0, hi, hz0, hz1, hz2⟩ := info_parts infoI
  clear h hI
  go_enter Try.func34, Try.ntmps34
  go_wp2
  go_loopw [1, 5] (fun i v wr => ∃ (y : Int) (pre : List Nat), i = .int .i64 y ∧ Hid (pre ++ path t (nu t.n y) = path t (nu t.n x)) ∧ Hid (OwnI w.heap.size wr v (ints pre)) ∧ Below w.heap.size w wr) (fun i _ _ => nu t.n (intOf i))
  case atStart => exact ⟨x, [], rfl, Lib.hid rfl, Lib.hid (OwnI.nil _ _), Below.refl _ _⟩
  case round =>
    obtain ⟨y, pre, rfl, HP, HO, hb⟩ := hrel
    have HR := Lib.hid (HA.out.below hb)
    rcases nu_is t.n y with ⟨k, hk, rfl, hny⟩ | ⟨hx, hny⟩
    · have HNY := Lib.hid hny
      have HK := Lib.hid hk
      have c0 := RX.c0 HR.out
      have cu := HR.out.cu hk.2
      have hBlt := HR.out.lt.1
      have hglt := HR.out.lt.2.1
      have hkn : k < t.n + 1 := by omega
      have HLEN : Hid (pre.length ≤ 8) := Lib.hid (by
        have h1 := path_len16 HI.out (nu t.n x)
        rw [← HP.out, List.length_append] at h1
        omega)
      have HP1 : Hid ((pre ++ [k]) ++ path t (nu t.n ((t.up k : Nat) : Int)) = path t (nu t.n x)) := Lib.hid (by
        rw [← HP.out, hny, path_yes HI.out hk.1 hk.2]
        have h2 := HI.out.up_lt hk.1 hk.2
        have h3 : path t (nu t.n ((t.up k : Nat) : Int)) = path t (t.up k) := by
          by_cases e : t.up k = 0
          · rw [e, nu_nat0]
          · rw [nu_yes (by omega)]
        rw [h3]
        simp)
      have HM : Hid (nu t.n ((t.up k : Nat) : Int) < nu t.n ((k : Nat) : Int)) := Lib.hid (by
        have h1 := HI.out.up_lt hk.1 hk.2
        have h2 := nu_nat_le t.n (t.up k)
        omega)
      obtain ⟨xs, hxs⟩ : ∃ xs, nms (ints pre) = xs := ⟨_, rfl⟩
      obtain ⟨N, hN⟩ : ∃ N, pre.length = N := ⟨_, rfl⟩
      have hown : wr.ownsRow w.heap.size 3 1 u5 N xs := by
        have h1 := HO.out
        unfold OwnI at h1
        rw [List.length_map, hN, hxs] at h1
        exact h1
      have HL := Lib.hid (And.intro hxs hN)
      have hz := hb.size
      obtain ⟨a5, cp5, rfl, _⟩ := own_shape hown
      have HOW := Lib.hid hown
      rw [hN] at HLEN
      obtain ⟨M, hM⟩ : ∃ M, t.n + 1 = M := ⟨_, rfl⟩
      rw [hM] at c0 hkn
      clear hk hny hown hxs hN HO HP hM
      go_wp2_with fail
      refine (rHasYes HR.out k HK.out).mono ?_
      rintro e w1 ⟨rfl, rfl⟩
      go_wp2_with (at_builtin; refine wpList_append_own_at _ (by rfl) _ _ 39 (by rfl) w.heap.size 3 i0 _ 1 8 Try.underlying39 hi hz0 hz1 hz2 (by rfl) (by decide) _ N xs (by rfl) (HOW.out.alloc _) ⟨_, 0, none⟩ 1 1 [.int .i64 (k : Int)] (by rfl) (by rfl) (cell_one_new _ _ _) (by intro u hu; simp at hu; subst hu; rfl) (by unfold maxLen; have := HLEN.out; omega) (by have := HLEN.out; omega) (by rw [size_alloc]; omega) ?_)
      intro v' w3 hown' hgrow hnil hwhere
      have hb3 : Below w.heap.size w w3 := (below_one hb _).grown hgrow (by rw [size_alloc]; omega) (own_ge HOW.out)
      have HB3 := Lib.hid hb3
      have HO3 : Hid (OwnI w.heap.size w3 v' (ints (pre ++ [k]))) := Lib.hid (by
        unfold OwnI
        rw [List.length_map, List.length_append, HL.out.2, show nms (ints (pre ++ [k])) = xs ++ [.int .i64 (k : Int)] by rw [← HL.out.1]; simp [nms, ints]]
        exact hown')
      have HR3 := Lib.hid (HA.out.below hb3)
      have c03 := RX.c0 HR3.out
      have cu3 := HR3.out.cu HK.out.2
      obtain ⟨M3, hM3⟩ : ∃ M, t.n + 1 = M := ⟨_, rfl⟩
      rw [hM3] at c03
      have hkn3 : k < M3 := by have := HK.out; omega
      clear hown' hgrow hnil hwhere hb hb3 c0 cu hM3 hkn
      go_wp2
      go_roundw
      case rel => exact ⟨_, _, rfl, HP1, HO3, HB3.out⟩
      case measure =>
        simp only [intOf]
        exact HM.out
    · have HE : Hid (pre = path t (nu t.n x)) := Lib.hid (by have := HP.out; rw [hny, path_zero, List.append_nil] at this; exact this)
      obtain ⟨a5, cp5, rfl, _⟩ := own_shape HO.out
      clear hny
      go_wp2_with fail
      refine (rHasNo HR.out y hx).mono ?_
      rintro e w1 ⟨rfl, rfl⟩
      go_wp2
      go_ret
      refine ⟨a5, cp5, ?_, ?_, hb⟩
      · rw [← HE.out, List.length_map]; rfl
      · rw [← HE.out]; exact HO.out
set_option maxHeartbeats 1000000 in
theorem rDepth (h : RT w B g1 c1 g2 c2 t) (hI : TI t) {d : Nat} (hd : (path t (nu t.n x)).length = d) :
    Calls Try.prog 28 #[.pointer (some ⟨B, 0, none⟩), .int .i64 x] w fun e w' => e = .returned (.int .i64 d) ∧ Below w.heap.size w w' := by
  have HA := Lib.hid h
  have HI := Lib.hid hI
  obtain ⟨l, hl⟩ : ∃ l, ints (path t (nu t.n x)) = l := ⟨_, rfl⟩
  have HL := Lib.hid hl
  have HD : Hid ((l.length : Int) = d) := Lib.hid (by rw [← hl, List.length_map, hd])
  clear h hI hl hd
  go_enter Try.func28, Try.ntmps28
  go_wp2_with fail
  refine (rPath HA.out HI.out HL.out).mono ?_
  rintro e w1 ⟨ao, cap, rfl, hown, hb⟩
  clear hown
  go_wp2
  go_ret
  exact ⟨ret_int HD.out, hb⟩
end
end Go.Proofs.Ytbdlkglngjjpjaa
