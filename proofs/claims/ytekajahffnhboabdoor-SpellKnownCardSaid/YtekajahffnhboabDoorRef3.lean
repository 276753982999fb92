/-
  What the document's own Fold, Same, Less and Cut answer, and the small helpers of the statements: great, one.
-/
import Derived.Test.YtekajahffnhboabDoorRef2
import Derived.Deep.Cut
import Derived.Deep.CutRange
set_option linter.unusedVariables false
set_option linter.unusedSimpArgs false
namespace Go.Proofs.YtekajahffnhboabDoor
open Go Go.RowKit

theorem part_set (rs : List Int) (k : Nat) (hk : k < rs.length) : (cells (sp.folds (rs.take k) ++ rs.drop k)).set k (.int .i32 (sp.fold (rs.getD k 0))) = cells (sp.folds (rs.take (k + 1)) ++ rs.drop (k + 1)) := by
  have hl : (sp.folds (rs.take k)).length = k := by simp [sp.folds]; omega
  have e1 : rs.drop k = rs.getD k 0 :: rs.drop (k + 1) := by
    rw [List.getD_eq_getElem?_getD, List.getElem?_eq_getElem hk]
    exact List.drop_eq_getElem_cons hk
  have e2 : sp.folds (rs.take (k + 1)) = sp.folds (rs.take k) ++ [sp.fold (rs.getD k 0)] := by
    rw [List.getD_eq_getElem?_getD, List.getElem?_eq_getElem hk]
    unfold sp.folds
    rw [List.take_succ_eq_append_getElem hk, List.map_append]
    rfl
  unfold cells
  rw [e2, e1, List.map_append, List.set_append_right _ _ (by simp [hl])]
  simp [hl]
theorem part_len (rs : List Int) (k : Nat) : (sp.folds (rs.take k) ++ rs.drop k).length = rs.length := by
  simp [sp.folds]
  omega
theorem part_getD (rs : List Int) (k : Nat) (hk : k < rs.length) : (sp.folds (rs.take k) ++ rs.drop k).getD k 0 = rs.getD k 0 := by
  have hl : (sp.folds (rs.take k)).length = k := by simp [sp.folds]; omega
  rw [List.getD_eq_getElem?_getD, List.getElem?_append_right (by omega), hl, Nat.sub_self, List.getElem?_drop, List.getD_eq_getElem?_getD]
  simp

set_option maxHeartbeats 4000000 in
set_option maxRecDepth 100000 in
theorem rFolded (s : ByteArray) (w : World) (hs : s.size ≤ 8796093022208) :
    Calls Tryd.prog 30 #[.string s] w fun e w' => ∃ v, e = .returned v ∧ w'.ownsRow w.heap.size 21 1 v (sp.at' s 0).length (cells (sp.folds (sp.at' s 0))) ∧ Below w.heap.size w w' := by
  have hal := sp.at_length s
  have hsc : ∀ r ∈ sp.at' s 0, sp.Sc r := by rw [sp.at_zero]; exact sp.runes_sc _
  have hrun := fun W => rRunes s W hs
  generalize sp.at' s 0 = rs at *
  go_enter Tryd.func30, Tryd.ntmps30
  go_wp2_with (go_at_call 24; refine (hrun _).mono ?_)
  rintro e W1 ⟨v, rfl, hown, b1⟩
  obtain ⟨ao, cap, rfl⟩ := own_form hown
  go_wp2
  go_loopw [4] (fun i wr => ∃ k : Nat, k ≤ rs.length ∧ i = .int .i64 k ∧ wr.ownsRow w.heap.size 21 1 (.slice ao rs.length cap) rs.length (cells (sp.folds (rs.take k) ++ rs.drop k)) ∧ Below w.heap.size w wr) (fun i _ => rs.length - (intOf i).toNat)
  case atStart => exact ⟨0, by omega, rfl, by simpa [sp.folds] using hown, b1⟩
  case round =>
    obtain ⟨k, hk, rfl, hown2, hb2⟩ := hrel
    by_cases hlt : k < rs.length
    · obtain ⟨g, cap', hv, hg, hgs⟩ := own_form_pos hown2 (by omega)
      obtain ⟨rfl, rfl⟩ : ao = some ⟨g, 0, none⟩ ∧ cap = cap' := by simpa using hv
      clear hv
      have hck := own_cell hown2 k hlt (part_len rs k).symm
      rw [part_getD rs k hlt] at hck
      have hfz := hown2.frozenAt k
      have hst := hown2.stored k (.int .i32 (sp.fold (rs.getD k 0)))
      rw [part_set rs k hlt] at hst
      have hsk : sp.Sc (rs.getD k 0) := hsc _ (getD_mem rs k hlt)
      have hxk : 0 ≤ rs.getD k 0 ∧ rs.getD k 0 ≤ 1114111 := by unfold sp.Sc at hsk; omega
      obtain ⟨y, hy⟩ : ∃ y, rs.getD k 0 = y := ⟨_, rfl⟩
      rw [hy] at hxk hck hst
      clear hy hsk
      go_wp2_with (go_at_call 26; refine (rfold_any _ _ (by omega) (by omega)).mono ?_; rintro e w' ⟨rfl, rfl⟩)
      go_roundw
      case rel => exact ⟨k + 1, by omega, by go_num, hst.1, hb2.setCell (p := ⟨g, k, none⟩) hg _⟩
      case measure => simp [intOf]; omega
    · have hke : k = rs.length := by omega
      subst hke
      rw [List.take_length, List.drop_length, List.append_nil] at hown2
      go_wp2
      go_ret
      exact ⟨_, rfl, hown2, hb2⟩

theorem own_cap {w : World} {B n : Nat} {e : TypeId} {v : Value} {xs : List Value} (h : w.ownsRow B e 1 v n xs) : ∀ ao cap, v = .slice ao n cap → n ≤ cap := by
  rintro ao cap rfl
  rcases h.2 with ⟨hv, h0⟩ | ⟨g, cap', cur, hv, _, _, hc, _⟩
  · omega
  · simp at hv
    omega

/-- string(runes) of a row that the call owns -/
theorem conv_own {w : World} {B n : Nat} {ao : Option Addr} {cap : Nat} {rs : List Int} (h : w.ownsRow B 21 1 (.slice ao n cap) n (cells rs)) (hn : n = rs.length) (hsc : ∀ r ∈ rs, sp.Sc r) (k : Nat) (hk : k ≤ n) :
    (convert 33 9 (.slice ao k cap)).run Tryd.prog w = .ok (.string ⟨(sp.enc (rs.take k)).toArray⟩) w := by
  by_cases h0 : ao = none
  · subst h0
    have hk0 : k = 0 := by
      rcases h.2 with ⟨_, h0⟩ | ⟨g, cap, cur, hv, _⟩
      · omega
      · simp at hv
    subst hk0
    rw [run_convert_runes_nil w _ _ _ _ _ Tryd.underlying33 Tryd.underlying21 Tryd.underlying9]
    rfl
  · obtain ⟨g, rfl⟩ : ∃ g, ao = some ⟨g, 0, none⟩ := by
      rcases h.2 with ⟨hv, _⟩ | ⟨g, cap, cur, hv, _⟩
      · simp at hv; exact absurd hv.1 h0
      · simp at hv; exact ⟨g, hv.1⟩
    rw [run_convert_runes w _ _ _ ⟨g, 0, none⟩ k cap rs (by omega) Tryd.underlying33 Tryd.underlying21 Tryd.underlying9 ?_]
    · rw [sp.runesBytes_enc _ (sp.take_sc hsc k)]
    · intro j hj
      have := own_cell h j (by omega) hn
      have ha : (⟨g, 0, none⟩ : Addr).add j = ⟨g, j, none⟩ := by unfold Addr.add; split <;> simp_all
      rw [ha]
      exact this

set_option maxHeartbeats 1000000 in
theorem rFold (s : ByteArray) (w : World) (hs : s.size ≤ 8796093022208) :
    Calls Tryd.prog 15 #[.string s] w fun e w' => e = .returned (.string ⟨(sp.foldB s.data.toList).toArray⟩) ∧ Below w.heap.size w w' := by
  have hsc : ∀ r ∈ sp.folds (sp.at' s 0), sp.Sc r := by rw [sp.at_zero]; exact sp.folds_sc (sp.runes_sc _)
  have hl : (sp.folds (sp.at' s 0)).length = (sp.at' s 0).length := by simp [sp.folds]
  have HF : Hid (sp.enc (sp.folds (sp.at' s 0)) = sp.foldB s.data.toList) := Lib.hid (by rw [sp.at_zero]; rfl)
  have HL := Lib.hid hl
  clear hl
  go_enter Tryd.func15, Tryd.ntmps15
  go_wp2_with (go_at_call 30; refine (rFolded s _ hs).mono ?_)
  rintro e W1 ⟨v, rfl, hown, b1⟩
  obtain ⟨ao, cap, rfl⟩ := own_form hown
  have hcv := conv_own hown HL.out.symm hsc _ (Nat.le_refl _)
  rw [← HL.out, List.take_length, HF.out, HL.out] at hcv
  go_wp2
  go_ret
  exact ⟨rfl, b1⟩

set_option maxHeartbeats 1000000 in
theorem rSame (a b : ByteArray) (w : World) (ha : a.size ≤ 8796093022208) (hb : b.size ≤ 8796093022208) :
    Calls Tryd.prog 18 #[.string a, .string b] w fun e w' => e = .returned (.bool (sameB a.data.toList b.data.toList)) ∧ Below w.heap.size w w' := by
  go_enter Tryd.func18, Tryd.ntmps18
  go_wp2_with fail
  refine (rFold a _ ha).mono ?_
  rintro e W1 ⟨rfl, b1⟩
  have hz1 := b1.size
  go_wp2_with fail
  refine (rFold b _ hb).mono ?_
  rintro e W2 ⟨rfl, b2⟩
  go_wp2
  go_ret
  refine ⟨ret_bool ?_, b1.trans (b2.mono hz1)⟩
  simp only [toL, sameB]

/-- A row of the call's own stays through a call that leaves what lay as it lay. -/
theorem own_below {W W' : World} {B n size : Nat} {e : TypeId} {v : Value} {xs : List Value} (h : W.ownsRow B e size v n xs) (hb : Below W.heap.size W W') : W'.ownsRow B e size v n xs := by
  refine h.kept (grown_of_below hb) ?_
  by_cases hv : v.ownBlock = none
  · exact .inl hv
  · exact .inr hv

theorem rlt_drop (X Y : List Int) (k : Nat) (h1 : k < X.length) (h2 : k < Y.length) : sp.rlt (X.drop k) (Y.drop k) = (decide (X.getD k 0 < Y.getD k 0) || (decide (X.getD k 0 = Y.getD k 0) && sp.rlt (X.drop (k + 1)) (Y.drop (k + 1)))) := by
  rw [List.drop_eq_getElem_cons h1, List.drop_eq_getElem_cons h2, List.getD_eq_getElem?_getD, List.getElem?_eq_getElem h1, List.getD_eq_getElem?_getD, List.getElem?_eq_getElem h2]
  rfl
theorem rlt_end (X Y : List Int) (k : Nat) (h1 : k ≤ X.length) (h2 : k ≤ Y.length) (h : ¬ (k < X.length ∧ k < Y.length)) : sp.rlt (X.drop k) (Y.drop k) = decide (X.length < Y.length) := by
  by_cases hY : k = Y.length
  · subst hY
    rw [List.drop_length]
    have : decide (X.length < Y.length) = false := decide_eq_false (by omega)
    rw [this]
    cases X.drop Y.length <;> rfl
  · have hX : k = X.length := by omega
    subst hX
    rw [List.drop_length]
    have : decide (X.length < Y.length) = true := decide_eq_true (by omega)
    rw [this, List.drop_eq_getElem_cons (by omega)]
    rfl

set_option maxHeartbeats 8000000 in
set_option maxRecDepth 100000 in
theorem rLess (a b : ByteArray) (w : World) (ha : a.size ≤ 8796093022208) (hb : b.size ≤ 8796093022208) :
    Calls Tryd.prog 20 #[.string a, .string b] w fun e w' => e = .returned (.bool (sp.rlt (sp.folds (sp.at' a 0)) (sp.folds (sp.at' b 0)))) ∧ Below w.heap.size w w' := by
  have hal := sp.at_length a
  have hbl := sp.at_length b
  have hrunA := fun W => rFolded a W ha
  have hrunB := fun W => rFolded b W hb
  have eA : (sp.at' a 0).length = (sp.folds (sp.at' a 0)).length := by simp [sp.folds]
  have eB : (sp.at' b 0).length = (sp.folds (sp.at' b 0)).length := by simp [sp.folds]
  rw [eA] at hrunA hal
  rw [eB] at hrunB hbl
  clear eA eB
  generalize sp.folds (sp.at' a 0) = X at *
  generalize sp.folds (sp.at' b 0) = Y at *
  go_enter Tryd.func20, Tryd.ntmps20
  go_wp2_with fail
  refine (hrunA _).mono ?_
  rintro e W1 ⟨v1, rfl, hown1, b1⟩
  have hz1 := b1.size
  go_wp2_with fail
  refine (hrunB _).mono ?_
  rintro e W2 ⟨v2, rfl, hown2, b2⟩
  have hown1' := own_below hown1 b2
  have b12 := b1.trans (b2.mono hz1)
  obtain ⟨ao, cap, rfl⟩ := own_form hown1'
  obtain ⟨bo, cbp, rfl⟩ := own_form hown2
  clear hown1
  go_wp2
  go_loopw [7] (fun i wr => ∃ k m : Nat, k ≤ X.length ∧ k ≤ Y.length ∧ i = .int .i64 k ∧ wr = W2.drewN m ∧ sp.rlt (X.drop k) (Y.drop k) = sp.rlt X Y) (fun i _ => X.length - (intOf i).toNat)
  case atStart => exact ⟨0, 0, by omega, by omega, rfl, rfl, rfl⟩
  case round =>
    obtain ⟨k, m, hkX, hkY, rfl, rfl, hr⟩ := hrel
    have HR := Lib.hid hr
    clear hr
    by_cases hX : k < X.length
    · by_cases hY : k < Y.length
      · obtain ⟨g, cap', hv, hg, hgs⟩ := own_form_pos hown1' (by omega)
        obtain ⟨rfl, rfl⟩ : ao = some ⟨g, 0, none⟩ ∧ cap = cap' := by simpa using hv
        obtain ⟨g2, cap2, hv2, hg2, hgs2⟩ := own_form_pos hown2 (by omega)
        obtain ⟨rfl, rfl⟩ : bo = some ⟨g2, 0, none⟩ ∧ cbp = cap2 := by simpa using hv2
        clear hv hv2
        have hcx := own_cell hown1' k hX rfl
        have hcy := own_cell hown2 k hY rfl
        have HD := Lib.hid (rlt_drop X Y k hX hY)
        obtain ⟨x, hx⟩ : ∃ x, X.getD k 0 = x := ⟨_, rfl⟩
        obtain ⟨y, hy⟩ : ∃ y, Y.getD k 0 = y := ⟨_, rfl⟩
        rw [hx, hy] at HD
        rw [hx] at hcx
        rw [hy] at hcy
        clear hx hy
        by_cases hxy : x = y
        · subst hxy
          go_wp2
          go_quiet (fail)
          go_wp2
          go_roundw
          case rel => exact ⟨k + 1, _, by omega, by omega, by go_num, rfl, by rw [← HR.out, HD.out]; simp⟩
          case measure => simp [intOf]; omega
        · have hne : (x == y) = false := by simpa using hxy
          have hne' : (x != y) = true := by simpa using hxy
          go_wp2
          go_quiet (fail)
          go_wp2
          go_quiet (fail)
          go_wp2
          go_ret
          exact ⟨ret_bool (by rw [← HR.out, HD.out]; simp [hxy]), below_drewN (below_drewN (below_drewN b12 _) _) _⟩
      · have HE := Lib.hid (rlt_end X Y k hkX hkY (by omega))
        go_wp2
        go_ret
        exact ⟨ret_bool (by rw [← HR.out, HE.out]), below_drewN b12 _⟩
    · have HE := Lib.hid (rlt_end X Y k hkX hkY (by omega))
      go_wp2
      go_ret
      exact ⟨ret_bool (by rw [← HR.out, HE.out]), below_drewN b12 _⟩

set_option maxHeartbeats 4000000 in
theorem rCut (s : ByteArray) (n : Int) (w : World) (hs : s.size ≤ 8796093022208) (hn0 : -9223372036854775808 ≤ n) (hn1 : n ≤ 9223372036854775807) :
    Calls Tryd.prog 22 #[.string s, .int .i64 n] w fun e w' => e = .returned (.string ⟨(sp.cutB s.data.toList n).toArray⟩) ∧ Below w.heap.size w w' := by
  have hal := sp.at_length s
  have hsc : ∀ r ∈ sp.at' s 0, sp.Sc r := by rw [sp.at_zero]; exact sp.runes_sc _
  have HF : Hid (sp.enc ((sp.at' s 0).take n.toNat) = sp.cutB s.data.toList n) := Lib.hid (by rw [sp.at_zero]; rfl)
  have hrun := fun W => rRunes s W hs
  generalize sp.at' s 0 = rs at *
  go_enter Tryd.func22, Tryd.ntmps22
  go_wp2_with (go_at_call 24; refine (hrun _).mono ?_)
  rintro e W1 ⟨v, rfl, hown, b1⟩
  have hcap := own_cap hown
  obtain ⟨ao, cap, rfl⟩ := own_form hown
  have hcap := hcap ao cap rfl
  have hcv := conv_own hown rfl hsc (max 0 (min n (rs.length : Int))).toNat (by omega)
  have ht : rs.take (max 0 (min n (rs.length : Int))).toNat = rs.take n.toNat := by
    by_cases h : n ≤ rs.length
    · congr 1
      omega
    · rw [List.take_of_length_le (by omega), List.take_of_length_le (by omega)]
  rw [ht, HF.out] at hcv
  clear ht
  have h0 : 0 ≤ max 0 (min n (rs.length : Int)) := by omega
  have h2 : max 0 (min n (rs.length : Int)) ≤ cap := by omega
  go_wp2
  go_ret
  exact ⟨rfl, b1⟩

theorem up_yes {r : Int} (h : (97 ≤ r ∧ r ≤ 122) ∨ (224 ≤ r ∧ r ≤ 246) ∨ (945 ≤ r ∧ r ≤ 961)) : sp.up r = r - 32 := if_pos ((sp.small3_iff r).2 h)
theorem up_no {r : Int} (h : ¬ ((97 ≤ r ∧ r ≤ 122) ∨ (224 ≤ r ∧ r ≤ 246) ∨ (945 ≤ r ∧ r ≤ 961))) : sp.up r = r := if_neg (fun k => h ((sp.small3_iff r).1 k))
theorem one_cell (W : World) (x : Value) (t : TypeId) : ∀ (j : Nat) (u : Value), [x][j]? = some u → (W.alloc (.cells #[x] t)).cell? ((⟨W.heap.size, 0, none⟩ : Addr).add j) = some u := by
  intro j u hj
  match j, hj with
  | 0, hj => simp at hj; subst hj; simp [Addr.add]
theorem one_c2 (x : Int) : ∀ u ∈ [Value.int .i32 x], u.oneCell' = true := by intro u hu; simp at hu; subst hu; rfl
theorem le_alloc {B : Nat} {W : World} (h : B < W.heap.size) (o : Obj) : B ≤ (W.alloc o).heap.size := by simp; omega

/-- the helper of the statements: just one of three -/
def oneB (a b c : Bool) : Bool := a && !b && !c || !a && b && !c || !a && !b && c
set_option maxHeartbeats 4000000 in
set_option maxRecDepth 100000 in
theorem lGreat (s : ByteArray) (w : World) (hs : s.size ≤ 8796093022208) :
    Calls Tryd.prog 16 #[.string s] w fun e w' => e = .returned (.string ⟨(sp.greatB s.data.toList).toArray⟩) ∧ Below w.heap.size w w' := by
  obtain ⟨i0, hi, hz0, hz1, hz2⟩ := info_parts infoI32
  have hal := sp.at_length s
  have hsc : ∀ r ∈ (sp.at' s 0).map sp.up, sp.Sc r := by rw [sp.at_zero]; exact sp.ups_sc (sp.runes_sc _)
  have HF : Hid (sp.enc ((sp.at' s 0).map sp.up) = sp.greatB s.data.toList) := Lib.hid (by rw [sp.at_zero]; rfl)
  go_enter Tryd.func16, Tryd.ntmps16
  go_wp2
  go_loopw [3] (fun out wr => ∃ (pos : Nat) (acc : List Int), wr.heap[w.heap.size]? = some (.stringIter s pos) ∧ Below w.heap.size w wr ∧ wr.ownsRow w.heap.size 21 1 out acc.length (cells acc) ∧ acc ++ (sp.at' s pos).map sp.up = (sp.at' s 0).map sp.up) (fun _ wr => s.size - wr.iterPos w.heap.size)
  case atStart => exact ⟨0, [], iter_new w s, (Below.refl _ w).alloc (Nat.le_refl _) _, World.ownsRow_nil _ _ _ _, rfl⟩
  case round =>
    obtain ⟨pos, acc, hit, hbw, hown, hacc⟩ := hrel
    rename_i out
    have hlen : acc.length + (sp.at' s pos).length = (sp.at' s 0).length := by
      have := congrArg List.length hacc
      simpa using this
    have HA := Lib.hid hacc
    clear hacc
    by_cases hp : pos < s.size
    · have hnx : ∀ ty, (Instr.next (.pointer (some ⟨w.heap.size, 0, none⟩)) true ty).run Tryd.prog wr = _ := fun ty => Lib.run_next_any_at wr w.heap.size s pos ty hit hp
      have hwd := sp.width_pos s pos
      have hhi := sp.decode_hi s pos
      have hit2 := Lib.iterAt_heap wr w.heap.size s pos (pos + (Utf8.decode s pos).2) hit
      have hbw2 := Lib.below_iterAt hbw (k := w.heap.size) (Nat.le_refl _) s (pos + (Utf8.decode s pos).2)
      have hown2 := ownsRow_iterAt hown hit (pos + (Utf8.decode s pos).2)
      have hne := own_ne_iter hown2 hit2
      have hst := sp.at_step s pos hp
      have hlen2 : acc.length + 1 ≤ s.size := by rw [hst, List.length_cons] at hlen; omega
      have HS := Lib.hid hst
      have hK : w.heap.size < wr.heap.size := (Array.getElem?_eq_some_iff.1 hit).1
      clear hst hlen
      have hc3 : acc.length + 1 ≤ maxLen := by unfold maxLen; omega
      have hc4 : (acc.length + 1) * 4 ≤ 140737488355328 := by omega
      have hle : w.heap.size < (wr.iterAt w.heap.size s (pos + (Utf8.decode s pos).2)).heap.size := by rw [Lib.iterAt_size]; omega
      go_upto_region 7 with (fail)
      all_goals first
        | (have hu := up_yes (r := (Utf8.decode s pos).1) (by omega)
           have HU := Lib.hid hu
           clear hu
           go_wp2_with (at_builtin; refine wpList_append_own _ rfl _ _ 33 rfl w.heap.size 21 i0 (.int .i32 0) 1 4 Tryd.underlying33 hi hz0 hz1 hz2 rfl (by decide) _ _ _ rfl (hown2.alloc _) ⟨(wr.iterAt w.heap.size s (pos + (Utf8.decode s pos).2)).heap.size, 0, none⟩ 1 1 [.int .i32 ((Utf8.decode s pos).1 - 32)] rfl rfl (one_cell _ _ _) (one_c2 _) hc3 hc4 (le_alloc hle _) ?_))
        | (have hu := up_no (r := (Utf8.decode s pos).1) (by omega)
           have HU := Lib.hid hu
           clear hu
           go_wp2_with (at_builtin; refine wpList_append_own _ rfl _ _ 33 rfl w.heap.size 21 i0 (.int .i32 0) 1 4 Tryd.underlying33 hi hz0 hz1 hz2 rfl (by decide) _ _ _ rfl (hown2.alloc _) ⟨(wr.iterAt w.heap.size s (pos + (Utf8.decode s pos).2)).heap.size, 0, none⟩ 1 1 [.int .i32 ((Utf8.decode s pos).1)] rfl rfl (one_cell _ _ _) (one_c2 _) hc3 hc4 (le_alloc hle _) ?_))
      all_goals
        intro v' w2 hown' hgrow _
        have hit3 : w2.heap[w.heap.size]? = some (.stringIter s (pos + (Utf8.decode s pos).2)) := by
          rw [hgrow.block _ (by simp [Lib.iterAt_size]; omega) hne, Below.heap_alloc _ _ _ (by rw [Lib.iterAt_size]; omega)]
          exact hit2
        have hbw3 : Below w.heap.size w w2 := (hbw2.alloc (by rw [Lib.iterAt_size]; omega) _).grown hgrow (by simp [Lib.iterAt_size]; omega) (fun k hk => (hown2.lt k hk).1)
        go_wp2
        go_roundw
        case rel =>
          refine ⟨pos + (Utf8.decode s pos).2, acc ++ [sp.up ((Utf8.decode s pos).1 : Int)], hit3, hbw3, ?_, ?_⟩
          · rw [HU.out]
            simpa [cells] using hown'
          · rw [← HA.out, HS.out]
            simp
        case measure =>
          simp only [World.iterPos, hit3, hit]
          omega
    · have hnx : ∀ ty, (Instr.next (.pointer (some ⟨w.heap.size, 0, none⟩)) true ty).run Tryd.prog wr = _ := fun ty => Lib.run_next_end_at wr w.heap.size s pos ty hit hp
      have HE := Lib.hid (sp.at_end s pos hp)
      clear hlen
      obtain ⟨ao, cap, rfl⟩ := own_form hown
      have e : acc = (sp.at' s 0).map sp.up := by
        have := HA.out
        rw [HE.out, List.map_nil, List.append_nil] at this
        exact this
      have hcv := conv_own hown rfl (by rw [e]; exact hsc) _ (Nat.le_refl _)
      rw [List.take_length] at hcv
      have HG : Hid (sp.enc acc = sp.greatB s.data.toList) := Lib.hid (by rw [e]; exact HF.out)
      rw [HG.out] at hcv
      clear e
      go_wp2
      go_ret
      exact ⟨rfl, hbw⟩
end Go.Proofs.YtekajahffnhboabDoor
