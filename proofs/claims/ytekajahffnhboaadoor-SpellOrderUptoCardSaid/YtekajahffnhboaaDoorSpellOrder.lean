/-
  The law SpellOrder (of any two texts just one is Less, or both are the Same; Less goes through) returns true for any three texts, where the arguments hold together at most 1048576 values and letters.
-/
import Derived.Test.YtekajahffnhboaaDoorWorks
import Derived.Test.YtekajahffnhboaaDoorCards
import Derived.Test.YtekajahffnhboaaDoorTie
import Derived.Deep.DeepHandedRow
set_option linter.unusedVariables false
set_option linter.unusedSimpArgs false
namespace Go.Proofs.YtekajahffnhboaaDoor.fnSpellOrder
open Go Go.Proofs.YtekajahffnhboaaDoor Go.ChangeShapes Go.WideShapes Go.ChangeMaps Go.RowKit

theorem less_self (a : List UInt8) : lessB a a = false := sp.bl_irrefl _
theorem same_self (a : List UInt8) : sameB a a = true := by simp [sameB]
theorem three (a b : List UInt8) : oneB (lessB a b) (lessB b a) (sameB a b) = true := by
  by_cases h : sp.foldB a = sp.foldB b
  · have h1 : lessB a b = false := by unfold lessB; rw [h]; exact sp.bl_irrefl _
    have h2 : lessB b a = false := by unfold lessB; rw [h]; exact sp.bl_irrefl _
    have h3 : sameB a b = true := by simp [sameB, h]
    rw [h1, h2, h3]
    rfl
  · have h3 : sameB a b = false := by simp [sameB, h]
    by_cases h1 : lessB a b = true
    · have h2 : lessB b a = false := sp.bl_asymm _ _ h1
      rw [h1, h2, h3]
      rfl
    · have h1' : lessB a b = false := by simpa using h1
      have h2 : lessB b a = true := sp.bl_total _ _ h h1'
      rw [h1', h2, h3]
      rfl
theorem through (a b c : List UInt8) (h1 : lessB a b = true) (h2 : lessB b c = true) : lessB a c = true := sp.bl_trans _ _ _ h1 h2
theorem same_less (a b c : List UInt8) (h : sameB a b = true) : lessB b c = lessB a c := by
  have e : sp.foldB a = sp.foldB b := by simpa [sameB] using h
  unfold lessB
  rw [e]

theorem wOne (w0 : World) (p q r v : Bool) (hv : oneB p q r = v) (w : World) (h : St w0 w) : Calls Tryd.prog 23 #[.bool p, .bool q, .bool r] w fun e w' => e = .returned (.bool v) ∧ St w0 w' := by
  refine (lOne p q r w).mono ?_
  rintro e w' ⟨rfl, rfl⟩
  exact ⟨ret_bool hv, h⟩

set_option maxHeartbeats 4000000 in
set_option maxRecDepth 100000 in
theorem walkA1 (a b c : ByteArray) (W : World) (ht : Tab W) (ha : a.size ≤ 1048576) (hb : b.size ≤ 1048576) (hc : c.size ≤ 1048576)
    (HP : Hid (lessB a.data.toList b.data.toList = true)) (HQ : Hid (lessB b.data.toList a.data.toList = false)) (HR : Hid (sameB a.data.toList b.data.toList = false)) (HX : Hid (lessB b.data.toList c.data.toList = true)) (HY : Hid (lessB a.data.toList c.data.toList = true)) :
    Calls Tryd.prog 7 #[.string a, .string b, .string c] W fun e w' => e = .returned (.bool true) ∧ Below W.heap.size W w' := by
  have h0 := St.start ht
  clear ht
  have HAA := Lib.hid (less_self a.data.toList)
  have HSA := Lib.hid (same_self a.data.toList)
  go_enter Tryd.func7, Tryd.ntmps7
  go_wp2_with fail
  refine (wLess W a b true (by omega) (by omega) HP.out _ h0).mono ?_
  rintro e w1 ⟨rfl, h1⟩
  clear h0
  go_wp2_with fail
  refine (wLess W b a false (by omega) (by omega) HQ.out _ h1).mono ?_
  rintro e w2 ⟨rfl, h2⟩
  clear h1
  go_wp2_with fail
  refine (wSame W a b false (by omega) (by omega) HR.out _ h2).mono ?_
  rintro e w3 ⟨rfl, h3⟩
  clear h2
  go_wp2_with fail
  refine (wOne W true false false true rfl _ h3).mono ?_
  rintro e w4 ⟨rfl, h4⟩
  clear h3
  go_wp2_with fail
  refine (wLess W a a false (by omega) (by omega) HAA.out _ h4).mono ?_
  rintro e w5 ⟨rfl, h5⟩
  clear h4
  go_wp2_with fail
  refine (wSame W a a true (by omega) (by omega) HSA.out _ h5).mono ?_
  rintro e w6 ⟨rfl, h6⟩
  clear h5
  go_wp2_with fail
  refine (wLess W a b true (by omega) (by omega) HP.out _ h6).mono ?_
  rintro e w7 ⟨rfl, h7⟩
  clear h6
  go_wp2_with fail
  refine (wLess W b c true (by omega) (by omega) HX.out _ h7).mono ?_
  rintro e w8 ⟨rfl, h8⟩
  clear h7
  go_wp2_with fail
  refine (wLess W a c true (by omega) (by omega) HY.out _ h8).mono ?_
  rintro e w9 ⟨rfl, h9⟩
  clear h8
  go_wp2_with fail
  refine (wSame W a b false (by omega) (by omega) HR.out _ h9).mono ?_
  rintro e w10 ⟨rfl, h10⟩
  clear h9
  go_wp2_with fail
  refine (works_any W _ h10).mono ?_
  rintro e w11 ⟨rfl, h11⟩
  clear h10
  go_wp2
  go_ret
  exact ⟨rfl, h11.2.2⟩

set_option maxHeartbeats 4000000 in
set_option maxRecDepth 100000 in
theorem walkA2 (a b c : ByteArray) (W : World) (ht : Tab W) (ha : a.size ≤ 1048576) (hb : b.size ≤ 1048576) (hc : c.size ≤ 1048576)
    (HP : Hid (lessB a.data.toList b.data.toList = true)) (HQ : Hid (lessB b.data.toList a.data.toList = false)) (HR : Hid (sameB a.data.toList b.data.toList = false)) (HX : Hid (lessB b.data.toList c.data.toList = false)) :
    Calls Tryd.prog 7 #[.string a, .string b, .string c] W fun e w' => e = .returned (.bool true) ∧ Below W.heap.size W w' := by
  have h0 := St.start ht
  clear ht
  have HAA := Lib.hid (less_self a.data.toList)
  have HSA := Lib.hid (same_self a.data.toList)
  go_enter Tryd.func7, Tryd.ntmps7
  go_wp2_with fail
  refine (wLess W a b true (by omega) (by omega) HP.out _ h0).mono ?_
  rintro e w1 ⟨rfl, h1⟩
  clear h0
  go_wp2_with fail
  refine (wLess W b a false (by omega) (by omega) HQ.out _ h1).mono ?_
  rintro e w2 ⟨rfl, h2⟩
  clear h1
  go_wp2_with fail
  refine (wSame W a b false (by omega) (by omega) HR.out _ h2).mono ?_
  rintro e w3 ⟨rfl, h3⟩
  clear h2
  go_wp2_with fail
  refine (wOne W true false false true rfl _ h3).mono ?_
  rintro e w4 ⟨rfl, h4⟩
  clear h3
  go_wp2_with fail
  refine (wLess W a a false (by omega) (by omega) HAA.out _ h4).mono ?_
  rintro e w5 ⟨rfl, h5⟩
  clear h4
  go_wp2_with fail
  refine (wSame W a a true (by omega) (by omega) HSA.out _ h5).mono ?_
  rintro e w6 ⟨rfl, h6⟩
  clear h5
  go_wp2_with fail
  refine (wLess W a b true (by omega) (by omega) HP.out _ h6).mono ?_
  rintro e w7 ⟨rfl, h7⟩
  clear h6
  go_wp2_with fail
  refine (wLess W b c false (by omega) (by omega) HX.out _ h7).mono ?_
  rintro e w8 ⟨rfl, h8⟩
  clear h7
  go_wp2_with fail
  refine (wSame W a b false (by omega) (by omega) HR.out _ h8).mono ?_
  rintro e w9 ⟨rfl, h9⟩
  clear h8
  go_wp2_with fail
  refine (works_any W _ h9).mono ?_
  rintro e w10 ⟨rfl, h10⟩
  clear h9
  go_wp2
  go_ret
  exact ⟨rfl, h10.2.2⟩

set_option maxHeartbeats 4000000 in
set_option maxRecDepth 100000 in
theorem walkB (a b c : ByteArray) (W : World) (ht : Tab W) (ha : a.size ≤ 1048576) (hb : b.size ≤ 1048576) (hc : c.size ≤ 1048576)
    (HP : Hid (lessB a.data.toList b.data.toList = false)) (HQ : Hid (lessB b.data.toList a.data.toList = true)) (HR : Hid (sameB a.data.toList b.data.toList = false)) :
    Calls Tryd.prog 7 #[.string a, .string b, .string c] W fun e w' => e = .returned (.bool true) ∧ Below W.heap.size W w' := by
  have h0 := St.start ht
  clear ht
  have HAA := Lib.hid (less_self a.data.toList)
  have HSA := Lib.hid (same_self a.data.toList)
  go_enter Tryd.func7, Tryd.ntmps7
  go_wp2_with fail
  refine (wLess W a b false (by omega) (by omega) HP.out _ h0).mono ?_
  rintro e w1 ⟨rfl, h1⟩
  clear h0
  go_wp2_with fail
  refine (wLess W b a true (by omega) (by omega) HQ.out _ h1).mono ?_
  rintro e w2 ⟨rfl, h2⟩
  clear h1
  go_wp2_with fail
  refine (wSame W a b false (by omega) (by omega) HR.out _ h2).mono ?_
  rintro e w3 ⟨rfl, h3⟩
  clear h2
  go_wp2_with fail
  refine (wOne W false true false true rfl _ h3).mono ?_
  rintro e w4 ⟨rfl, h4⟩
  clear h3
  go_wp2_with fail
  refine (wLess W a a false (by omega) (by omega) HAA.out _ h4).mono ?_
  rintro e w5 ⟨rfl, h5⟩
  clear h4
  go_wp2_with fail
  refine (wSame W a a true (by omega) (by omega) HSA.out _ h5).mono ?_
  rintro e w6 ⟨rfl, h6⟩
  clear h5
  go_wp2_with fail
  refine (wLess W a b false (by omega) (by omega) HP.out _ h6).mono ?_
  rintro e w7 ⟨rfl, h7⟩
  clear h6
  go_wp2_with fail
  refine (wSame W a b false (by omega) (by omega) HR.out _ h7).mono ?_
  rintro e w8 ⟨rfl, h8⟩
  clear h7
  go_wp2_with fail
  refine (works_any W _ h8).mono ?_
  rintro e w9 ⟨rfl, h9⟩
  clear h8
  go_wp2
  go_ret
  exact ⟨rfl, h9.2.2⟩

set_option maxHeartbeats 4000000 in
set_option maxRecDepth 100000 in
theorem walkC (a b c : ByteArray) (W : World) (ht : Tab W) (ha : a.size ≤ 1048576) (hb : b.size ≤ 1048576) (hc : c.size ≤ 1048576) (x : Bool)
    (HP : Hid (lessB a.data.toList b.data.toList = false)) (HQ : Hid (lessB b.data.toList a.data.toList = false)) (HR : Hid (sameB a.data.toList b.data.toList = true)) (HX : Hid (lessB b.data.toList c.data.toList = x)) (HY : Hid (lessB a.data.toList c.data.toList = x)) :
    Calls Tryd.prog 7 #[.string a, .string b, .string c] W fun e w' => e = .returned (.bool true) ∧ Below W.heap.size W w' := by
  have h0 := St.start ht
  clear ht
  have HAA := Lib.hid (less_self a.data.toList)
  have HSA := Lib.hid (same_self a.data.toList)
  have en : (x != x) = false := by simp
  go_enter Tryd.func7, Tryd.ntmps7
  go_wp2_with fail
  refine (wLess W a b false (by omega) (by omega) HP.out _ h0).mono ?_
  rintro e w1 ⟨rfl, h1⟩
  clear h0
  go_wp2_with fail
  refine (wLess W b a false (by omega) (by omega) HQ.out _ h1).mono ?_
  rintro e w2 ⟨rfl, h2⟩
  clear h1
  go_wp2_with fail
  refine (wSame W a b true (by omega) (by omega) HR.out _ h2).mono ?_
  rintro e w3 ⟨rfl, h3⟩
  clear h2
  go_wp2_with fail
  refine (wOne W false false true true rfl _ h3).mono ?_
  rintro e w4 ⟨rfl, h4⟩
  clear h3
  go_wp2_with fail
  refine (wLess W a a false (by omega) (by omega) HAA.out _ h4).mono ?_
  rintro e w5 ⟨rfl, h5⟩
  clear h4
  go_wp2_with fail
  refine (wSame W a a true (by omega) (by omega) HSA.out _ h5).mono ?_
  rintro e w6 ⟨rfl, h6⟩
  clear h5
  go_wp2_with fail
  refine (wLess W a b false (by omega) (by omega) HP.out _ h6).mono ?_
  rintro e w7 ⟨rfl, h7⟩
  clear h6
  go_wp2_with fail
  refine (wSame W a b true (by omega) (by omega) HR.out _ h7).mono ?_
  rintro e w8 ⟨rfl, h8⟩
  clear h7
  go_wp2_with fail
  refine (wLess W b c x (by omega) (by omega) HX.out _ h8).mono ?_
  rintro e w9 ⟨rfl, h9⟩
  clear h8
  go_wp2_with fail
  refine (wLess W a c x (by omega) (by omega) HY.out _ h9).mono ?_
  rintro e w10 ⟨rfl, h10⟩
  clear h9
  go_wp2_with fail
  refine (works_any W _ h10).mono ?_
  rintro e w11 ⟨rfl, h11⟩
  clear h10
  go_wp2
  go_ret
  exact ⟨rfl, h11.2.2⟩

theorem walk (a b c : ByteArray) (W : World) (ht : Tab W) (ha : a.size ≤ 1048576) (hb : b.size ≤ 1048576) (hc : c.size ≤ 1048576) :
    Calls Tryd.prog 7 #[.string a, .string b, .string c] W fun e w' => e = .returned (.bool true) ∧ Below W.heap.size W w' := by
  have h3 := three a.data.toList b.data.toList
  by_cases hs : sameB a.data.toList b.data.toList = true
  · have e1 : lessB a.data.toList b.data.toList = false := by
      cases h : lessB a.data.toList b.data.toList
      · rfl
      · rw [h, hs] at h3
        cases lessB b.data.toList a.data.toList <;> simp [oneB] at h3
    have e2 : lessB b.data.toList a.data.toList = false := by
      cases h : lessB b.data.toList a.data.toList
      · rfl
      · rw [h, hs, e1] at h3
        simp [oneB] at h3
    exact walkC a b c W ht ha hb hc _ (Lib.hid e1) (Lib.hid e2) (Lib.hid hs) (Lib.hid rfl) (Lib.hid (same_less _ _ _ hs).symm)
  · have hs' : sameB a.data.toList b.data.toList = false := by simpa using hs
    by_cases h1 : lessB a.data.toList b.data.toList = true
    · have e2 : lessB b.data.toList a.data.toList = false := by
        cases h : lessB b.data.toList a.data.toList
        · rfl
        · rw [h, hs', h1] at h3
          simp [oneB] at h3
      by_cases hx : lessB b.data.toList c.data.toList = true
      · exact walkA1 a b c W ht ha hb hc (Lib.hid h1) (Lib.hid e2) (Lib.hid hs') (Lib.hid hx) (Lib.hid (through _ _ _ h1 hx))
      · exact walkA2 a b c W ht ha hb hc (Lib.hid h1) (Lib.hid e2) (Lib.hid hs') (Lib.hid (by simpa using hx))
    · have h1' : lessB a.data.toList b.data.toList = false := by simpa using h1
      have e2 : lessB b.data.toList a.data.toList = true := by
        cases h : lessB b.data.toList a.data.toList
        · rw [h, hs', h1'] at h3
          simp [oneB] at h3
        · rfl
      exact walkB a b c W ht ha hb hc (Lib.hid h1') (Lib.hid e2) (Lib.hid hs')

theorem own : ownKnob Tryd.prog.godebug = none := by kernel_rfl

/-- What the bound gives: the texts are short. -/
theorem short {H : Type} {a : ByteArray} {b : ByteArray} {c : ByteArray} (hk : Rows.uptoSmall H [.lit (.string a.data.toList), .lit (.string b.data.toList), .lit (.string c.data.toList)] = true) : a.size ≤ 1048576 ∧ b.size ≤ 1048576 ∧ c.size ≤ 1048576 := by
  have h : Rows.uptoBulkAll ([.lit (.string a.data.toList), .lit (.string b.data.toList), .lit (.string c.data.toList)] : List (DataW H)) ≤ 1048576 := of_decide_eq_true hk
  simp only [Rows.uptoBulkAll, Rows.uptoBulk] at h
  have ea : a.data.toList.length = a.size := by rw [Array.length_toList]; rfl
  have eb : b.data.toList.length = b.size := by rw [Array.length_toList]; rfl
  have ec : c.data.toList.length = c.size := by rw [Array.length_toList]; rfl
  omega

section
variable {H : Type} {enc : TypeId × Value → H} {P : Program}
/-- What lay before the call lies as it lay: then the arguments read as they read. -/
theorem post_below {f : Func} {s : ChangeSpec} {apart fresh handsOn again : Bool} {W W' : World} {args : Array Value} {v : Value} {ds gs : List (DataW H)} {before pa pv : List MemPlace}
    (hW : DataW.Whole enc P f.params.toList s.vars apart W args.toList ds gs before)
    (hres : ∀ (b : Nat) (sp : Nat → Bool) (hd : Bool), DataW.TrodAll enc P W' b sp hd f.resultTypes.toList (v.resultList f.resultTypes.size) (s.fn H (ds ++ gs)).results [])
    (hargs : ∀ sp : Nat → Bool, (∀ p ∈ before, sp p.block = true) → DataW.TrodAll enc P W' 0 sp true f.params.toList args.toList (s.fn H (ds ++ gs)).args pa)
    (hvars : ∀ sp : Nat → Bool, (∀ p ∈ before, sp p.block = true) → DataW.TrodVars enc P W' sp s.vars (s.fn H (ds ++ gs)).vars pv)
    (hps : before = pa ++ pv) (hb : Below W.heap.size W W')
    (hok : ∀ (j : Nat) (t : TypeId) (r : Value), f.resultTypes[j]? = some t → (v.resultList f.resultTypes.size)[j]? = some r → Value.okWide P W' .any 0 t r) :
    s.post enc P f apart fresh handsOn again W args v W' := by
  have hlt : ∀ p ∈ before, p.block < W.heap.size := fun p hp => hW.lt p hp
  have hold : ∀ p ∈ before, (fun b => decide (b < W.heap.size)) p.block = true := fun p hp => by simpa using hlt p hp
  refine ⟨ds, gs, before, [], pa, pv, hW, hres _ _ _, hargs _ hold, hvars _ hold, World.keptBut_mono (fun p hp => ⟨hp, ?_⟩) (hb.frame (· ∈ before)), fun _ => ?_⟩
  · rw [hps, List.mem_append] at hp
    exact Or.inr hp
  · obtain ⟨_, _, _, _, _, hz, hn⟩ := hW
    refine ⟨hok, _, _, ([] ++ pa) ++ pv, ⟨[] ++ pa, pv, trodAll_append (hargs _ (fun _ _ => rfl)) (hres _ _ _), hvars _ (fun _ _ => rfl), rfl, ?_, ?_⟩, ?_⟩
    · intro b off hp
      have hin : MemPlace.cell b off ∈ before := by rw [hps]; simpa using hp
      rw [hb.frozen (hlt _ hin)]
      exact hz b off hin
    · intro ha
      have := hn ha
      rw [hps] at this
      simpa using this
    · intro p hp _
      rw [hps]
      simpa using hp
end

/-- For every argument and every world that holds the table. -/
theorem contract (H : Type) (enc : TypeId × Value → H) (W : World) (base : Nat) (args : Array Value) (ds gs : List (DataW H)) (before : List MemPlace)
    (hval : ∀ (j : Nat) t v, Tryd.f7.params[j]? = some t → args[j]? = some v → Value.okWide Tryd.prog W .any base t v)
    (hW : DataW.Whole enc Tryd.prog Tryd.f7.params.toList Rows.spellOrderSpec.vars false W args.toList ds gs before) (hk : Rows.uptoSmall H (ds ++ gs) = true) (hL : laidMetH Tryd.prog Rows.spellOrderUptoRow.laid W) :
    Calls Tryd.prog 7 args W fun e W' => ∃ v, e = .returned v ∧ Rows.spellOrderSpec.post enc Tryd.prog Tryd.f7 false true false false W args v W' := by
  have hW' := hW
  obtain ⟨p, q, hA0, hV, rfl, hfz, hnd⟩ := hW
  have hA : DataW.TrodAll enc Tryd.prog W 0 (fun _ => true) true Tryd.f7.params.toList args.toList ds p := hA0
  rw [Tryd.params7] at hA hval
  obtain ⟨v0, vs0, d0, ds0, p0, q0, hargs0, rfl, rfl, h0, r0⟩ := trodAll_cons hA
  obtain ⟨v1, vs1, d1, ds1, p1, q1, hargs1, rfl, rfl, h1, r1⟩ := trodAll_cons r0
  obtain ⟨v2, vs2, d2, ds2, p2, q2, hargs2, rfl, rfl, h2, r2⟩ := trodAll_cons r1
  obtain ⟨rfl, rfl, rfl⟩ := trodAll_nil r2
  obtain rfl : args = #[v0, v1, v2] := by cases args; simp_all
  obtain ⟨rfl, rfl⟩ := trodVars_none hV
  obtain ⟨a, rfl, rfl, rfl, hm0⟩ := open_string Tryd.underlying9 (hval 0 9 v0 rfl rfl) h0
  obtain ⟨b, rfl, rfl, rfl, hm1⟩ := open_string Tryd.underlying9 (hval 1 9 v1 rfl rfl) h1
  obtain ⟨c, rfl, rfl, rfl, hm2⟩ := open_string Tryd.underlying9 (hval 2 9 v2 rfl rfl) h2
  clear hA0
  simp only [List.append_nil] at hW' hk
  have hsh := short hk
  refine (walk a b c W (tab_of_laid hL) hsh.1 hsh.2.1 hsh.2.2).mono fun e W' ⟨he, hg⟩ => ?_
  subst he
  exact ⟨_, rfl, post_below (pa := []) (pv := []) hW' (fun _ _ _ => trodAll_cons_mk (shut_bool Tryd.underlying4 _) trodAll_mk0) (fun _ _ => trodAll_cons_mk (shut_string Tryd.underlying9 hm0) (trodAll_cons_mk (shut_string Tryd.underlying9 hm1) (trodAll_cons_mk (shut_string Tryd.underlying9 hm2) (trodAll_mk0)))) (fun _ _ => rfl) rfl
    hg (ok_one (by kernel_rfl) rfl (okWide_bool_mk Tryd.underlying4 _))⟩

/-- A world for the witness: the settled one, the table holding what its initialiser lays. -/
noncomputable def laidWorld (os : Os) : World :=
  { World.holding Tryd.prog os ⟨#[], #[], []⟩ with heap := (World.holding Tryd.prog os ⟨#[], #[], []⟩).heap.modify 0 fun
      | .cells _ t frozen => .cells lowCells t frozen
      | o => o }
theorem laid_met (os : Os) : laidMet Tryd.prog Rows.spellOrderUptoRow.laid ((laidWorld os).forCall (fun _ _ => 0) ⟨#[], #[.string ⟨#[]⟩, .string ⟨#[]⟩, .string ⟨#[]⟩], []⟩).memory :=
  laidMet_of_run' 8 (by kernel_rfl) (by kernel_rfl)
theorem reads (os : Os) {H : Type} (enc : TypeId × Value → H) : ∃ places, DataW.whole enc Tryd.prog ((laidWorld os).forCall (fun _ _ => 0) ⟨#[], #[.string ⟨#[]⟩, .string ⟨#[]⟩, .string ⟨#[]⟩], []⟩).memory Tryd.f7.params.toList Rows.spellOrderSpec.vars false (#[.string ⟨#[]⟩, .string ⟨#[]⟩, .string ⟨#[]⟩] : Array Value).toList 8 = some ([.lit (.string []), .lit (.string []), .lit (.string [])], [], places) :=
  ⟨[], by kernel_rfl⟩

set_option maxRecDepth 100000 in
theorem liftedUpto (os : Os) (started : os.Started) (H : Type) (enc : TypeId × Value → H) (F : Stop.Interp) :
    ReturnsInHanded {} Tryd.checked os 7 .any ((Rows.OpenSpec.upto Rows.spellOrderSpec).preRow enc Tryd.prog Tryd.f7 Rows.spellOrderUptoRow.domain false Rows.spellOrderUptoRow.laid) (((Rows.OpenSpec.upto Rows.spellOrderSpec).at F).post enc Tryd.prog Tryd.f7 false true false false) := by
  obtain ⟨places, hx⟩ := reads os enc
  refine returnsInHanded_of_row (C := Tryd.checked) (s := Rows.OpenSpec.upto Rows.spellOrderSpec) own started (by kernel_rfl) Tryd.func7
    (witness_row_at (enc := enc) (C := Tryd.checked) false (laidWorld os) #[.string ⟨#[]⟩, .string ⟨#[]⟩, .string ⟨#[]⟩] rfl (by kernel_rfl) (by kernel_rfl) (by kernel_rfl)
      (OpenSpec.preRow_of_cond 8 hx (by kernel_rfl) (fun k hk => by cases hk; kernel_rfl) (by kernel_rfl) (laid_met os))) ?_
  intro W base args ds gs before hval hW _ hcond _ hL _ _
  exact contract H enc W base args ds gs before hval hW (hcond _ rfl) hL

theorem saidUpto : Rows.SpellOrderUptoSaid :=
  OpenClaim.holds_of_cond 7 Tryd.f7 rfl rfl rfl rfl rfl rfl rfl ⟨rfl, rfl, rfl, rfl, rfl⟩ rfl rfl rfl rfl rfl (by kernel_rfl) Tryd.func7 (by kernel_rfl)
    (of_decide_eq_true (by kernel_rfl)) (by unfold Func.isWrapper; first | (rw [if_pos (by decide +kernel)]; kernel_rfl) | (rw [if_neg (by decide +kernel)]; exact ⟨rfl, rfl⟩))
    (fun os started H enc _ F => by rw [OpenClaim.pre_eq_preRow]; exact liftedUpto os started H enc F)

/-- No parameter wants a stand-in. -/
theorem plain (f : FuncId) (fn : Func) (hf : Tryd.pinned.checked.prog.funcNamed "wainscot/wainscotlaw01.SpellOrder" = some f) (hfn : Tryd.pinned.checked.prog.funcs[f]? = some fn) :
    false = Tryd.pinned.checked.prog.looks [] ∧ ∀ (j : Nat) t, fn.params[j]? = some t → Tryd.pinned.checked.prog.wantsStandIn t = false := by
  obtain rfl : f = 7 := Option.some.inj ((show Tryd.prog.funcNamed "wainscot/wainscotlaw01.SpellOrder" = some 7 by kernel_rfl).symm.trans hf) |>.symm
  obtain rfl : fn = Tryd.f7 := (Option.some.inj (Tryd.func7.symm.trans hfn)).symm
  refine ⟨by kernel_rfl, fun j t ht => ?_⟩
  rw [Tryd.params7] at ht
  obtain rfl : t = 9 := by simpa using Array.mem_of_getElem? ht
  exact (show Tryd.prog.wantsStandIn 9 = false by kernel_rfl)

theorem cardUpto : Rows.SpellOrderUptoCardSaid :=
  Claim7.holds_tied_plain_at .later [] _ _ _ _ saidUpto (fun _ h => by cases h) (by kernel_rfl) (fun _ h => by cases h) spellOrderUpto_row_tie rfl ⟨rfl, rfl⟩ (by kernel_rfl) rfl plain (by kernel_rfl)
end Go.Proofs.YtekajahffnhboaaDoor.fnSpellOrder
