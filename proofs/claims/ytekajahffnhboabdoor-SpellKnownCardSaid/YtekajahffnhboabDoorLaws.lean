/-
  The walks of the statements of any text, alone (without rows and cards): for the closed statement that calls them.
-/
import Derived.Test.YtekajahffnhboabDoorWorks
set_option linter.unusedVariables false
set_option linter.unusedSimpArgs false
namespace Go.Proofs.YtekajahffnhboabDoor.fnSpellNames
open Go Go.Proofs.YtekajahffnhboabDoor Go.RowKit
set_option maxHeartbeats 4000000 in
set_option maxRecDepth 100000 in
theorem walk (s : ByteArray) (W : World) (ht : Tab W) (hs : s.size ≤ 1048576) :
    Calls Tryd.prog 4 #[.string s] W fun e w' => e = .returned (.bool true) ∧ Below W.heap.size W w' := by
  have h0 := St.start ht
  obtain ⟨b, hb⟩ : ∃ b, errOf (sp.isName (sp.at' s 0)) = b := ⟨_, rfl⟩
  obtain ⟨k, hk⟩ : ∃ k, (sp.at' s 0).length = k := ⟨_, rfl⟩
  obtain ⟨t, hq⟩ : ∃ t, (⟨(sp.foldB s.data.toList).toArray⟩ : ByteArray) = t := ⟨_, rfl⟩
  have HB := Lib.hid hb
  have HK := Lib.hid hk
  have HQ := Lib.hid hq
  clear hb hk hq ht
  go_enter Tryd.func4, Tryd.ntmps4
  go_wp2_with fail
  refine (wCheck W s b (by omega) HB.out _ h0).mono ?_
  rintro e w1 ⟨rfl, h1⟩
  clear h0
  go_wp2_with fail
  refine (wrCheck W s b (by omega) HB.out _ h1).mono ?_
  rintro e w2 ⟨rfl, h2⟩
  clear h1
  go_wp2_with fail
  refine (wRunes W s k (by omega) HK.out _ h2).mono ?_
  rintro e w3 ⟨rfl, h3⟩
  clear h2
  go_wp2_with fail
  refine (wrRunes W s k (by omega) HK.out _ h3).mono ?_
  rintro e w4 ⟨rfl, h4⟩
  clear h3
  go_wp2_with fail
  refine (wFold W s t (by omega) HQ.out _ h4).mono ?_
  rintro e w5 ⟨rfl, h5⟩
  clear h4
  go_wp2_with fail
  refine (wrFold W s t (by omega) HQ.out _ h5).mono ?_
  rintro e w6 ⟨rfl, h6⟩
  clear h5
  go_wp2_with fail
  refine (works_any W _ h6).mono ?_
  rintro e w7 ⟨rfl, h7⟩
  clear h6
  go_wp2
  go_ret
  exact ⟨rfl, h7.2.2⟩
end Go.Proofs.YtekajahffnhboabDoor.fnSpellNames
namespace Go.Proofs.YtekajahffnhboabDoor.fnSpellPairs
open Go Go.Proofs.YtekajahffnhboabDoor Go.RowKit
set_option maxHeartbeats 4000000 in
set_option maxRecDepth 100000 in
theorem walk (a b : ByteArray) (W : World) (ht : Tab W) (ha : a.size ≤ 1048576) (hb : b.size ≤ 1048576) :
    Calls Tryd.prog 6 #[.string a, .string b] W fun e w' => e = .returned (.bool true) ∧ Below W.heap.size W w' := by
  have h0 := St.start ht
  obtain ⟨q, hq⟩ : ∃ q, sameB a.data.toList b.data.toList = q := ⟨_, rfl⟩
  obtain ⟨p, hp⟩ : ∃ p, lessB a.data.toList b.data.toList = p := ⟨_, rfl⟩
  have HQ := Lib.hid hq
  have HP := Lib.hid hp
  clear hq hp ht
  have e1 : (q == q) = true := by simp
  have e2 : (p == p) = true := by simp
  go_enter Tryd.func6, Tryd.ntmps6
  go_wp2_with fail
  refine (wSame W a b q (by omega) (by omega) HQ.out _ h0).mono ?_
  rintro e w1 ⟨rfl, h1⟩
  clear h0
  go_wp2_with fail
  refine (wrSame W a b q (by omega) (by omega) HQ.out _ h1).mono ?_
  rintro e w2 ⟨rfl, h2⟩
  clear h1
  go_wp2_with fail
  refine (wLess W a b p (by omega) (by omega) HP.out _ h2).mono ?_
  rintro e w3 ⟨rfl, h3⟩
  clear h2
  go_wp2_with fail
  refine (wrLess W a b p (by omega) (by omega) HP.out _ h3).mono ?_
  rintro e w4 ⟨rfl, h4⟩
  clear h3
  go_wp2_with fail
  refine (works_any W _ h4).mono ?_
  rintro e w5 ⟨rfl, h5⟩
  clear h4
  go_wp2
  go_ret
  exact ⟨rfl, h5.2.2⟩
end Go.Proofs.YtekajahffnhboabDoor.fnSpellPairs
namespace Go.Proofs.YtekajahffnhboabDoor.fnSpellCuts
open Go Go.Proofs.YtekajahffnhboabDoor Go.RowKit
set_option maxHeartbeats 4000000 in
set_option maxRecDepth 100000 in
theorem walk (s : ByteArray) (n : Int) (W : World) (ht : Tab W) (hs : s.size ≤ 1048576) (hn0 : -9223372036854775808 ≤ n) (hn1 : n ≤ 9223372036854775807) :
    Calls Tryd.prog 7 #[.string s, .int .i64 n] W fun e w' => e = .returned (.bool true) ∧ Below W.heap.size W w' := by
  have h0 := St.start ht
  obtain ⟨t, hq⟩ : ∃ t, (⟨(sp.cutB s.data.toList n).toArray⟩ : ByteArray) = t := ⟨_, rfl⟩
  have HQ := Lib.hid hq
  clear hq ht
  go_enter Tryd.func7, Tryd.ntmps7
  go_wp2_with fail
  refine (wCut W s n t (by omega) hn0 hn1 HQ.out _ h0).mono ?_
  rintro e w1 ⟨rfl, h1⟩
  clear h0
  go_wp2_with fail
  refine (wrCut W s n t (by omega) hn0 hn1 HQ.out _ h1).mono ?_
  rintro e w2 ⟨rfl, h2⟩
  clear h1
  go_wp2_with fail
  refine (works_any W _ h2).mono ?_
  rintro e w3 ⟨rfl, h3⟩
  clear h2
  go_wp2
  go_ret
  exact ⟨rfl, h3.2.2⟩
end Go.Proofs.YtekajahffnhboabDoor.fnSpellCuts
namespace Go.Proofs.YtekajahffnhboabDoor.fnSpellFold
open Go Go.Proofs.YtekajahffnhboabDoor Go.RowKit

theorem bytes_of (l : List UInt8) : (⟨l.toArray⟩ : ByteArray).data.toList = l := rfl
theorem size_of (l : List UInt8) : (⟨l.toArray⟩ : ByteArray).size = l.length := by simp [ByteArray.size]
theorem size_foldB (s : ByteArray) : (⟨(sp.foldB s.data.toList).toArray⟩ : ByteArray).size ≤ 4 * s.size := by
  rw [size_of]
  have h1 := sp.enc_length (sp.folds (sp.runes s.data.toList))
  have h2 := sp.at_length s
  rw [sp.at_zero] at h2
  have h3 : (sp.folds (sp.runes s.data.toList)).length = (sp.runes s.data.toList).length := by simp [sp.folds]
  unfold sp.foldB
  omega
theorem size_greatB (s : ByteArray) : (⟨(sp.greatB s.data.toList).toArray⟩ : ByteArray).size ≤ 4 * s.size := by
  rw [size_of]
  have h1 := sp.enc_length ((sp.runes s.data.toList).map sp.up)
  have h2 := sp.at_length s
  rw [sp.at_zero] at h2
  have h3 : ((sp.runes s.data.toList).map sp.up).length = (sp.runes s.data.toList).length := by simp
  unfold sp.greatB
  omega

set_option maxHeartbeats 4000000 in
set_option maxRecDepth 100000 in
theorem walk (s : ByteArray) (W : World) (ht : Tab W) (hs : s.size ≤ 1048576) :
    Calls Tryd.prog 5 #[.string s] W fun e w' => e = .returned (.bool true) ∧ Below W.heap.size W w' := by
  have h0 := St.start ht
  have hsf := size_foldB s
  have hsg := size_greatB s
  obtain ⟨b, hb⟩ : ∃ b, errOf (sp.isName (sp.at' s 0)) = b := ⟨_, rfl⟩
  obtain ⟨k, hk⟩ : ∃ k, (sp.at' s 0).length = k := ⟨_, rfl⟩
  obtain ⟨f, hf⟩ : ∃ f, (⟨(sp.foldB s.data.toList).toArray⟩ : ByteArray) = f := ⟨_, rfl⟩
  obtain ⟨g, hg⟩ : ∃ g, (⟨(sp.greatB s.data.toList).toArray⟩ : ByteArray) = g := ⟨_, rfl⟩
  have HFF : Hid ((⟨(sp.foldB f.data.toList).toArray⟩ : ByteArray) = f) := Lib.hid (by rw [← hf, bytes_of, sp.foldB_foldB])
  have HFG : Hid ((⟨(sp.foldB g.data.toList).toArray⟩ : ByteArray) = f) := Lib.hid (by rw [← hf, ← hg, bytes_of, sp.foldB_greatB])
  have HSF : Hid (sameB s.data.toList f.data.toList = true) := Lib.hid (by unfold sameB; rw [← hf, bytes_of, sp.foldB_foldB]; simp)
  have HGS : Hid (sameB g.data.toList s.data.toList = true) := Lib.hid (by unfold sameB; rw [← hg, bytes_of, sp.foldB_greatB]; simp)
  have HCF : Hid (errOf (sp.isName (sp.at' f 0)) = b) := Lib.hid (by rw [← hb, sp.at_zero, sp.at_zero, ← hf, bytes_of, sp.runes_foldB, sp.isName_folds])
  have HCG : Hid (errOf (sp.isName (sp.at' g 0)) = b) := Lib.hid (by rw [← hb, sp.at_zero, sp.at_zero, ← hg, bytes_of, sp.runes_greatB, sp.isName_ups])
  have HRF : Hid ((sp.at' f 0).length = k) := Lib.hid (by rw [← hk, sp.at_zero, sp.at_zero, ← hf, bytes_of, sp.runes_foldB]; simp [sp.folds])
  have hfs : f.size ≤ 4194304 := by rw [← hf]; omega
  have hgs : g.size ≤ 4194304 := by rw [← hg]; omega
  have HB := Lib.hid hb
  have HK := Lib.hid hk
  have HF := Lib.hid hf
  have HG := Lib.hid hg
  clear hb hk hf hg ht hsf hsg
  go_enter Tryd.func5, Tryd.ntmps5
  go_wp2_with fail
  refine (works_any W _ h0).mono ?_
  rintro e w1 ⟨rfl, h1⟩
  clear h0
  go_wp2_with fail
  refine (wFold W s f (by omega) HF.out _ h1).mono ?_
  rintro e w2 ⟨rfl, h2⟩
  clear h1
  go_wp2_with fail
  refine (wGreat W s g (by omega) HG.out _ h2).mono ?_
  rintro e w3 ⟨rfl, h3⟩
  clear h2
  go_wp2_with fail
  refine (wFold W f f (by omega) HFF.out _ h3).mono ?_
  rintro e w4 ⟨rfl, h4⟩
  clear h3
  go_wp2_with fail
  refine (wSame W s f true (by omega) (by omega) HSF.out _ h4).mono ?_
  rintro e w5 ⟨rfl, h5⟩
  clear h4
  go_wp2_with fail
  refine (wSame W g s true (by omega) (by omega) HGS.out _ h5).mono ?_
  rintro e w6 ⟨rfl, h6⟩
  clear h5
  go_wp2_with fail
  refine (wFold W g f (by omega) HFG.out _ h6).mono ?_
  rintro e w7 ⟨rfl, h7⟩
  clear h6
  go_wp2_with fail
  refine (wCheck W f b (by omega) HCF.out _ h7).mono ?_
  rintro e w8 ⟨rfl, h8⟩
  clear h7
  go_wp2_with fail
  refine (wCheck W s b (by omega) HB.out _ h8).mono ?_
  rintro e w9 ⟨rfl, h9⟩
  clear h8
  go_wp2_with fail
  refine (wCheck W g b (by omega) HCG.out _ h9).mono ?_
  rintro e w10 ⟨rfl, h10⟩
  clear h9
  go_wp2_with fail
  refine (wCheck W s b (by omega) HB.out _ h10).mono ?_
  rintro e w11 ⟨rfl, h11⟩
  clear h10
  go_wp2_with fail
  refine (wRunes W f k (by omega) HRF.out _ h11).mono ?_
  rintro e w12 ⟨rfl, h12⟩
  clear h11
  go_wp2_with fail
  refine (wRunes W s k (by omega) HK.out _ h12).mono ?_
  rintro e w13 ⟨rfl, h13⟩
  clear h12
  go_wp2
  go_ret
  exact ⟨rfl, h13.2.2⟩
end Go.Proofs.YtekajahffnhboabDoor.fnSpellFold
namespace Go.Proofs.YtekajahffnhboabDoor.fnSpellCut
open Go Go.Proofs.YtekajahffnhboabDoor Go.RowKit

theorem bytes_of (l : List UInt8) : (⟨l.toArray⟩ : ByteArray).data.toList = l := rfl
theorem size_of (l : List UInt8) : (⟨l.toArray⟩ : ByteArray).size = l.length := by simp [ByteArray.size]
theorem size_cutB (s : ByteArray) (n : Int) : (⟨(sp.cutB s.data.toList n).toArray⟩ : ByteArray).size ≤ 4 * s.size := by
  rw [size_of]
  have h1 := sp.enc_length ((sp.runes s.data.toList).take n.toNat)
  have h2 := sp.at_length s
  rw [sp.at_zero] at h2
  have h3 : ((sp.runes s.data.toList).take n.toNat).length ≤ (sp.runes s.data.toList).length := List.length_take_le' _ _
  unfold sp.cutB
  omega

set_option maxHeartbeats 4000000 in
set_option maxRecDepth 100000 in
theorem walk (s : ByteArray) (n : Int) (W : World) (ht : Tab W) (hs : s.size ≤ 1048576) (hn0 : -9223372036854775808 ≤ n) (hn1 : n ≤ 9223372036854775807) :
    Calls Tryd.prog 8 #[.string s, .int .i64 n] W fun e w' => e = .returned (.bool true) ∧ Below W.heap.size W w' := by
  have h0 := St.start ht
  have hsc := size_cutB s n
  have hkl := sp.at_length s
  obtain ⟨k, hk⟩ : ∃ k, (sp.at' s 0).length = k := ⟨_, rfl⟩
  obtain ⟨m, hm⟩ : ∃ m, ((sp.runes s.data.toList).take n.toNat).length = m := ⟨_, rfl⟩
  obtain ⟨c, hc⟩ : ∃ c, (⟨(sp.cutB s.data.toList n).toArray⟩ : ByteArray) = c := ⟨_, rfl⟩
  obtain ⟨u, hu⟩ : ∃ u, (⟨(sp.enc (sp.runes s.data.toList)).toArray⟩ : ByteArray) = u := ⟨_, rfl⟩
  have hrk : (sp.runes s.data.toList).length = k := by rw [← sp.at_zero]; exact hk
  have HMC : Hid ((sp.at' c 0).length = m) := Lib.hid (by rw [sp.at_zero, ← hc, bytes_of, sp.runes_cutB, hm])
  have HCC : Hid ((⟨(sp.cutB c.data.toList n).toArray⟩ : ByteArray) = c) := Lib.hid (by rw [← hc, bytes_of, sp.cutB_cutB])
  have HUK : Hid ((⟨(sp.cutB s.data.toList (k : Int)).toArray⟩ : ByteArray) = u) := Lib.hid (by rw [← hu]; unfold sp.cutB; rw [List.take_of_length_le (by omega)])
  have HUM : Hid ((⟨(sp.cutB s.data.toList 4611686018427387904).toArray⟩ : ByteArray) = u) := Lib.hid (by rw [← hu]; unfold sp.cutB; rw [List.take_of_length_le (by omega)])
  have HSC : Hid ((sp.at' (s ++ c) 0).length = k + m) := Lib.hid (by
    rw [sp.at_zero, ByteArray.data_append, Array.toList_append, ← hc, bytes_of]
    show (sp.runes (s.data.toList ++ sp.enc ((sp.runes s.data.toList).take n.toNat))).length = k + m
    rw [sp.runes_append_enc _ (sp.take_sc (sp.runes_sc _) _) _ _ (Nat.le_refl _), List.length_append, hrk, hm])
  have hmm : m = min n.toNat k := by rw [← hm, List.length_take, hrk]
  have hcs : c.size ≤ 4194304 := by rw [← hc]; omega
  have hks : k ≤ s.size := by omega
  have hmk : m ≤ k := by omega
  have e1 : ((m : Int) == max 0 (min n (k : Int))) = true := by
    rw [beq_iff_eq]
    omega
  have HK := Lib.hid hk
  have HC := Lib.hid hc
  clear hk hm hc hu hrk hmm ht hsc hkl
  go_enter Tryd.func8, Tryd.ntmps8
  go_wp2_with fail
  refine (wCut W s n c (by omega) hn0 hn1 HC.out _ h0).mono ?_
  rintro e w1 ⟨rfl, h1⟩
  clear h0
  go_wp2_with fail
  refine (wRunes W s k (by omega) HK.out _ h1).mono ?_
  rintro e w2 ⟨rfl, h2⟩
  clear h1
  go_wp2_with fail
  refine (wRunes W c m (by omega) HMC.out _ h2).mono ?_
  rintro e w3 ⟨rfl, h3⟩
  clear h2
  go_wp2_with fail
  refine (wCut W c n c (by omega) hn0 hn1 HCC.out _ h3).mono ?_
  rintro e w4 ⟨rfl, h4⟩
  clear h3
  go_wp2_with fail
  refine (wCut W s k u (by omega) (by omega) (by omega) HUK.out _ h4).mono ?_
  rintro e w5 ⟨rfl, h5⟩
  clear h4
  go_wp2_with fail
  refine (wCut W s _ u (by omega) (by omega) (by omega) HUM.out _ h5).mono ?_
  rintro e w6 ⟨rfl, h6⟩
  clear h5
  go_wp2_with fail
  refine (wRunes W (s ++ c) (k + m) (by rw [ByteArray.size_append]; omega) HSC.out _ h6).mono ?_
  rintro e w7 ⟨rfl, h7⟩
  clear h6
  go_wp2_with fail
  refine (wRunes W c m (by omega) HMC.out _ h7).mono ?_
  rintro e w8 ⟨rfl, h8⟩
  clear h7
  go_wp2_with fail
  refine (works_any W _ h8).mono ?_
  rintro e w9 ⟨rfl, h9⟩
  clear h8
  go_wp2
  go_ret
  exact ⟨rfl, h9.2.2⟩
end Go.Proofs.YtekajahffnhboabDoor.fnSpellCut
