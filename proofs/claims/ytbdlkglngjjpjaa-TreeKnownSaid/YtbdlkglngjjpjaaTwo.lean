/-
  The program's tree and the document's answer in one world; the law's helper same; the law TreePlays, walked.
-/
import Derived.Test.YtbdlkglngjjpjaaOne
set_option linter.unusedVariables false
set_option linter.unusedSimpArgs false
namespace Go.Proofs.Ytbdlkglngjjpjaa
open Go Go.RowKit

structure T2 (W w : World) (B B2 : Nat) (ta tr : Tr) : Prop where
  a : T1 W w B ta
  r : ∃ g1 c1 g2 c2, RT w B2 g1 c1 g2 c2 tr ∧ W.heap.size ≤ g1 ∧ W.heap.size ≤ g2
  ri : TI tr
  ge : W.heap.size ≤ B2
section
variable {W w w' : World} {B B2 : Nat} {ta ta' tr tr' t : Tr} {x y a er : Int}
theorem T2.left (h : T2 W w B B2 ta tr) (ha : T1 W w' B ta') (hk : KT tysT w w') : T2 W w' B B2 ta' tr := by
  obtain ⟨g1, c1, g2, c2, h1, h2⟩ := h.r
  obtain ⟨S, hk, hS⟩ := hk
  exact ⟨ha, ⟨g1, c1, g2, c2, RX.kept h1 hk hS (by decide), h2⟩, h.ri, h.ge⟩
theorem T2.below (h : T2 W w B B2 ta tr) (hb : Below w.heap.size w w') : T2 W w' B B2 ta tr := h.left (h.a.below hb) (KT.ofBelow hb)
theorem T2.drew (h : T2 W w B B2 ta tr) : T2 W w.drew B B2 ta tr := h.below (Below.refl _ w).drew
theorem xNew (h : T1 W w B t) : Calls Try.prog 9 #[] w fun e w' => ∃ B2, e = .returned (.pointer (some ⟨B2, 0, none⟩)) ∧ T2 W w' B B2 t noT := by
  refine (rNew w).mono ?_
  rintro e w' ⟨B2, g1, c1, g2, c2, rfl, h1, hb, h2, h3, h4⟩
  have hz := h.low.size
  exact ⟨B2, rfl, h.below hb, ⟨g1, c1, g2, c2, h1, by omega, by omega⟩, TI.new, by omega⟩
theorem xAdd (h : T2 W w B B2 ta tr) (hr : AddIs ta x a er ta') :
    Calls Try.prog 11 #[.pointer (some ⟨B, 0, none⟩), .int .i64 x] w fun e w' => e = .returned (.tuple #[.int .i64 a, .int .i64 er]) ∧ T2 W w' B B2 ta' tr := by
  refine (tAdd h.a hr).mono ?_
  rintro e w' ⟨rfl, h1, h2⟩
  exact ⟨rfl, h.left h1 h2⟩
theorem xOff (h : T2 W w B B2 ta tr) (hr : OffIs ta x er ta') :
    Calls Try.prog 13 #[.pointer (some ⟨B, 0, none⟩), .int .i64 x] w fun e w' => e = .returned (.int .i64 er) ∧ T2 W w' B B2 ta' tr := by
  refine (tOff h.a hr).mono ?_
  rintro e w' ⟨rfl, h1, h2⟩
  exact ⟨rfl, h.left h1 h2⟩
theorem xrAdd (h : T2 W w B B2 ta tr) (hr : AddIs tr x a er tr') :
    Calls Try.prog 12 #[.pointer (some ⟨B2, 0, none⟩), .int .i64 x] w fun e w' => e = .returned (.tuple #[.int .i64 a, .int .i64 er]) ∧ T2 W w' B B2 ta tr' := by
  obtain ⟨g1, c1, g2, c2, h1, h2, h3⟩ := h.r
  refine (rAdd h1 h.ri hr).mono ?_
  rintro e w' ⟨ga, ca, gb, cb, rfl, h4, h5, h6, h7⟩
  have hge : ∀ k, OwnR B2 g1 g2 k → W.heap.size ≤ k := by
    rintro k (rfl | rfl | rfl)
    · exact h.ge
    · exact h2
    · exact h3
  have hz := h.a.low.size
  exact ⟨rfl, h.a.kt ⟨_, h5, RX.typ h1⟩ (below_kept h.a.low h5 hge) (by decide), ⟨ga, ca, gb, cb, h4, by rcases h6 with rfl | h6 <;> omega, by rcases h7 with rfl | h7 <;> omega⟩, hr.ti h.ri, h.ge⟩
theorem xrOff (h : T2 W w B B2 ta tr) (hr : OffIs tr x er tr') :
    Calls Try.prog 14 #[.pointer (some ⟨B2, 0, none⟩), .int .i64 x] w fun e w' => e = .returned (.int .i64 er) ∧ T2 W w' B B2 ta tr' := by
  obtain ⟨g1, c1, g2, c2, h1, h2, h3⟩ := h.r
  refine (rOffline h1 h.ri hr).mono ?_
  rintro e w' ⟨rfl, h4, h5⟩
  have hge : ∀ k, OwnR B2 g1 g2 k → W.heap.size ≤ k := by
    rintro k (rfl | rfl | rfl)
    · exact h.ge
    · exact h2
    · exact h3
  exact ⟨rfl, h.a.kt ⟨_, h5, RX.typ h1⟩ (below_kept h.a.low h5 hge) (by decide), ⟨g1, c1, g2, c2, h4, h2, h3⟩, hr.ti h.ri, h.ge⟩
/-! the document's answer, asked -/
theorem xParent (h : T2 W w B B2 ta tr) (u : Int) (hu : ((tr.up (nu tr.n x) : Nat) : Int) = u) :
    Calls Try.prog 30 #[.pointer (some ⟨B2, 0, none⟩), .int .i64 x] w fun e w' => e = .returned (.int .i64 u) ∧ w' = w := by
  obtain ⟨g1, c1, g2, c2, h1, _⟩ := h.r
  exact rParent h1 h.ri x u hu
theorem xOnline (h : T2 W w B B2 ta tr) (q : Bool) (hq : tr.on (nu tr.n x) = q) :
    Calls Try.prog 31 #[.pointer (some ⟨B2, 0, none⟩), .int .i64 x] w fun e w' => e = .returned (.bool q) ∧ w' = w := by
  obtain ⟨g1, c1, g2, c2, h1, _⟩ := h.r
  exact rOnline h1 h.ri x q hq
theorem xMany (h : T2 W w B B2 ta tr) :
    Calls Try.prog 27 #[.pointer (some ⟨B2, 0, none⟩)] w fun e w' => e = .returned (.int .i64 tr.n) ∧ w' = w := by
  obtain ⟨g1, c1, g2, c2, h1, _⟩ := h.r
  exact rMany h1
theorem xDepth (h : T2 W w B B2 ta tr) {d : Nat} (hd : (path tr (nu tr.n x)).length = d) :
    Calls Try.prog 28 #[.pointer (some ⟨B2, 0, none⟩), .int .i64 x] w fun e w' => e = .returned (.int .i64 d) ∧ Below w.heap.size w w' := by
  obtain ⟨g1, c1, g2, c2, h1, _⟩ := h.r
  exact rDepth h1 h.ri hd
theorem xHeir (h : T2 W w B B2 ta tr) {q : Nat} (hq : heir tr (nu tr.n x) = q) :
    Calls Try.prog 32 #[.pointer (some ⟨B2, 0, none⟩), .int .i64 x] w fun e w' => e = .returned (.int .i64 q) ∧ w' = w := by
  obtain ⟨g1, c1, g2, c2, h1, _⟩ := h.r
  exact rHeir h1 h.ri hq
theorem xPath (h : T2 W w B B2 ta tr) {l : List Int} (hl : ints (path tr (nu tr.n x)) = l) :
    Calls Try.prog 34 #[.pointer (some ⟨B2, 0, none⟩), .int .i64 x] w (GivesI w l) := by
  obtain ⟨g1, c1, g2, c2, h1, _⟩ := h.r
  exact rPath h1 h.ri hl
theorem xBelow (h : T2 W w B B2 ta tr) {q : Bool} (hq : belowF tr x y = q) :
    Calls Try.prog 35 #[.pointer (some ⟨B2, 0, none⟩), .int .i64 x, .int .i64 y] w fun e w' => e = .returned (.bool q) ∧ Below w.heap.size w w' := by
  obtain ⟨g1, c1, g2, c2, h1, _⟩ := h.r
  exact rBelow h1 h.ri hq
/-- numbers of one's own, as many as that -/
def Nms (b : Nat) (w : World) (v : Value) (n : Nat) : Prop := ∃ l : List Int, l.length = n ∧ OwnI b w v l
theorem Nms.cell {b n cap : Nat} {ao : Option Addr} {i : Nat} (h : Nms b w (.slice ao n cap) n) (hi : i < n) : ∃ g, ao = some ⟨g, 0, none⟩ ∧ b ≤ g ∧ (∃ z, w.cell? ⟨g, i, none⟩ = some (.int .i64 z)) ∧ w.frozen? ⟨g, i, none⟩ = false ∧ Nms b (w.setCell ⟨g, i, none⟩ (.int .i64 (-1))) (.slice ao n cap) n := by
  obtain ⟨l, hl, ho⟩ := h
  subst hl
  rcases ho.2 with ⟨e, e2⟩ | ⟨g, cap', cur, e, hb, hg, h3⟩
  · omega
  · cases e
    refine ⟨g, rfl, hb, ⟨pk l i, ?_⟩, World.ownsRow.frozenAt ho i, l.set i (-1), by simp, ?_⟩
    · rw [World.ownsRow.cellAt ho i (by omega), nms_at hi]
    · have h1 := (World.ownsRow.stored ho i (.int .i64 (-1))).1
      unfold OwnI
      rw [List.length_set, show nms (l.set i (-1)) = (nms l).set i (.int .i64 (-1)) by simp [nms, List.map_set]]
      exact h1
theorem Nms.below {b n : Nat} {v : Value} (h : Nms b w v n) (hb : Below w.heap.size w w') : Nms b w' v n := by
  obtain ⟨l, hl, ho⟩ := h
  exact ⟨l, hl, ho.below hb⟩
set_option maxHeartbeats 8000000 in
set_option maxRecDepth 100000 in
theorem cSame (h : T2 W w B B2 t t) : Calls Try.prog 15 #[.pointer (some ⟨B, 0, none⟩), .pointer (some ⟨B2, 0, none⟩)] w fun e w' => e = .returned (.bool true) ∧ Below w.heap.size w w' := by
  have H := Lib.hid h
  clear h
  go_enter Try.func15, Try.ntmps15
  go_wp2
  go_loopw [5] (fun i wr => ∃ y : Int, -1 ≤ y ∧ y ≤ 19 ∧ i = .int .i64 y ∧ Hid (Below w.heap.size w wr)) (fun i _ => (19 - intOf i).toNat)
  case atStart => exact ⟨-1, by omega, by omega, rfl, Lib.hid (Below.refl _ _)⟩
  case round =>
    obtain ⟨y, hy1, hy2, rfl, HB⟩ := hrel
    have HA := Lib.hid (H.out.below HB.out)
    by_cases hlt : y < 19
    · obtain ⟨L, hL⟩ : ∃ L, ints (path t (nu t.n y)) = L := ⟨_, rfl⟩
      have HL := Lib.hid hL
      obtain ⟨d, hd⟩ : ∃ d, (path t (nu t.n y)).length = d := ⟨_, rfl⟩
      have HD := Lib.hid hd
      obtain ⟨up, hup⟩ : ∃ up, ((t.up (nu t.n y) : Nat) : Int) = up := ⟨_, rfl⟩
      have HU := Lib.hid hup
      obtain ⟨on, hon⟩ : ∃ on, t.on (nu t.n y) = on := ⟨_, rfl⟩
      have HO := Lib.hid hon
      obtain ⟨hh, hhh⟩ : ∃ hh, heir t (nu t.n y) = hh := ⟨_, rfl⟩
      have HH := Lib.hid hhh
      clear hL hd hup hon hhh
      go_wp2_with fail
      refine (cPath HL.out HA.out.a.tq).mono ?_
      rintro e w1 ⟨ao, cap, rfl, hown, hb⟩
      have H1 := Lib.hid (And.intro (HA.out.below hb) (And.intro hown hb))
      clear hown hb
      go_wp2_with fail
      refine (cParent H1.out.1.a.tq y up HU.out).mono ?_
      rintro e w2 ⟨rfl, rfl⟩
      go_wp2_with fail
      refine (xParent H1.out.1 up HU.out).mono ?_
      rintro e w2 ⟨rfl, rfl⟩
      go_wp2_with fail
      refine (cDepth HD.out H1.out.1.a.tq).mono ?_
      rintro e w3 ⟨rfl, hb⟩
      have H3 := Lib.hid (And.intro (H1.out.1.below hb) (And.intro (H1.out.2.1.below hb) (below_then H1.out.2.2 hb)))
      clear hb
      go_wp2_with fail
      refine (xDepth H3.out.1 HD.out).mono ?_
      rintro e w4 ⟨rfl, hb⟩
      have H4 := Lib.hid (And.intro (H3.out.1.below hb) (And.intro (H3.out.2.1.below hb) (below_then H3.out.2.2 hb)))
      clear hb
      go_wp2_with fail
      refine (cOnline H4.out.1.a.tq y on HO.out).mono ?_
      rintro e w5 ⟨rfl, rfl⟩
      go_wp2_with fail
      refine (xOnline H4.out.1 on HO.out).mono ?_
      rintro e w5 ⟨rfl, rfl⟩
      go_wp2_with fail
      refine (cHeir HH.out H4.out.1.a.tq).mono ?_
      rintro e w6 ⟨rfl, hb⟩
      have H6 := Lib.hid (And.intro (H4.out.1.below hb) (And.intro (H4.out.2.1.below hb) (below_then H4.out.2.2 hb)))
      clear hb
      go_wp2_with fail
      refine (xHeir H6.out.1 HH.out).mono ?_
      rintro e w7 ⟨rfl, rfl⟩
      go_wp2_with fail
      refine (xPath H6.out.1 HL.out).mono ?_
      rintro e w8 ⟨ao2, cap2, rfl, hown2, hb⟩
      have H8 := Lib.hid (And.intro (H6.out.1.below hb) (And.intro (H6.out.2.1.below hb) (below_then H6.out.2.2 hb)))
      have H8b := Lib.hid hown2
      clear hb hown2
      go_wp2_with fail
      refine (cEqYes _ _ L L rfl _ H8.out.2.1.shows H8b.out.shows).mono ?_
      rintro e w9 ⟨rfl, hb⟩
      have H9 := Lib.hid (And.intro (H8.out.1.below hb) (And.intro (H8.out.2.1.below hb) (below_then H8.out.2.2 hb)))
      clear hb H8b
      obtain ⟨n, hn⟩ : ∃ n, L.length = n := ⟨_, rfl⟩
      have H10 : Hid (T2 W w9 B B2 t t ∧ Nms wr.heap.size w9 (.slice ao n cap) n ∧ Below wr.heap.size wr w9) := Lib.hid ⟨H9.out.1, ⟨L, hn, by have := H9.out.2.1; rw [hn] at this; exact this⟩, H9.out.2.2⟩
      have hcap : n ≤ cap ∧ cap ≤ 9223372036854775807 := by
        obtain ⟨a', c', e, h1⟩ := own_shape H9.out.2.1
        cases e
        rw [← hn]
        exact h1
      rw [hn]
      clear hn H9 H8 H6 H4 H3 H1
      obtain ⟨wA, hwA⟩ : ∃ wA, wr = wA := ⟨_, rfl⟩
      rw [hwA] at HA HB H10
      clear hwA
      go_wp2
      go_loopw [7] (fun i wr => ∃ z : Int, -1 ≤ z ∧ z ≤ 19 ∧ i = .int .i64 z ∧ Hid (T2 W wr B B2 t t ∧ Nms wA.heap.size wr (.slice ao n cap) n ∧ Below wA.heap.size wA wr)) (fun i _ => (19 - intOf i).toNat)
      case atStart => exact ⟨-1, by omega, by omega, rfl, H10⟩
      case round =>
        clear H10
        obtain ⟨z, hz1, hz2, rfl, HR⟩ := hrel
        by_cases hlz : z < 19
        · obtain ⟨q, hq⟩ : ∃ q, belowF t y z = q := ⟨_, rfl⟩
          have HQ := Lib.hid hq
          clear hq
          go_wp2_with fail
          refine (cBelow HQ.out HR.out.1.a.tq).mono ?_
          rintro e w1 ⟨rfl, hb⟩
          have H1 := Lib.hid (And.intro (HR.out.1.below hb) (And.intro (HR.out.2.1.below hb) (below_then HR.out.2.2 hb)))
          clear hb
          go_wp2_with fail
          refine (xBelow H1.out.1 HQ.out).mono ?_
          rintro e w2 ⟨rfl, hb⟩
          have H2 := Lib.hid (And.intro (H1.out.1.below hb) (And.intro (H1.out.2.1.below hb) (below_then H1.out.2.2 hb)))
          clear hb H1 HR
          go_wp2
          go_roundw
          case rel => exact ⟨z + 1, by omega, by omega, by go_num, H2⟩
          case measure => simp [intOf]; omega
        · obtain rfl : z = 19 := by omega
          go_wp2
          go_loopw [8] (fun i wr => ∃ k : Nat, k ≤ n ∧ i = .int .i64 k ∧ Hid (Nms wA.heap.size wr (.slice ao n cap) n ∧ Below wA.heap.size wA wr)) (fun i _ => n - (intOf i).toNat)
          case atStart => exact ⟨0, by omega, rfl, Lib.hid HR.out.2⟩
          case round =>
            clear HR
            obtain ⟨k, hk, rfl, HN⟩ := hrel
            by_cases hkn : k < n
            · obtain ⟨g, rfl, hg, ⟨z0, hc⟩, hf, hn2⟩ := HN.out.1.cell hkn
              have H2 := Lib.hid (And.intro hn2 (HN.out.2.setCell (p := ⟨g, k, none⟩) hg (.int .i64 (-1))))
              clear hn2
              go_wp2
              go_roundw
              case rel => exact ⟨k + 1, by omega, by go_num, H2⟩
              case measure => simp [intOf]; omega
            · obtain rfl : k = n := by omega
              have H2 := Lib.hid (below_then HB.out HN.out.2)
              go_wp2
              go_roundw
              case rel => exact ⟨y + 1, by omega, by omega, by go_num, H2⟩
              case measure => simp [intOf]; omega
    · obtain rfl : y = 19 := by omega
      go_wp2_with fail
      refine (cMany HA.out.a.tq).mono ?_
      rintro e w2 ⟨rfl, rfl⟩
      go_wp2_with fail
      refine (xMany HA.out).mono ?_
      rintro e w2 ⟨rfl, rfl⟩
      go_wp2
      go_ret
      exact ⟨ret_bool (by simp), HB.out⟩
end
end Go.Proofs.Ytbdlkglngjjpjaa
