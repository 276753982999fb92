/-
  Try of the program, walked.
-/
import Derived.Test.YtahkfagfobfliaaTry
import Derived.BigQuiet
set_option linter.unusedVariables false
set_option linter.unusedSimpArgs false
namespace Go.Proofs.Ytahkfagfobfliaa
open Go Go.RowKit

/-- a list stays whatever a call changes -/
def Stays (w : World) (g : Nat) (u : Value) (l : List Int) : Prop := ∀ w', Kept (· = g) w w' → ShowI w' u l
theorem show_cell {w : World} {b o n cap i : Nat} {l : List Int} (h : ShowI w (.slice (some ⟨b, o, none⟩) n cap) l) (hi : i < l.length) : w.cell? ⟨b, o + i, none⟩ = some (.int .i64 (pk l i)) := by
  obtain ⟨ao, c, e, _, hat⟩ := h.form
  obtain ⟨b1, o1, e1, c1⟩ := hat i hi
  simp only [Value.slice.injEq] at e
  obtain ⟨e2, _⟩ := e
  rw [e1] at e2
  cases e2
  exact c1
theorem show_some {w : World} {u : Value} {l : List Int} (h : ShowI w u l) (hl : 1 ≤ l.length) : ∃ b o cap, u = .slice (some ⟨b, o, none⟩) l.length cap ∧ (l.length ≤ cap ∧ cap ≤ 9223372036854775807) := by
  obtain ⟨ao, cap, rfl, hc, hat⟩ := h.form
  obtain ⟨b, o, rfl, _⟩ := hat 0 (by omega)
  exact ⟨b, o, cap, rfl, hc⟩
set_option maxHeartbeats 4000000 in
set_option maxRecDepth 100000 in
theorem cTryGo {w : World} {B g m : Nat} {t : Ct} {n : Int} {l : List Int} {u : Value} {R : Ending → World → Prop} (h : CV w B g t) (hc : CI t) (hq : askP l n = 0) (hp : IsPath l) (hn : isN n) (hu : Stays w g u l)
    (hm : m ≤ l.length) (hb : ∀ i, i < m → fits t (pk l i) n) (hf : m < l.length → ¬ fits t (pk l m) n)
    (hR1 : m < l.length → ∀ w', CV w' B g t → Kept (· = g) w w' → R (.returned (.tuple #[.int .i64 (pk l m), .int .i64 120])) w')
    (hR2 : m = l.length → ∀ w', CV w' B g (t.all l n) → Kept (· = g) w w' → R (.returned (.tuple #[.int .i64 0, .int .i64 0])) w') :
    Calls Try.prog 20 #[.pointer (some ⟨B, 0, none⟩), u, .int .i64 n] w R := by
  obtain ⟨b, o, cap, rfl, hcap⟩ := show_some (hu w (Kept.refl _ _)) hp.n1
  have hl8 := hp.n2
  have HA := Lib.hid h
  have HU := Lib.hid hu
  have HQ := Lib.hid hq
  have HP := Lib.hid hp
  have HN := Lib.hid hn
  have HC := Lib.hid hc
  have HB := Lib.hid hb
  have HF := Lib.hid hf
  have HR1 := Lib.hid hR1
  have HR2 := Lib.hid hR2
  clear h hu hq hp hn hc hb hf hR1 hR2
  go_enter_defers Try.func20, Try.ntmps20
  go_wp2_with fail
  have HB3 := Lib.hid (below3 w (.cells #[.pointer (some ⟨B, 0, none⟩)] 23) (.cells #[.int .i64 n] 3) (.cells #[.int .i64 0] 35))
  have HX := Lib.hid (bx_new w B n 0)
  refine (cCheckPath (HA.out.below HB3.out) _ l n 0 HQ.out (HU.out _ (Kept.ofBelow HB3.out))).mono ?_
  rintro e w1 ⟨rfl, rfl⟩
  have HA3 := Lib.hid (HA.out.below HB3.out)
  have HK3 : Hid (Kept (· = g) w _) := Lib.hid (Kept.ofBelow HB3.out)
  go_wp2
  generalize (((w.alloc (.cells #[.pointer (some ⟨B, 0, none⟩)] 23)).alloc (.cells #[.int .i64 n] 3)).alloc (.cells #[.int .i64 0] 35)) = w3 at *
  refine wp_loop (fun a' wr => ∃ (k : Nat) (ds : List Deferred) (u0 u1 u2 u4 u8 u9 u10 u11 u12 u13 u14 u15 u16 u19 u20 u21 u22 u23 u24 u25 u26 u27 u28 u29 u30 u31 u32 : Value), (k ≤ m ∧ u19 = .int .i64 k ∧ Hid (CV wr B g (t.all (l.take k) n)) ∧ Hid (Bx wr w.heap.size (w.heap.size + 1) (w.heap.size + 1 + 1) B n 0) ∧ Hid (Dfs wr l w.heap.size (w.heap.size + 1) (w.heap.size + 1 + 1) k ds) ∧ Hid (Kept (· = g) w wr)) ∧ a' = { tmps := #[u0, u1, u2, .pointer (some ⟨w.heap.size, 0, none⟩), u4, .pointer (some ⟨w.heap.size + 1, 0, none⟩), .int .i64 0, .pointer (some ⟨w.heap.size + 1 + 1, 0, none⟩), u8, u9, u10, u11, u12, u13, u14, u15, u16, .slice (some ⟨b, o, none⟩) l.length cap, .int .i64 l.length, u19, u20, u21, u22, u23, u24, u25, u26, u27, u28, u29, u30, u31, u32], defers := ds }) (fun a' _ => l.length - (intOf (a'.tmps.getD 19 undef)).toNat) ?_ ?_
  · exact ⟨0, [], _, _, _, _, _, _, _, _, _, _, _, _, _, _, _, _, _, _, _, _, _, _, _, _, _, _, _, ⟨by omega, rfl, Lib.hid (by rw [List.take_zero, Ct.all_nil]; exact HA3.out), HX, Lib.hid .nil, HK3⟩, rfl⟩
  · rintro a' wr ⟨k, ds, u0, u1, u2, u4, u8, u9, u10, u11, u12, u13, u14, u15, u16, u19, u20, u21, u22, u23, u24, u25, u26, u27, u28, u29, u30, u31, u32, ⟨hk, rfl, HV, HXr, HD, HK⟩, rfl⟩
    dsimp only
    clear HX HA3 HK3 HB3
    have HGE : Hid (w.heap.size ≤ w.heap.size + 1 + 1) := Lib.hid (by omega)
    generalize hK2 : w.heap.size + 1 + 1 = K2 at HXr HD HGE ⊢
    generalize hK1 : w.heap.size + 1 = K1 at HXr HD ⊢
    generalize hK0 : w.heap.size = K0 at HXr HD ⊢
    clear hK2 hK1 hK0
    have c0 := self_cell HXr.out.c 0 _ rfl
    have c1 := self_cell HXr.out.n 0 _ rfl
    have c2 := self_cell HXr.out.e 0 _ rfl
    have f2 := self_free HXr.out.e 0
    have l0 := lt_of_block HXr.out.c
    have l1 := lt_of_block HXr.out.n
    have l2 := lt_of_block HXr.out.e
    have hmf : ∀ (fn : Fn) (first cap : Array Value) (w : World), (Instr.makeFunc fn first cap).run Try.prog w = .ok (.func fn first cap) w := fun _ _ _ _ => rfl
    by_cases hkl : k < l.length
    · have cp := show_cell (HU.out wr HK.out) hkl
      obtain ⟨K, hKk, h1, h2, h3⟩ := HP.out.next hkl
      have hbo := below_one (Below.refl _ wr) (.cells #[.int .i64 (pk l k)] 3)
      have HVa := Lib.hid (HV.out.below hbo)
      have hus : (t.all (l.take k) n).us K = t.us K := by rw [all_us, if_neg h3]
      have HCI : Hid (CI (t.all (l.take k) n)) := Lib.hid (all_ci HC.out HN.out (fun i hi _ => HB.out i (by omega)))
      by_cases hkm : k < m
      · have HR : Hid (UpIs (t.all (l.take k) n) (pk l k) n 0 (t.all (l.take (k + 1)) n)) := Lib.hid (by
          rw [Ct.all_next t l n hkl HP.out.d hKk]
          refine .ok K hKk h1 h2 HN.out ?_
          rw [hus]
          have := HB.out k hkm
          unfold fits at this
          rwa [hKk, Int.toNat_natCast] at this)
        have hkm1 : k + 1 ≤ m := hkm
        clear hbo hus h1 h2 h3 hKk
        go_wp2_with fail
        refine (cUp HVa.out HCI.out HR.out).mono ?_
        rintro e w2 ⟨rfl, hv2, hk2⟩
        have hX2 := (HXr.out.below (below_one (Below.refl _ wr) (.cells #[.int .i64 (pk l k)] 3))).kept hk2 HVa.out.typ (by decide)
        have d2 := self_cell hX2.e 0 _ rfl
        have g2 := self_free hX2.e 0
        have HNX := Lib.hid (bx_next HXr.out HD.out HVa.out HK.out HGE.out hv2 hk2 0)
        clear hv2 hk2 hX2
        go_wp2
        refine ⟨⟨k + 1, _, _, _, _, _, _, _, _, _, _, _, _, _, _, _, _, _, _, _, _, _, _, _, _, _, _, _, _, ⟨hkm1, ?_, Lib.hid HNX.out.2.2.1, Lib.hid HNX.out.1, Lib.hid HNX.out.2.1, Lib.hid HNX.out.2.2.2.1⟩, rfl⟩, ?_⟩
        · go_num
        · simp [intOf]; omega
      · obtain rfl : k = m := by omega
        have HR : Hid (UpIs (t.all (l.take k) n) (pk l k) n 120 (t.all (l.take k) n)) := Lib.hid (by
          refine .full K hKk h1 h2 HN.out ?_
          rw [hus]
          have := HF.out hkl
          unfold fits at this
          rw [hKk, Int.toNat_natCast] at this
          show t.mo K < _
          omega)
        clear hbo hus h1 h2 h3 hKk
        go_wp2_with fail
        refine (cUp HVa.out HCI.out HR.out).mono ?_
        rintro e w2 ⟨rfl, hv2, hk2⟩
        have hX2 := (HXr.out.below (below_one (Below.refl _ wr) (.cells #[.int .i64 (pk l k)] 3))).kept hk2 HVa.out.typ (by decide)
        have d2 := self_cell hX2.e 0 _ rfl
        have g2 := self_free hX2.e 0
        have HNX := Lib.hid (bx_next HXr.out HD.out HVa.out HK.out HGE.out hv2 hk2 120)
        clear hv2 hk2 hX2
        go_wp2
        generalize (w2.setCell ⟨K2, 0, none⟩ (.int .i64 120)) = w4 at *
        have e2 := self_cell HNX.out.1.e 0 _ rfl
        have g4 := self_free HNX.out.1.e 0
        have eg := HNX.out.2.2.2.2.2
        have HK4 : Hid (Kept (· = K2) w4 (w4.setCell ⟨K2, 0, none⟩ (.int .i64 120))) := Lib.hid (kept_one _ _)
        go_region
        go_wp2
        exact leaves_undo HP.out HC.out HN.out (by decide) (fun w' hv hk hc => ⟨_, res_try rfl rfl hc, HR1.out hkl w' hv hk⟩) k ds _ ((HNX.out.2.2.2.2.1.kept HK4.out HNX.out.1.typ (by decide)).keepB (Below.refl _ _).drew) (by omega) (fun i hi => HB.out i hi) ((HNX.out.1.setE 120).below (Below.refl _ _).drew) ((HNX.out.2.2.1.kept HK4.out HNX.out.1.typ (by decide)).below (Below.refl _ _).drew) (HNX.out.2.2.2.1.setNew HGE.out _).drew
    · obtain rfl : k = l.length := by omega
      obtain rfl : m = l.length := by omega
      have HK4 : Hid (Kept (· = K2) wr (wr.setCell ⟨K2, 0, none⟩ (.int .i64 0))) := Lib.hid (kept_one _ _)
      have HV4 := Lib.hid (HV.out.kept HK4.out HXr.out.typ (by decide))
      rw [List.take_length] at HV4
      go_wp2
      exact leaves_idle (HXr.out.setE 0) ⟨_, res_try rfl rfl (self_cell (HXr.out.setE 0).e 0 _ rfl), HR2.out trivial _ HV4.out (HK.out.setNew HGE.out _)⟩ _ ds (HD.out.kept HK4.out HXr.out.typ (by decide))
/-- Try in one -/
theorem cTry {w : World} {B g : Nat} {t t' : Ct} {n q a e : Int} {l : List Int} {u : Value} (h : CV w B g t) (hc : CI t) (hq : askP l n = q) (hr : TryIs q t l n a e t') (hu : Stays w g u l) :
    Calls Try.prog 20 #[.pointer (some ⟨B, 0, none⟩), u, .int .i64 n] w fun e' w' => e' = .returned (.tuple #[.int .i64 a, .int .i64 e]) ∧ CV w' B g t' ∧ Kept (· = g) w w' := by
  cases hr with
  | bad h0 =>
    refine (tTry h hq h0 (hu w (Kept.refl _ _))).mono ?_
    rintro e' w' ⟨rfl, h1, h2⟩
    exact ⟨rfl, h1, Kept.ofBelow h2⟩
  | full j h0 hp hn hj hb hf =>
    subst h0
    exact cTryGo h hc hq hp hn hu (m := j) (by omega) hb (fun _ => hf) (fun _ w' h1 h2 => ⟨rfl, h1, h2⟩) (fun e => by omega)
  | ok h0 hp hn hb =>
    subst h0
    exact cTryGo h hc hq hp hn hu (m := l.length) (by omega) hb (fun e => by omega) (fun e => by omega) (fun _ w' h1 h2 => ⟨rfl, h1, h2⟩)
end Go.Proofs.Ytahkfagfobfliaa
