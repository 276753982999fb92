/-
  The program's Bytes.
-/
import Derived.Test.YtifkkblmcdggmaaOwn
set_option linter.unusedVariables false
set_option linter.unusedSimpArgs false
namespace Go.Proofs.Ytifkkblmcdggmaa
open Go Go.RowKit

theorem wCheck {v : Value} {S : Scr} {n : Int} (h : errOf (okS S) = n) (w : World) (hv : ShowScr w v S) :
    Calls Try.prog 12 #[v] w fun e w' => e = .returned (.int .i64 n) ∧ Below w.heap.size w w' := by
  have := cCheck v S w hv
  rwa [h] at this
theorem lit_own (w : World) (B : Nat) (news : List Int) (h : news.length ≤ 10) (hB : B ≤ w.heap.size) : OwnBytes B (w.alloc (.cells (bytes news).toArray 5)) (.slice (some ⟨w.heap.size, 0, none⟩) news.length news.length) news := by
  have := World.ownsRow_lit (base := B) (e := 5) (size := 1) w (bytes news).toArray news.length hB (by unfold maxLen; omega) (by simp)
  unfold OwnBytes
  simpa using this
theorem own_of_form {ao : Option Addr} {n cap : Nat} {w : World} {b o : Nat} {u : Value} (h : ao = some ⟨b, o, none⟩) (hc : w.cell? ⟨b, o, none⟩ = some u) : ∀ k, (Value.slice ao n cap).ownBlock = some k → k < w.heap.size := by
  subst h
  intro k hk
  have e : b = k := by simpa [Value.ownBlock] using hk
  subst e
  exact World.block_lt_of_cell? w _ hc
theorem lit_block {n m k B : Nat} (h : (Value.slice (some ⟨n, 0, none⟩) m m).ownBlock = some k) (hB : B ≤ n) : B ≤ k := by
  have e : n = k := by simpa [Value.ownBlock] using h
  omega
theorem OwnBytes.mono {B B' : Nat} {w : World} {v : Value} {l : List Int} (h : OwnBytes B w v l) (hB : B' ≤ B) : OwnBytes B' w v l := by
  refine ⟨h.1, ?_⟩
  rcases h.2 with h2 | ⟨g, cap, cur, h1, h2, h3⟩
  · exact .inl h2
  · exact .inr ⟨g, cap, cur, h1, Nat.le_trans hB h2, h3⟩
theorem self4 {w : World} {K : Nat} {a b c d : Value} {t : TypeId} {fr : Nat × Nat} (h : w.heap[K]? = some (.cells #[a, b, c, d] t fr)) : w.cell? ⟨K, 0, none⟩ = some a ∧ w.cell? ⟨K, 1, none⟩ = some b ∧ w.cell? ⟨K, 2, none⟩ = some c ∧ w.cell? ⟨K, 3, none⟩ = some d := by
  refine ⟨?_, ?_, ?_, ?_⟩ <;> (unfold World.cell?; dsimp only; rw [h]; rfl)
theorem head3_take (S : Scr) (k : Nat) (hk : k < S.calls.length) : head3 S ++ encLs (S.calls.take (k + 1)) = head3 S ++ encLs (S.calls.take k) ++ encL S.calls[k] := by
  unfold encLs
  rw [List.take_succ_eq_append_getElem hk, List.flatMap_append]
  simp
theorem enc_take (S : Scr) (k : Nat) (hk : k < S.picks.length) : head3 S ++ encLs S.calls ++ S.picks.take (k + 1) = head3 S ++ encLs S.calls ++ S.picks.take k ++ [S.picks[k]] := by
  rw [List.take_succ_eq_append_getElem hk]
  simp
/-- a list that a slice shows, or no list: the slice's block lies below -/
theorem calls_block {w : World} {v : Value} {l : List Cl} (h : ShowCalls w v l) (hl : 0 < l.length) : ∀ k, v.ownBlock = some k → k < w.heap.size := by
  obtain ⟨ao, cap, rfl, _, hat⟩ := h.form
  obtain ⟨b, o, hao, h0, _⟩ := hat 0 hl
  exact own_of_form hao (by simpa using h0)

set_option maxHeartbeats 4000000 in
set_option maxRecDepth 100000 in
theorem cBytes (v : Value) (S : Scr) (w : World) (hv : ShowScr w v S) (hok : okS S = true) :
    Calls Try.prog 10 #[v] w fun e w' => ∃ vb, e = .returned (.tuple #[vb, .int .i64 0]) ∧ OwnBytes w.heap.size w' vb (enc S) ∧ Below w.heap.size w w' := by
  have HC := fun W h => wCheck (v := v) (S := S) (n := 0) (by rw [hok]; rfl) W h
  have hvv := hv
  obtain ⟨vc, vp, rfl, hc, hp⟩ := hv
  obtain ⟨h1, h2, h3, h4, h5, h6⟩ := okS_iff.1 hok
  have hup := enc_upper hok
  obtain ⟨cpus, pages, L, P⟩ := S
  dsimp only at hc hp h1 h2 h3 h4 h5 h6 HC ⊢
  subst h3
  obtain ⟨ao, cap, rfl, hcap, hat⟩ := hc.form
  obtain ⟨ap, capp, rfl, hcapp, hatp⟩ := hp.form
  have H3 := Lib.hid (head3_take ⟨L.length, pages, L, P⟩)
  have H4 := Lib.hid (enc_take ⟨L.length, pages, L, P⟩)
  have HU := Lib.hid hup
  have HV := Lib.hid hvv
  clear hc hp hup hvv hok
  go_enter Try.func10, Try.ntmps10
  go_wp2_with fail
  refine (HC _ (HV.out.below (below_one (Below.refl _ _) _))).mono ?_
  rintro e w1 ⟨rfl, hb1⟩
  clear HC
  have hself1 : w1.heap[w.heap.size]? = some (.cells #[.int .i64 L.length, .int .i64 pages, .slice ao L.length cap, .slice ap P.length capp] 25 (0, 0)) := by
    rw [hb1.block _ (by rw [size_alloc]; omega)]
    exact heap_new _ _
  rw [size_alloc] at hb1
  have hz1 : w.heap.size + 1 ≤ w1.heap.size := by have := hb1.size; rw [size_alloc] at this; exact this
  obtain ⟨e0, e1, e2, e3⟩ := self4 hself1
  have hlt1 : w.heap.size < w1.heap.size := by omega
  go_wp2_with fail
  refine (cAddTwo (w.heap.size + 1) _ [(L.length : Int) - 1] (pages - 1) _ (by simp; omega) (lit_own w1 _ [(L.length : Int) - 1] (by simp) hz1) (by simp)).mono ?_
  rintro e w2 ⟨v2, rfl, hown2, hg2⟩
  have hb2 : Below (w.heap.size + 1) w1 w2 := (Grew.ofAlloc hg2).below hz1 (fun k hk => lit_block hk hz1)
  have hb02 : Below (w.heap.size + 1) (w.alloc _) w2 := hb1.trans hb2
  have hown2' : OwnBytes (w.heap.size + 1) w2 v2 (head3 ⟨L.length, pages, L, P⟩ ++ encLs (L.take 0)) := by
    have e : [(L.length : Int) - 1] ++ [by8 ((pages - 1) / 256), by8 (pages - 1)] = head3 ⟨L.length, pages, L, P⟩ ++ encLs (L.take 0) := by
      rw [by8_in (x := (pages - 1) / 256) (by omega) (by omega)]
      simp [head3, encLs, by8]
    rw [← e]
    exact hown2
  have hself2 := (hb2.block w.heap.size (by omega)).trans hself1
  clear hown2 hself1 hb1 hb2 hg2 e0 e1 e2 e3
  obtain ⟨e0, e1, e2, e3⟩ := self4 hself2
  go_wp2
  go_loopw [5, 25] (fun o i wr => ∃ k : Nat, k ≤ L.length ∧ i = .int .i64 k ∧ OwnBytes (w.heap.size + 1) wr o (head3 ⟨L.length, pages, L, P⟩ ++ encLs (L.take k)) ∧ Below (w.heap.size + 1) (w.alloc (.cells #[.int .i64 L.length, .int .i64 pages, .slice ao L.length cap, .slice ap P.length capp] 25)) wr) (fun _ i _ => L.length - (intOf i).toNat)
  case atStart => exact ⟨0, by omega, rfl, hown2', hb02⟩
  case round =>
    obtain ⟨k, hk, rfl, hown, hb⟩ := hrel
    have hself := (hb.block w.heap.size (by omega)).trans (heap_new _ _)
    have hz := hb.size
    rw [size_alloc] at hz
    obtain ⟨e0, e1, e2, e3⟩ := self4 hself
    by_cases hlt : k < L.length
    · obtain ⟨b, o, u, rfl, hu, hcs⟩ := hat k hlt
      have hbl : Below w.heap.size w wr := (below_one (Below.refl _ _) _).trans (hb.mono (by omega))
      have hB : b < w.heap.size := World.block_lt_of_cell? w _ hu
      have hu2 := (hbl.cell (p := ⟨b, o + k, none⟩) hB).trans hu
      have hcs2 := hcs.below hbl
      have hol := okL_iff.1 (h5 _ (List.getElem_mem hlt))
      have hlen : (head3 ⟨L.length, pages, L, P⟩ ++ encLs (L.take k)).length ≤ 10000 := by
        have := HU.out
        have e : (encLs (L.take k)).length ≤ (encLs L).length := by
          conv => rhs; rw [← List.take_append_drop k L]
          unfold encLs
          rw [List.flatMap_append, List.length_append]
          omega
        simp only [enc, List.length_append] at this ⊢
        omega
      have hub : 0 < L[k].length → ∀ j, u.ownBlock = some j → j < w.heap.size + 1 := fun h0 j hj => by have := calls_block hcs h0 j hj; omega
      have HL := Lib.hid hol
      have HB := Lib.hid hub
      have HLen := Lib.hid hlen
      clear hu hol hlen hub
      go_wp2_with fail
      refine (cAddCalls (w.heap.size + 1) _ u _ L[k] _ hz hown HLen.out HL.out.1 hcs2 HB.out HL.out.2).mono ?_
      rintro e w3 ⟨v3, rfl, hown3, hg3⟩
      have hb3 := hg3.below hz (fun j hj => (hown.lt j hj).1)
      go_wp2
      go_roundw
      case rel => exact ⟨k + 1, by omega, by go_num, by rw [H3.out k hlt]; exact hown3, hb.trans hb3⟩
      case measure => simp [intOf]; omega
    · have hke : k = L.length := by omega
      subst hke
      rw [List.take_length] at hown
      go_wp2
      go_loopw [5, 39] (fun o i wr => ∃ k : Nat, k ≤ P.length ∧ i = .int .i64 k ∧ OwnBytes (w.heap.size + 1) wr o (head3 ⟨L.length, pages, L, P⟩ ++ encLs L ++ P.take k) ∧ Below (w.heap.size + 1) (w.alloc (.cells #[.int .i64 L.length, .int .i64 pages, .slice ao L.length cap, .slice ap P.length capp] 25)) wr) (fun _ i _ => P.length - (intOf i).toNat)
      case atStart => exact ⟨0, by omega, rfl, by simpa using hown, hb⟩
      case round =>
        obtain ⟨k, hk, rfl, hown, hb⟩ := hrel
        have hself := (hb.block w.heap.size (by omega)).trans (heap_new _ _)
        have hz := hb.size
        rw [size_alloc] at hz
        have hbl : Below w.heap.size w wr := (below_one (Below.refl _ _) _).trans (hb.mono (by omega))
        by_cases hlt : k < P.length
        · obtain ⟨b, o, rfl, hu⟩ := hatp k hlt
          have hB : b < w.heap.size := World.block_lt_of_cell? w _ hu
          have hu2 := (hbl.cell (p := ⟨b, o + k, none⟩) hB).trans hu
          have hx := h6 _ (List.getElem_mem hlt)
          have HE := Lib.hid (H4.out k hlt)
          have hlen : (head3 ⟨L.length, pages, L, P⟩ ++ encLs L ++ P.take k).length ≤ 10000 := by
            have := HU.out
            simp only [enc, List.length_append, List.length_take] at this ⊢
            omega
          have HLen := Lib.hid hlen
          clear hu hlen
          generalize P[k] = x at hu2 hx HE
          go_wp2_with (at_builtin; refine append_bytes (by rfl) _ _ (by rfl) _ _ hown (by rfl) [x] (by rfl) (Nat.le_trans HLen.out (by omega)) (by simp) hz ?_)
          intro v3 w3 hown3 hg3
          have hb3 := hg3.below hz (fun j hj => (hown.lt j hj).1)
          go_wp2
          go_roundw
          case rel => exact ⟨k + 1, by omega, by go_num, by rw [HE.out]; simpa only [List.append_assoc] using hown3, hb.trans hb3⟩
          case measure => simp [intOf]; omega
        · have hke : k = P.length := by omega
          subst hke
          rw [List.take_length] at hown
          go_wp2
          go_ret2
          exact ⟨_, rfl, hown.mono (by omega), hbl⟩

set_option maxHeartbeats 1000000 in
set_option maxRecDepth 100000 in
theorem cBytesNo (v : Value) (S : Scr) (w : World) (hv : ShowScr w v S) (hok : okS S = false) :
    Calls Try.prog 10 #[v] w fun e w' => e = .returned (.tuple #[.slice none 0 0, .int .i64 2]) ∧ Below w.heap.size w w' := by
  have HC := fun W h => wCheck (v := v) (S := S) (n := 2) (by rw [hok]; rfl) W h
  have hvv := hv
  obtain ⟨vc, vp, rfl, hc, hp⟩ := hv
  go_enter Try.func10, Try.ntmps10
  go_wp2_with fail
  refine (HC _ (hvv.below (below_one (Below.refl _ _) _))).mono ?_
  rintro e w1 ⟨rfl, hb1⟩
  go_wp2
  go_ret2
  exact ⟨rfl, below_then (below_one (Below.refl _ _) _) hb1⟩
end Go.Proofs.Ytifkkblmcdggmaa
