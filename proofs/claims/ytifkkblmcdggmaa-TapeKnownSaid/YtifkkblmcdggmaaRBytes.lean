/-
  The document's own Bytes.
-/
import Derived.Test.YtifkkblmcdggmaaRCheck
import Derived.Test.YtifkkblmcdggmaaBytes
set_option linter.unusedVariables false
set_option linter.unusedSimpArgs false
namespace Go.Proofs.Ytifkkblmcdggmaa
open Go Go.RowKit

theorem wRCheck {v : Value} {S : Scr} {n : Int} (h : errOf (okS S) = n) (w : World) (hv : ShowScr w v S) :
    Calls Try.prog 13 #[v] w fun e w' => e = .returned (.int .i64 n) ∧ Below w.heap.size w w' := by
  have := cRCheck v S w hv
  rwa [h] at this
theorem append_bytesG {ops : Array Oper} {rest : List Oper} {o : Oper} {a : Act} {Q : Exit → Act → World → Prop} {w : World} {B : Nat} (hgd : o.guard = none) (s x : Operand)
    (ho : o.op = .call { callee := .builtin .append, args := #[s, x], argTypes := #[27, 27] })
    (v : Value) (l : List Int) (hown : OwnBytes B w v l) (hs : a.eval s = v) (news : List Int) (g : Nat) (hg : w.heap.size = g) (hx : a.eval x = .slice (some ⟨g, 0, none⟩) news.length news.length)
    (hl : l.length ≤ 140737488355328 - 10) (hn : news.length ≤ 10) (hB : B ≤ w.heap.size)
    (h : ∀ v' w', OwnBytes B w' v' (l ++ news) → Grew w w' v v' → wpList Try.prog ops Q rest (a.put o.dst v') w') :
    wpList Try.prog ops Q (o :: rest) a (w.alloc (.cells (bytes news).toArray 5)) := by
  subst hg
  exact append_bytes hgd s x ho v l hown hs news hx hl hn hB h
theorem head3_len (S : Scr) (k : Nat) (hk : k < S.calls.length) : head3 S ++ encLs (S.calls.take (k + 1)) = head3 S ++ encLs (S.calls.take k) ++ [(S.calls[k].length : Int)] ++ (S.calls[k].take S.calls[k].length).flatMap encC := by
  rw [head3_take S k hk, List.take_length]
  simp [encL]
theorem flat_take (l : List Cl) (q : Nat) (hq : q < l.length) (p : List Int) : p ++ (l.take (q + 1)).flatMap encC = p ++ (l.take q).flatMap encC ++ encC l[q] := by
  rw [List.take_succ_eq_append_getElem hq, List.flatMap_append]
  simp

set_option maxHeartbeats 1000000 in
set_option maxRecDepth 100000 in
theorem cRBytesNo (v : Value) (S : Scr) (w : World) (hv : ShowScr w v S) (hok : okS S = false) :
    Calls Try.prog 11 #[v] w fun e w' => e = .returned (.tuple #[.slice none 0 0, .int .i64 2]) ∧ Below w.heap.size w w' := by
  have HC := fun W h => wRCheck (v := v) (S := S) (n := 2) (by rw [hok]; rfl) W h
  have hvv := hv
  obtain ⟨vc, vp, rfl, hc, hp⟩ := hv
  go_enter Try.func11, Try.ntmps11
  go_wp2_with fail
  refine (HC _ (hvv.below (below_one (Below.refl _ _) _))).mono ?_
  rintro e w1 ⟨rfl, hb1⟩
  go_wp2
  go_ret2
  exact ⟨rfl, below_then (below_one (Below.refl _ _) _) hb1⟩

set_option maxHeartbeats 4000000 in
set_option maxRecDepth 100000 in
theorem cRBytes (v : Value) (S : Scr) (w : World) (hv : ShowScr w v S) (hok : okS S = true) :
    Calls Try.prog 11 #[v] w fun e w' => ∃ vb, e = .returned (.tuple #[vb, .int .i64 0]) ∧ OwnBytes w.heap.size w' vb (enc S) ∧ Below w.heap.size w w' := by
  have HC := fun W h => wRCheck (v := v) (S := S) (n := 0) (by rw [hok]; rfl) W h
  have hvv := hv
  obtain ⟨vc, vp, rfl, hc, hp⟩ := hv
  obtain ⟨h1, h2, h3, h4, h5, h6⟩ := okS_iff.1 hok
  have hup := enc_upper hok
  obtain ⟨cpus, pages, L, P⟩ := S
  dsimp only at hc hp h1 h2 h3 h4 h5 h6 HC ⊢
  subst h3
  obtain ⟨ao, cap, rfl, hcap, hat⟩ := hc.form
  obtain ⟨ap, capp, rfl, hcapp, hatp⟩ := hp.form
  have H3 := Lib.hid (head3_len ⟨L.length, pages, L, P⟩)
  have H4 := Lib.hid (enc_take ⟨L.length, pages, L, P⟩)
  have HU := Lib.hid hup
  have HV := Lib.hid hvv
  have hd1 : (pages - 1).tdiv 256 = (pages - 1) / 256 := Int.tdiv_eq_ediv_of_nonneg (by omega)
  have hd2 : (pages - 1).tmod 256 = (pages - 1) % 256 := Int.tmod_eq_emod_of_nonneg (by omega)
  clear hc hp hup hvv hok
  go_enter Try.func11, Try.ntmps11
  go_wp2_with fail
  refine (HC _ (HV.out.below (below_one (Below.refl _ _) _))).mono ?_
  rintro e w1 ⟨rfl, hb1⟩
  clear HC
  have hself1 : w1.heap[w.heap.size]? = some (.cells #[.int .i64 L.length, .int .i64 pages, .slice ao L.length cap, .slice ap P.length capp] 25 (0, 0)) := by
    rw [hb1.block _ (by rw [size_alloc]; omega)]
    exact heap_new _ _
  rw [size_alloc] at hb1
  have hz1 : w.heap.size + 1 ≤ w1.heap.size := by have := hb1.size; rw [size_alloc] at this; exact this
  obtain ⟨e0, e1, e2, e3⟩ := self4 hself1
  have hown1 : OwnBytes (w.heap.size + 1) (w1.alloc (.cells #[.int .u8 ((L.length : Int) - 1), .int .u8 ((pages - 1) / 256), .int .u8 ((pages - 1) % 256)] 5)) (.slice (some ⟨w1.heap.size, 0, none⟩) 3 3) (head3 ⟨L.length, pages, L, P⟩ ++ encLs (L.take 0)) := by
    have := lit_own w1 (w.heap.size + 1) [(L.length : Int) - 1, (pages - 1) / 256, (pages - 1) % 256] (by simp) hz1
    simpa [head3, encLs] using this
  have hb2 : Below (w.heap.size + 1) (w.alloc (.cells #[.int .i64 L.length, .int .i64 pages, .slice ao L.length cap, .slice ap P.length capp] 25)) (w1.alloc (.cells #[.int .u8 ((L.length : Int) - 1), .int .u8 ((pages - 1) / 256), .int .u8 ((pages - 1) % 256)] 5)) := hb1.alloc hz1 _
  have HO1 := Lib.hid hown1
  have HB2 := Lib.hid hb2
  have hlt1 : w.heap.size < w1.heap.size := by omega
  clear hown1 hb2 hself1
  go_wp2
  go_loopw [5, 6] (fun o i wr => ∃ k : Nat, k ≤ L.length ∧ i = .int .i64 k ∧ OwnBytes (w.heap.size + 1) wr o (head3 ⟨L.length, pages, L, P⟩ ++ encLs (L.take k)) ∧ Below (w.heap.size + 1) (w.alloc (.cells #[.int .i64 L.length, .int .i64 pages, .slice ao L.length cap, .slice ap P.length capp] 25)) wr) (fun _ i _ => L.length - (intOf i).toNat)
  case atStart => exact ⟨0, by omega, rfl, HO1.out, HB2.out⟩
  case round =>
    clear hb1 hz1 e0 e1 e2 e3 hlt1
    obtain ⟨wo, hwo⟩ : ∃ x, x = wr := ⟨_, rfl⟩
    subst hwo
    obtain ⟨k, hk, rfl, hown, hb⟩ := hrel
    have hself := self_of hb
    have hz := hb.size
    rw [size_alloc] at hz
    obtain ⟨e0, e1, e2, e3⟩ := self4 hself
    by_cases hlt : k < L.length
    · obtain ⟨b, o, u, rfl, hu, hcs⟩ := hat k hlt
      have hbl : Below w.heap.size w wo := (below_one (Below.refl _ _) _).trans (hb.mono (by omega))
      have hB : b < w.heap.size := World.block_lt_of_cell? w _ hu
      have hu2 := (hbl.cell (p := ⟨b, o + k, none⟩) hB).trans hu
      have hol := okL_iff.1 (h5 _ (List.getElem_mem hlt))
      have H3k := Lib.hid (H3.out k hlt)
      have hlen : (head3 ⟨L.length, pages, L, P⟩ ++ encLs (L.take k)).length ≤ 10000 := by
        have := HU.out
        have e : (encLs (L.take k)).length ≤ (encLs L).length := by
          conv => rhs; rw [← List.take_append_drop k L]
          unfold encLs
          rw [List.flatMap_append, List.length_append]
          omega
        simp only [enc, List.length_append] at this ⊢
        omega
      have hcl : ∀ j, u.ownBlock = some j → 0 < L[k].length → j < w.heap.size + 1 := fun j hj h0 => by have := calls_block hcs h0 j hj; omega
      obtain ⟨lo, lcap, rfl, hlcap, hlat⟩ := hcs.form
      have hl64 := hol.1
      have HOK := Lib.hid hol.2
      have HUW := Lib.hid hu
      have HLen := Lib.hid hlen
      clear hu hol hlen hcs hcl
      have HBL := Lib.hid hbl
      generalize head3 ⟨L.length, pages, L, P⟩ ++ encLs (L.take k) = pre at hown H3k HLen
      generalize L[k] = l at hu2 hlcap hlat hl64 HOK H3k HUW
      go_wp2_with (at_builtin; refine append_bytes (by rfl) _ _ (by rfl) _ _ hown (by rfl) [(l.length : Int)] (by rfl) (Nat.le_trans HLen.out (by decide)) (by simp) hz ?_)
      intro v1 w2 hown2 hg2
      have hb2 := hb.trans (hg2.below hz (fun j hj => (hown.lt j hj).1))
      clear e0 e1 e2 e3 hself
      go_wp2
      go_loopw [5, 7] (fun ov i wr => ∃ q : Nat, q ≤ l.length ∧ i = .int .i64 q ∧ OwnBytes (w.heap.size + 1) wr ov (pre ++ [(l.length : Int)] ++ (l.take q).flatMap encC) ∧ Below (w.heap.size + 1) (w.alloc (.cells #[.int .i64 L.length, .int .i64 pages, .slice (some ⟨b, o, none⟩) L.length cap, .slice ap P.length capp] 25)) wr) (fun _ i _ => l.length - (intOf i).toNat)
      case atStart => exact ⟨0, by omega, rfl, by simpa using hown2, hb2⟩
      case round =>
        obtain ⟨q, hq, rfl, hown3, hb3⟩ := hrel
        have hz3 := hb3.size
        rw [size_alloc] at hz3
        obtain ⟨e0, e1, e2, e3⟩ := self4 (self_of hb3)
        have hbl3 : Below w.heap.size w wr := (below_one (Below.refl _ _) _).trans (hb3.mono (by omega))
        have hu3 := (hbl3.cell (p := ⟨b, o + k, none⟩) hB).trans HUW.out
        by_cases hql : q < l.length
        · obtain ⟨b3, o3, rfl, hcl⟩ := hlat q hql
          obtain ⟨hB3, f0, f1, f2, f3⟩ := call_cells hbl3 hcl
          have hoc := okC_iff.1 (HOK.out _ (List.getElem_mem hql))
          have HE := Lib.hid (flat_take l q hql (pre ++ [(l.length : Int)]))
          have hlq : (pre ++ [(l.length : Int)] ++ (l.take q).flatMap encC).length ≤ 11000 := by
            have := HLen.out
            simp only [List.length_append, flat_encC_length, List.length_take, List.length_cons, List.length_nil]
            omega
          have HLQ := Lib.hid hlq
          clear hcl hlq
          generalize l[q] = c at f0 f1 f2 f3 hoc HE
          obtain ⟨op, a, bb, cc⟩ := c
          dsimp only at f0 f1 f2 f3 hoc
          have hd3 : bb.tdiv 256 = bb / 256 := Int.tdiv_eq_ediv_of_nonneg (by omega)
          have hd4 : bb.tmod 256 = bb % 256 := Int.tmod_eq_emod_of_nonneg (by omega)
          have HEE : Hid (encC ⟨op, a, bb, cc⟩ = [op, a, bb / 256, bb % 256, cc]) := Lib.hid rfl
          clear hu2
          go_wp2_with (at_builtin; refine append_bytesG (by rfl) _ _ (by rfl) _ _ (hown3.alloc _) (by rfl) [op, a, bb / 256, bb % 256, cc] (wr.heap.size + 1) (size_alloc _ _) (by rfl) (Nat.le_trans HLQ.out (by decide)) (by simp) (by rw [size_alloc]; omega) ?_)
          intro v4 w4 hown4 hg4
          have hb4 := hb3.trans ((Grew.ofAlloc hg4).below hz3 (fun j hj => (hown3.lt j hj).1))
          go_wp2
          go_roundw
          case rel => exact ⟨q + 1, by omega, by go_num, by rw [HE.out, HEE.out]; simpa using hown4, hb4⟩
          case measure => simp [intOf]; omega
        · have hqe : q = l.length := by omega
          subst hqe
          go_wp2
          go_roundw
          case rel => exact ⟨k + 1, by omega, by go_num, by rw [H3k.out]; exact hown3, hb3⟩
          case measure => simp [intOf]; omega
    · have hke : k = L.length := by omega
      subst hke
      rw [List.take_length] at hown
      go_wp2
      go_loopw [5, 9] (fun o i wr => ∃ k : Nat, k ≤ P.length ∧ i = .int .i64 k ∧ OwnBytes (w.heap.size + 1) wr o (head3 ⟨L.length, pages, L, P⟩ ++ encLs L ++ P.take k) ∧ Below (w.heap.size + 1) (w.alloc (.cells #[.int .i64 L.length, .int .i64 pages, .slice ao L.length cap, .slice ap P.length capp] 25)) wr) (fun _ i _ => P.length - (intOf i).toNat)
      case atStart => exact ⟨0, by omega, rfl, by simpa using hown, hb⟩
      case round =>
        obtain ⟨k, hk, rfl, hown, hb⟩ := hrel
        have hself := self_of hb
        have hz := hb.size
        rw [size_alloc] at hz
        clear e0 e1 e2 e3
        obtain ⟨e0, e1, e2, e3⟩ := self4 hself
        have hbl : Below w.heap.size w wr := (below_one (Below.refl _ _) _).trans (hb.mono (by omega))
        by_cases hlt : k < P.length
        · obtain ⟨b, o, rfl, hu⟩ := hatp k hlt
          have hB : b < w.heap.size := World.block_lt_of_cell? w _ hu
          have hu2 := (hbl.cell (p := ⟨b, o + k, none⟩) hB).trans hu
          have hx := h6 _ (List.getElem_mem hlt)
          have HE := Lib.hid (H4.out k hlt)
          have hlen : (head3 ⟨L.length, pages, L, P⟩ ++ encLs L ++ P.take k).length ≤ 10000 := by
            have := HU.out
            simp only [enc, List.length_append, List.length_take] at this ⊢
            omega
          have HLen := Lib.hid hlen
          clear hu hlen
          generalize P[k] = x at hu2 hx HE
          go_wp2_with (at_builtin; refine append_bytes (by rfl) _ _ (by rfl) _ _ hown (by rfl) [x] (by rfl) (Nat.le_trans HLen.out (by decide)) (by simp) hz ?_)
          intro v3 w3 hown3 hg3
          have hb3 := hg3.below hz (fun j hj => (hown.lt j hj).1)
          go_wp2
          go_roundw
          case rel => exact ⟨k + 1, by omega, by go_num, by rw [HE.out]; simpa only [List.append_assoc] using hown3, hb.trans hb3⟩
          case measure => simp [intOf]; omega
        · have hke : k = P.length := by omega
          subst hke
          rw [List.take_length] at hown
          go_wp2
          go_ret2
          exact ⟨_, rfl, hown.mono (by omega), hbl⟩
end Go.Proofs.Ytifkkblmcdggmaa
