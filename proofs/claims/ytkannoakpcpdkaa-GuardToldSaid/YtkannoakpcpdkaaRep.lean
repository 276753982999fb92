/-
  bytes.Repeat of one byte.
-/
import Derived.Test.YtkannoakpcpdkaaBy
import Derived.Lib.MakeNoZero
import Derived.Laws.CopyRow
import Derived.Laws.CopyOwn
set_option linter.unusedVariables false
set_option linter.unusedSimpArgs false
namespace Go.Proofs.Ytkannoakpcpdkaa
open Go Go.RowKit

theorem and_low : ∀ n : Fin 1025, bits .and .u64 (n.val : Int) 4294967295 = (n.val : Int) := by decide +kernel
theorem and_low' {n : Nat} (h : n ≤ 1024) : bits .and .u64 (n : Int) 4294967295 = (n : Int) := and_low ⟨n, by omega⟩
set_option maxHeartbeats 2000000 in
theorem cMul64 (n : Nat) (hn : n ≤ 1024) (w : World) : Calls Try.prog 35 #[.int .u64 1, .int .u64 n] w fun e w' => e = .returned (.tuple #[.int .u64 0, .int .u64 n]) ∧ w' = w := by
  have h1 := and_low' hn
  have h2 : bits .and .u64 1 4294967295 = 1 := by decide +kernel
  have h3 : (n : Int) / 4294967296 = 0 := by omega
  have h4 : IntKind.u64.wrap (n : Int) = n := by simp [IntKind.wrap, IntKind.signed, IntKind.bits]; omega
  have h5 : bits .and .u64 0 4294967295 = 0 := by decide +kernel
  go_enter Try.func35, Try.ntmps35
  go_wp2
  go_ret2
  exact ⟨rfl, rfl⟩
set_option maxHeartbeats 2000000 in
theorem cMul (n : Nat) (hn : n ≤ 1024) (w : World) : Calls Try.prog 31 #[.int .u64 1, .int .u64 n] w fun e w' => e = .returned (.tuple #[.int .u64 0, .int .u64 n]) ∧ w' = w := by
  go_enter Try.func31, Try.ntmps31
  go_wp2_with fail
  refine (cMul64 n hn w).mono ?_
  rintro e w' ⟨rfl, rfl⟩
  go_wp2
  go_ret2
  exact ⟨rfl, rfl⟩
/-- c' is c with vs laid over it from off on -/
def Cpd (c c' : Array Value) (off m : Nat) (vs : List Value) : Prop := ∀ i, c'[i]? = if off ≤ i ∧ i < off + m then vs[i - off]? else c[i]?
/-- a copy into a block of bytes -/
theorem run_copyC {w : World} {g off dLen dCap sLen sCap m : Nat} {c : Array Value} {ad : Addr} {vs : List Value} (ty : TypeId)
    (hg : w.heap[g]? = some (.cells c 5 (0, 0))) (hv : vs.length = m) (hm : m = Nat.min sLen dLen) (hsrc : ∀ j v, vs[j]? = some v → w.cell? (ad.add j) = some v) (hfit : off + m ≤ c.size) (h1 : ∀ v ∈ vs, v.oneCell' = true) :
    ∃ w' c', (Builtin.copy_ #[22, 22] ty #[.slice (some ⟨g, off, none⟩) dLen dCap, .slice (some ad) sLen sCap]).run Try.prog w = .ok (.int .i64 m) w' ∧
      w'.heap[g]? = some (.cells c' 5 (0, 0)) ∧ c'.size = c.size ∧ Cpd c c' off m vs ∧ Kept (· = g) w w' := by
  have hs1 : (Try.prog.info? 5).map (·.size) = some 1 := by kernel_rfl
  have hr := run_copy_row (P := Try.prog) w 22 22 ty 5 g off dLen dCap ad sLen sCap c 5 vs Try.underlying22 hs1 hg (by rw [hv, hm]) hsrc (by omega) h1
  subst hv
  refine ⟨_, _, hr, setRow_heap w g c _ 5 (0, 0) hg, ?_, fun i => ?_, ?_⟩
  · simp
    omega
  · simp only [List.getElem?_toArray]
    have hlen : (c.toList.take off ++ vs).length = off + vs.length := by simp; omega
    by_cases h2 : i < off
    · rw [if_neg (by omega), List.append_assoc, List.getElem?_append_left (by simp; omega), List.getElem?_take, if_pos h2]
      simp
    · by_cases h3 : i < off + vs.length
      · rw [if_pos ⟨by omega, h3⟩, List.getElem?_append_left (by rw [hlen]; omega), List.getElem?_append_right (by simp; omega)]
        simp only [List.length_take, Array.length_toList]
        congr 1
        omega
      · rw [if_neg (by omega), List.getElem?_append_right (by rw [hlen]; omega), hlen, List.getElem?_drop]
        simp only [Array.getElem?_toList]
        congr 1
        omega
  · exact ⟨rfl, rfl, rfl, by simp [World.setRow], fun k hk hne => setRow_other w g k _ hne⟩
theorem step_copyC {w : World} {ops : Array Oper} {oo : Oper} {a : Act} {K : Act → World → Prop} {Q : Exit → Act → World → Prop} {E : Prop} (hgd : oo.guard = none) (d s : Operand)
    (ho : oo.op = .call { callee := .builtin .copy, args := #[d, s], argTypes := #[22, 22] })
    {g off dLen dCap sLen sCap m : Nat} {c : Array Value} {ad : Addr} {vs : List Value} (hd : a.eval d = .slice (some ⟨g, off, none⟩) dLen dCap) (hs : a.eval s = .slice (some ad) sLen sCap)
    (hg : w.heap[g]? = some (.cells c 5 (0, 0))) (hv : vs.length = m) (hm : m = Nat.min sLen dLen) (hsrc : ∀ j v, vs[j]? = some v → w.cell? (ad.add j) = some v) (hfit : off + m ≤ c.size) (h1 : ∀ v ∈ vs, v.oneCell' = true)
    (hK : ∀ w' c', w'.heap[g]? = some (.cells c' 5 (0, 0)) → c'.size = c.size → Cpd c c' off m vs → Kept (· = g) w w' → K (a.put oo.dst (.int .i64 m)) w') :
    if Region.wanted oo (yielded ops a.tmps) = true then Oper.wp Try.prog oo a w K Q else E := by
  have hw : Region.wanted oo (yielded ops a.tmps) = true := by simp [Region.wanted, hgd]
  rw [if_pos hw]
  obtain ⟨w', c', hrun, h1, h2, h3, h4⟩ := run_copyC (dCap := dCap) (sCap := sCap) oo.type hg hv hm hsrc hfit h1
  unfold Oper.wp
  simp [execOp, ho, resolve, invoke, builtin, hd, hs, hrun, Result.andThen]
  exact hK w' c' h1 h2 h3 h4
theorem wpList_copyC {w : World} {ops : Array Oper} {rest : List Oper} {oo : Oper} {a : Act} {Q : Exit → Act → World → Prop} (hgd : oo.guard = none) (d s : Operand)
    (ho : oo.op = .call { callee := .builtin .copy, args := #[d, s], argTypes := #[22, 22] })
    {g off dLen dCap sLen sCap m : Nat} {c : Array Value} {ad : Addr} {vs : List Value} (hd : a.eval d = .slice (some ⟨g, off, none⟩) dLen dCap) (hs : a.eval s = .slice (some ad) sLen sCap)
    (hg : w.heap[g]? = some (.cells c 5 (0, 0))) (hv : vs.length = m) (hm : m = Nat.min sLen dLen) (hsrc : ∀ j v, vs[j]? = some v → w.cell? (ad.add j) = some v) (hfit : off + m ≤ c.size) (h1 : ∀ v ∈ vs, v.oneCell' = true)
    (hK : ∀ w' c', w'.heap[g]? = some (.cells c' 5 (0, 0)) → c'.size = c.size → Cpd c c' off m vs → Kept (· = g) w w' → wpList Try.prog ops Q rest (a.put oo.dst (.int .i64 m)) w') :
    wpList Try.prog ops Q (oo :: rest) a w := by
  refine wpList_plain hgd fun K hK2 => ?_
  obtain ⟨w', c', hrun, h1, h2, h3, h4⟩ := run_copyC (dCap := dCap) (sCap := sCap) oo.type hg hv hm hsrc hfit h1
  unfold Oper.wp
  simp [execOp, ho, resolve, invoke, builtin, hd, hs, hrun, Result.andThen]
  exact hK2 _ _ (hK w' c' h1 h2 h3 h4)
/-- the first k bytes of a block that has room for n are x -/
def RowX (w : World) (g n k : Nat) (x : Int) : Prop := ∃ c, w.heap[g]? = some (.cells c 5 (0, 0)) ∧ n ≤ c.size ∧ ∀ i, i < k → c[i]? = some (.int .u8 x)
theorem rep_one (m : Nat) (x : Int) : ∀ v ∈ List.replicate m (Value.int .u8 x), v.oneCell' = true := by
  intro v hv
  rw [(List.mem_replicate.1 hv).2]
  rfl
theorem RowX.grow {w' : World} {g n k m : Nat} {x : Int} {c c' : Array Value} (h1 : w'.heap[g]? = some (.cells c' 5 (0, 0))) (h2 : c'.size = c.size) (hn : n ≤ c.size) (hx : ∀ i, i < k → c[i]? = some (.int .u8 x))
    (h3 : Cpd c c' k m (List.replicate m (Value.int .u8 x))) : RowX w' g n (k + m) x := by
  refine ⟨c', h1, by omega, fun i hi => ?_⟩
  rw [h3 i]
  by_cases h : i < k
  · rw [if_neg (by omega)]
    exact hx i h
  · rw [if_pos (by omega), List.getElem?_replicate, if_pos (by omega)]
set_option maxHeartbeats 4000000 in
theorem cRepeat (x : Int) (n : Nat) (h1 : 1 ≤ n) (h2 : n ≤ 1024) (u : Value) (w : World) (hu : ShowB w u [x]) :
    Calls Try.prog 29 #[u, .int .i64 n] w fun e w' => ∃ g, e = .returned (.slice (some ⟨g, 0, none⟩) n n) ∧ w.heap.size ≤ g ∧ RowY w' g n (fun _ => x) ∧ Below w.heap.size w w' := by
  obtain ⟨ao, cap, rfl, hcap, hat⟩ := hu.form
  obtain ⟨b, o, rfl, hc0⟩ := hat 0 (by simp)
  clear hat hu
  simp only [List.length_cons, List.length_nil, Nat.zero_add, Nat.add_zero, show pk [x] 0 = x from rfl] at hcap hc0 ⊢
  obtain ⟨cs, hrun, hle, hmax⟩ := Lib.run_makeNoZero (P := Try.prog) w #[3] 22 5 Try.underlying22 n (by omega)
  have hcall : (callFunc 32 #[.int .i64 (n : Int)]).run Try.prog w = .ok (.value (.slice (some ⟨w.heap.size, 0, none⟩) n cs.size)) (w.drew.drew.alloc (.cells cs 5)) := by
    rw [run_callFunc_extern Try.func32 (by kernel_rfl) (by kernel_rfl) (by kernel_rfl) (e := Extern.BytealgMakeNoZero.makeNoZero #[3] #[22]) (by kernel_rfl), hrun]
    rfl
  have hm := hmax (by unfold maxLen; omega)
  unfold maxLen at hm
  have hlt := World.block_lt_of_cell? w _ hc0
  go_enter Try.func29, Try.ntmps29
  go_wp2_with fail
  refine (cMul n h2 w).mono ?_
  rintro e w' ⟨rfl, rfl⟩
  have hg0 : (w'.alloc (.cells cs 5)).drew.drew.heap[w'.heap.size]? = some (.cells cs 5 (0, 0)) := heap_new w' _
  have HG0 := Lib.hid hg0
  have hs0 : ∀ j v, (List.replicate 1 (Value.int .u8 x))[j]? = some v → (w'.alloc (.cells cs 5)).drew.drew.cell? ((⟨b, o, none⟩ : Addr).add j) = some v := by
    intro j v hj
    have hj' := (List.getElem?_eq_some_iff.1 hj).1
    simp only [List.length_replicate] at hj'
    obtain rfl : j = 0 := by omega
    simp only [List.replicate_one, List.getElem?_cons_zero, Option.some.injEq] at hj
    subst hj
    rw [plain_add, Nat.add_zero]
    exact cell_keep ((below_one (Below.refl _ w') _).drew.drew) hc0
  have HS0 := Lib.hid hs0
  clear hg0 hs0 hrun
  go_wp2_with (refine wpList_copyC (by rfl) (.tmp 58) (.tmp 59) (by rfl) (g := w'.heap.size) (off := 0) (m := 1) (c := cs) (ad := ⟨b, o, none⟩) (dLen := n) (dCap := n) (sLen := 1) (sCap := cap) (vs := List.replicate 1 (Value.int .u8 x)) (by rfl) (by rfl) HG0.out (by rfl) (by simp only [Nat.min_def]; split <;> omega) HS0.out (by omega) (rep_one 1 x) ?_)
  intro w2 c2 e1 e2 e3 e4
  have HX : Hid (RowX w2 w'.heap.size n 1 x) := Lib.hid (by
    have := RowX.grow (k := 0) (n := n) (x := x) e1 e2 hle (fun i hi => by omega) e3
    rwa [Nat.zero_add] at this)
  have HB2 : Hid (Below w'.heap.size w' w2) := Lib.hid ((below_one (Below.refl _ w') (.cells cs 5)).drew.drew.trans (e4.below (by show w'.heap.size ≤ (w'.alloc _).heap.size; rw [size_alloc]; omega) (fun k hk => by rw [hk]; exact Nat.le_refl _)))
  clear e1 e2 e3 e4 HG0 HS0 hc0 hcall
  go_wp2
  go_loopw [10] (fun y wr => ∃ k : Nat, 1 ≤ k ∧ k ≤ n ∧ y = .int .i64 k ∧ Hid (RowX wr w'.heap.size n k x) ∧ Hid (Below w'.heap.size w' wr)) (fun y _ => n - (intOf y).toNat)
  case atStart => exact ⟨1, by omega, h1, by first | rfl | go_num, HX, HB2⟩
  case round =>
    obtain ⟨k, hk1, hk2, rfl, HTK, HBK⟩ := hrel
    by_cases hlt2 : k < n
    · obtain ⟨c, hg, hn, hx⟩ := HTK.out
      obtain ⟨N, hN⟩ : ∃ N, N = Nat.min k (n - k) := ⟨_, rfl⟩
      have hN1 : 1 ≤ N ∧ N ≤ k ∧ k + N ≤ n := by rw [hN]; simp only [Nat.min_def]; split <;> omega
      have HN := Lib.hid hN
      have hsum : IntKind.i64.wrap ((k : Int) + (N : Int)) = (k : Int) + (N : Int) := IntWalk.i64_in _ (by omega)
      have HSRC : Hid (∀ j v, (List.replicate N (Value.int .u8 x))[j]? = some v → wr.cell? ((⟨w'.heap.size, 0, none⟩ : Addr).add j) = some v) := Lib.hid (fun j v hj => by
        have hj' := (List.getElem?_eq_some_iff.1 hj).1
        simp only [List.length_replicate] at hj'
        rw [List.getElem?_replicate, if_pos hj'] at hj
        obtain rfl := Option.some.inj hj
        rw [plain_add, Nat.zero_add]
        exact self_cell hg j _ (hx j (by omega)))
      have HG := Lib.hid hg
      have HXX := Lib.hid hx
      clear hN hg hx
      have b0 : (0 : Int) ≤ (k : Int) := by omega
      have b1 : (k : Int) ≤ (n : Int) := by omega
      have b2 : (k : Int) < (n : Int) := by omega
      have b3 : ¬ n = k := by omega
      have hmin : min (k : Int) (n : Int) = (k : Int) := by omega
      have b4 : n - k ≠ 0 := by omega
      go_wp2
      go_region_held3 (fun W => True) (trivial) (first | (refine step_copyC rfl (.tmp 70) (.tmp 73) rfl (g := w'.heap.size) (off := k) (m := N) (c := c) (ad := ⟨w'.heap.size, 0, none⟩) (vs := List.replicate N (Value.int .u8 x)) (dLen := n - k) (dCap := n - k) (sLen := k) (sCap := n) (by kernel_rfl) (by kernel_rfl) HG.out (List.length_replicate ..) HN.out HSRC.out (by omega) (rep_one N x) ?_; intro w4 c4 ea eb ec ed))
      go_wp2
      go_roundw
      case rel => exact ⟨k + N, by omega, by omega, by go_num, Lib.hid (RowX.grow ea eb hn HXX.out ec), Lib.hid (below_kept HBK.out.drew ed (fun k hk => by rw [hk]; exact Nat.le_refl _))⟩
      case measure => simp [intOf]; omega
    · obtain rfl : k = n := by omega
      have HE := Lib.hid HTK.out
      go_wp2
      go_ret
      exact ⟨_, rfl, Nat.le_refl _, HE.out, HBK.out⟩
end Go.Proofs.Ytkannoakpcpdkaa
