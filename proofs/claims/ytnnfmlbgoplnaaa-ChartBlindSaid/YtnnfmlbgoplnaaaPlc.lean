/-
  All places of a chart that may be, as the law lists them.
-/
import Derived.Test.YtnnfmlbgoplnaaaMd
set_option linter.unusedVariables false
set_option linter.unusedSimpArgs false
namespace Go.Proofs.Ytnnfmlbgoplnaaa
open Go Go.RowKit

section
variable {w w' W : World} {v : Value} {l : List Int} {c : Ch}
/-- a chart at its box, and a list of one's own -/
structure Ow (W : World) (c : Ch) (l : List Int) (v : Value) (w : World) : Prop where
  one : One W W.heap.size c w
  own : OwnI (W.heap.size + 1) w v l
theorem Ow.next (h : Ow W c l v w) (hb : Below w.heap.size w w') : Ow W c l v w' := ⟨h.one.next hb, h.own.below hb⟩
theorem Ow.drew (h : Ow W c l v w) : Ow W c l v w.drew := ⟨h.one.drew, h.own⟩
theorem Ow.six (h : Ow W c l v w) : w.cell? ⟨W.heap.size, 0, none⟩ = some (.int .i64 c.cpus) ∧ w.cell? ⟨W.heap.size, 1, none⟩ = some (.int .i64 c.slabs) ∧ w.cell? ⟨W.heap.size, 2, none⟩ = some (.int .i64 c.objs) ∧
    w.cell? ⟨W.heap.size, 3, none⟩ = some (.int .i64 c.min) ∧ w.cell? ⟨W.heap.size, 4, none⟩ = some (.int .i64 c.cap) ∧ w.cell? ⟨W.heap.size, 5, none⟩ = some (.int .u64 c.key) ∧ Ow W c l v w := by
  obtain ⟨a, b, d, e, f, g, _⟩ := h.one.six
  exact ⟨a, b, d, e, f, g, h⟩
theorem Ow.six2 (h : Ow W c l v w) (hb : Below w.heap.size w w') : w'.cell? ⟨W.heap.size, 0, none⟩ = some (.int .i64 c.cpus) ∧ w'.cell? ⟨W.heap.size, 1, none⟩ = some (.int .i64 c.slabs) ∧ w'.cell? ⟨W.heap.size, 2, none⟩ = some (.int .i64 c.objs) ∧
    w'.cell? ⟨W.heap.size, 3, none⟩ = some (.int .i64 c.min) ∧ w'.cell? ⟨W.heap.size, 4, none⟩ = some (.int .i64 c.cap) ∧ w'.cell? ⟨W.heap.size, 5, none⟩ = some (.int .u64 c.key) ∧ Ow W c l v w' := (h.next hb).six
theorem Ow.size (h : Ow W c l v w) : W.heap.size + 1 ≤ w.heap.size := lt_of_block h.one.at1
theorem Ow.cpu (h : Ow W c l v w) : w.cell? ⟨W.heap.size, 0, none⟩ = some (.int .i64 c.cpus) := h.one.at1.cells.1
theorem Ow.slab (h : Ow W c l v w) : w.cell? ⟨W.heap.size, 1, none⟩ = some (.int .i64 c.slabs) := h.one.at1.cells.2.1
theorem Ow.obj (h : Ow W c l v w) : w.cell? ⟨W.heap.size, 2, none⟩ = some (.int .i64 c.objs) := h.one.at1.cells.2.2.1
/-- behind an append -/
theorem Ow.app {u : Value} {m : List Int} (h : Ow W c l v w) (ho : OwnI (W.heap.size + 1) w' u m) (hb : Below (W.heap.size + 1) w w') : Ow W c m u w' :=
  ⟨⟨(hb.block _ (Nat.lt_succ_self _)).trans h.one.at1, h.one.low.trans (hb.mono (Nat.le_succ _))⟩, ho⟩
theorem own_new (w : World) (B : Nat) (l : List Int) (a : Array Value) (n : Nat) (hl : l.length = n) (hn : n ≤ 1000) (ha : a = (nms l).toArray) (hb : B ≤ w.heap.size) : OwnI B (w.alloc (.cells a 3)) (.slice (some ⟨w.heap.size, 0, none⟩) n n) l := by
  subst ha hl
  have := World.ownsRow_lit (base := B) (e := 3) (size := 1) w (nms l).toArray l.length hb (by unfold maxLen; omega) (by simp)
  simpa using this
/-- an append in a drawn region, of a literal just made -/
theorem step_appendO {ops : Array Oper} {o : Oper} {a : Act} {K : Act → World → Prop} {Q : Exit → Act → World → Prop} {E : Prop} (hgd : o.guard = none) (s x : Operand)
    (ho : o.op = .call { callee := .builtin .append, args := #[s, x], argTypes := #[30, 30] })
    (b : List Int) (k n : Nat) (cs : Array Value) (hs : a.eval s = v) (hx : a.eval x = .slice (some ⟨w.heap.size, 0, none⟩) k k) (hk : b.length = k) (hcs : cs = (nms b).toArray) (hO : Ow W c l v w) (hl : l.length + k ≤ 1000) (hn : (l ++ b).length = n)
    (h : ∀ ao cap w', Ow W c (l ++ b) (.slice ao n cap) w' → K (a.put o.dst (.slice ao n cap)) w') :
    if Region.wanted o (yielded ops a.tmps) = true then Oper.wp Try.prog o a (w.alloc (.cells cs 3)) K Q else E := by
  subst hn hk hcs
  have hw : Region.wanted o (yielded ops a.tmps) = true := by simp [Region.wanted, hgd]
  rw [if_pos hw]
  have hO2 := hO.next (below_one (Below.refl w.heap.size w) (.cells (nms b).toArray 3))
  obtain ⟨ao, cap, w', hr, h1, h2, h3⟩ := run_appendI hO2.own (lit_i w 3 b b.length rfl (by omega)) hl hO2.size o.type
  unfold Oper.wp execOp
  simp only [ho, resolve, invoke, builtin, Sem.run_bind, Sem.run_pure, Result.andThen_ok, List.map_toArray, List.map_cons, List.map_nil, hs, hx, hr]
  exact h _ _ _ (hO2.app h1 h2)
theorem wpList_appendO {ops : Array Oper} {rest : List Oper} {o : Oper} {a : Act} {Q : Exit → Act → World → Prop} (hgd : o.guard = none) (s x : Operand)
    (ho : o.op = .call { callee := .builtin .append, args := #[s, x], argTypes := #[30, 30] })
    (b : List Int) (k n : Nat) (cs : Array Value) (hs : a.eval s = v) (hx : a.eval x = .slice (some ⟨w.heap.size, 0, none⟩) k k) (hk : b.length = k) (hcs : cs = (nms b).toArray) (hO : Ow W c l v w) (hl : l.length + k ≤ 1000) (hn : (l ++ b).length = n)
    (h : ∀ ao cap w', Ow W c (l ++ b) (.slice ao n cap) w' → wpList Try.prog ops Q rest (a.put o.dst (.slice ao n cap)) w') :
    wpList Try.prog ops Q (o :: rest) a (w.alloc (.cells cs 3)) := by
  subst hn hk hcs
  have hO2 := hO.next (below_one (Below.refl w.heap.size w) (.cells (nms b).toArray 3))
  refine wpList_appendI hgd s x ho (W.heap.size + 1) v _ l b _ hs hx hO2.own (lit_i w 3 b b.length rfl (by omega)) hl hO2.size rfl ?_
  intro ao cap w' h1 h2
  exact h _ _ _ (hO2.app h1 h2)
theorem Ow.sixO (h : Ow W c l v w) : w.cell? ⟨W.heap.size, 0, none⟩ = some (.int .i64 c.cpus) ∧ w.cell? ⟨W.heap.size, 1, none⟩ = some (.int .i64 c.slabs) ∧ w.cell? ⟨W.heap.size, 2, none⟩ = some (.int .i64 c.objs) ∧
    w.cell? ⟨W.heap.size, 3, none⟩ = some (.int .i64 c.min) ∧ w.cell? ⟨W.heap.size, 4, none⟩ = some (.int .i64 c.cap) ∧ w.cell? ⟨W.heap.size, 5, none⟩ = some (.int .u64 c.key) ∧ One W W.heap.size c w := h.one.six
/-- the list while it grows -/
def plA (c : Ch) (i : Nat) : List Int := [4 * c.cpus, 4 * c.cpus + 1, 4 * c.cpus + 2] ++ (List.range i).flatMap cpuP
def plB (c : Ch) (s : Nat) : List Int := plA c c.cpus.toNat ++ (List.range s).flatMap (slabP c)
def plC (c : Ch) (s t : Nat) : List Int := plB c s ++ [c.s0 + 4 * s, c.s0 + 4 * s + 1, c.s0 + 4 * s + 2] ++ (List.range t).map (fun t : Nat => c.l0 + s * c.objs + t)
theorem plA_next (c : Ch) (i : Nat) : plA c i ++ [4 * (i : Int), 4 * (i : Int) + 1, 4 * (i : Int) + 2, 4 * (i : Int) + 3] = plA c (i + 1) := by
  simp [plA, List.range_succ, cpuP, List.append_assoc]
theorem plB_zero (c : Ch) : plB c 0 = plA c c.cpus.toNat := by simp [plB]
theorem plC_zero (c : Ch) (s : Nat) : plB c s ++ [c.s0 + 4 * s, c.s0 + 4 * s + 1, c.s0 + 4 * s + 2] = plC c s 0 := by simp [plC]
theorem plC_next (c : Ch) (s t : Nat) : plC c s t ++ [c.l0 + s * c.objs + t] = plC c s (t + 1) := by
  simp [plC, List.range_succ, List.append_assoc]
theorem plC_end (c : Ch) (s : Nat) : plC c s c.objs.toNat = plB c (s + 1) := by
  simp [plC, plB, slabP, List.range_succ, List.append_assoc]
theorem plB_end (c : Ch) : plB c c.slabs.toNat = plc c := by simp [plB, plA, plc]
theorem len_plA (c : Ch) (i : Nat) : (plA c i).length = 3 + 4 * i := by
  induction i with
  | zero => simp [plA]
  | succ n ih => rw [← plA_next, List.length_append, ih]; simp; omega
theorem len_slabP (c : Ch) (s : Nat) : (slabP c s).length = 3 + c.objs.toNat := by simp [slabP]; omega
theorem len_flat {f : Nat → List Int} {k : Nat} (hf : ∀ i, (f i).length = k) (n : Nat) : ((List.range n).flatMap f).length = n * k := by
  induction n with
  | zero => simp
  | succ n ih => rw [List.range_succ, List.flatMap_append, List.length_append, ih, Nat.succ_mul]; simp [hf]
theorem len_plB (c : Ch) (s : Nat) : (plB c s).length = 3 + 4 * c.cpus.toNat + s * (3 + c.objs.toNat) := by
  rw [plB, List.length_append, len_plA, len_flat (len_slabP c)]
theorem len_plC (c : Ch) (s t : Nat) : (plC c s t).length = (plB c s).length + 3 + t := by simp [plC]; omega
theorem bound_plB (ho : c.ok) {s : Nat} (hs : (s : Int) ≤ c.slabs) : (plB c s).length ≤ 643 := by
  rw [len_plB]
  obtain ⟨⟨o1, o2⟩, ⟨o3, o4⟩, ⟨o5, o6⟩, _⟩ := ho
  have h1 : s ≤ 32 := by omega
  have h2 : 3 + c.objs.toNat ≤ 19 := by omega
  have := Nat.mul_le_mul h1 h2
  omega
end
set_option maxHeartbeats 8000000 in
set_option maxRecDepth 100000 in
theorem cPlaces (c : Ch) (hw : c.wf) (ho : c.ok) (w : World) :
    Calls Try.prog 38 #[c.agg] w fun e w' => ∃ ao cap, e = .returned (.slice ao (plc c).length cap) ∧ OwnI w.heap.size w' (.slice ao (plc c).length cap) (plc c) ∧ Below w.heap.size w w' := by
  have hL := fun w => pLock c hw w
  have hS := fun w => pShelf c hw w
  have hH := fun w => pHeld c hw w
  rw [show c.lock = 4 * c.cpus from Ch.at_yes ho] at hL
  rw [show c.shelf = 4 * c.cpus + 1 from Ch.at_yes ho] at hS
  rw [show c.held = 4 * c.cpus + 2 from Ch.at_yes ho] at hH
  have HA0 : plA c 0 = [4 * c.cpus, 4 * c.cpus + 1, 4 * c.cpus + 2] := by simp [plA]
  generalize 4 * c.cpus + 1 = l1 at hS HA0
  generalize 4 * c.cpus + 2 = l2 at hH HA0
  generalize 4 * c.cpus = l0 at hL HA0
  have HL := Lib.hid hL
  have HS := Lib.hid hS
  have HH := Lib.hid hH
  have HHd : Hid (∀ i : Nat, (i : Int) < c.cpus → ∀ w, Calls Try.prog 10 #[c.agg, .int .i64 i] w fun e w' => e = .returned (.int .i64 (4 * i)) ∧ Below w.heap.size w w') := Lib.hid (fun i hi w => by
    have := pHead c hw i w
    rwa [show c.head i = 4 * i by unfold Ch.head; rw [show inB (i : Int) c.cpus = true from decide_eq_true ⟨by omega, hi⟩]; exact Ch.at_yes ho] at this)
  have HPt : Hid (∀ i : Nat, (i : Int) < c.cpus → ∀ w, Calls Try.prog 11 #[c.agg, .int .i64 i] w fun e w' => e = .returned (.int .i64 (4 * i + 2)) ∧ Below w.heap.size w w') := Lib.hid (fun i hi w => by
    have := pPart c hw i w
    rwa [show c.part i = 4 * i + 2 by unfold Ch.part; rw [show inB (i : Int) c.cpus = true from decide_eq_true ⟨by omega, hi⟩]; exact Ch.at_yes ho] at this)
  have HFi : Hid (∀ i : Nat, (i : Int) < c.slabs → ∀ w, Calls Try.prog 15 #[c.agg, .int .i64 i] w fun e w' => e = .returned (.int .i64 (c.s0 + 4 * i)) ∧ Below w.heap.size w w') := Lib.hid (fun i hi w => by
    have := pFirst c hw i w
    rwa [first_in ho (by omega) hi] at this)
  have HNx : Hid (∀ i : Nat, (i : Int) < c.slabs → ∀ w, Calls Try.prog 16 #[c.agg, .int .i64 i] w fun e w' => e = .returned (.int .i64 (c.s0 + 4 * i + 2)) ∧ Below w.heap.size w w') := Lib.hid (fun i hi w => by
    have := pNext c hw i w
    rwa [next_in ho (by omega) hi] at this)
  have HLk : Hid (∀ i j : Nat, (i : Int) < c.slabs → (j : Int) < c.objs → ∀ w, Calls Try.prog 17 #[c.agg, .int .i64 i, .int .i64 j] w fun e w' => e = .returned (.int .i64 (c.l0 + i * c.objs + j)) ∧ Below w.heap.size w w') := Lib.hid (fun i j hi hj w => by
    have := pLink c hw i j w
    rwa [show c.link i j = c.l0 + i * c.objs + j by unfold Ch.link; rw [show inB (i : Int) c.slabs = true from decide_eq_true ⟨by omega, hi⟩, show inB (j : Int) c.objs = true from decide_eq_true ⟨by omega, hj⟩]; exact Ch.at_yes ho] at this)
  have HAN := Lib.hid (plA_next c)
  have HBZ := Lib.hid (plB_zero c)
  have HCZ := Lib.hid (plC_zero c)
  have HCN := Lib.hid (plC_next c)
  have HCE := Lib.hid (plC_end c)
  have HLA := Lib.hid (len_plA c)
  have HBB := Lib.hid (fun (s : Nat) h => bound_plB (c := c) ho (s := s) h)
  have HLC := Lib.hid (len_plC c)
  have hend := plB_end c
  have hs0 : 0 ≤ c.s0 ∧ c.s0 ≤ 36 := by unfold Ch.s0; obtain ⟨⟨o1, o2⟩, _⟩ := ho; omega
  have ho2 := ho
  obtain ⟨⟨o1, o2⟩, ⟨o3, o4⟩, ⟨o5, o6⟩, _⟩ := ho2
  generalize plA c = fA at *
  generalize plB c = fB at *
  generalize plC c = fC at *
  generalize plc c = R at *
  generalize c.s0 = s0 at *
  generalize c.l0 = e0 at *
  have h0 := (one_new w c).drew
  obtain ⟨p1, p2, p3, p4, p5, p6⟩ := c
  dsimp only at *
  obtain ⟨C, rfl⟩ : ∃ C : Nat, p1 = C := ⟨p1.toNat, by omega⟩
  obtain ⟨S, rfl⟩ : ∃ C : Nat, p2 = C := ⟨p2.toNat, by omega⟩
  obtain ⟨N, rfl⟩ : ∃ C : Nat, p3 = C := ⟨p3.toNat, by omega⟩
  simp only [Int.toNat_natCast] at hend HBZ HCE
  have HEN := Lib.hid hend
  have HAZ := Lib.hid HA0
  clear hL hS hH hw ho HA0 hend
  go_enter Try.func38, Try.ntmps38
  go_wp2
  go_region_held3 (fun w' => w'.cell? ⟨w.heap.size, 0, none⟩ = some (.int .i64 C) ∧ w'.cell? ⟨w.heap.size, 1, none⟩ = some (.int .i64 S) ∧ w'.cell? ⟨w.heap.size, 2, none⟩ = some (.int .i64 N) ∧ w'.cell? ⟨w.heap.size, 3, none⟩ = some (.int .i64 p4) ∧ w'.cell? ⟨w.heap.size, 4, none⟩ = some (.int .i64 p5) ∧ w'.cell? ⟨w.heap.size, 5, none⟩ = some (.int .u64 p6) ∧ One w w.heap.size ⟨C, S, N, p4, p5, p6⟩ w')
    (first | exact One.six (by assumption) | exact One.six (One.next (by assumption) (below_one (Below.refl _ _) _)))
    (first
      | (go_at_call 12; refine (HL.out _).mono ?_; rintro e w2 ⟨rfl, hb2⟩; have hT2 := One.next (show One w w.heap.size ⟨C, S, N, p4, p5, p6⟩ _ from by assumption) hb2; clear hb2)
      | (go_at_call 13; refine (HS.out _).mono ?_; rintro e w2 ⟨rfl, hb2⟩; have hT2 := One.next (show One w w.heap.size ⟨C, S, N, p4, p5, p6⟩ _ from by assumption) hb2; clear hb2)
      | (go_at_call 14; refine (HH.out _).mono ?_; rintro e w2 ⟨rfl, hb2⟩; have hT2 := One.next (show One w w.heap.size ⟨C, S, N, p4, p5, p6⟩ _ from by assumption) hb2; clear hb2))
  have HW0 : Hid (Ow w ⟨C, S, N, p4, p5, p6⟩ (fA 0) (.slice (some ⟨w2.heap.size, 0, none⟩) 3 3) (w2.alloc (.cells #[.int .i64 l0, .int .i64 l1, .int .i64 l2] 3))) := Lib.hid ⟨hT2.next (below_one (Below.refl _ _) _), by rw [HAZ.out]; exact own_new w2 _ [l0, l1, l2] _ 3 rfl (by omega) rfl (lt_of_block hT2.at1)⟩
  clear HL HS HH HAZ h0 hT2
  go_wp2
  go_loopw [3, 4] (fun v x wr => ∃ (i : Nat) (ao : Option Addr) (n cp : Nat), x = .int .i64 i ∧ v = .slice ao n cp ∧ i ≤ C ∧ Hid ((fA i).length = n) ∧ Hid (Ow w ⟨C, S, N, p4, p5, p6⟩ (fA i) (.slice ao n cp) wr)) (fun _ x _ => C - (intOf x).toNat)
  case atStart => exact ⟨0, _, 3, 3, rfl, rfl, by omega, Lib.hid (HLA.out 0), HW0⟩
  case round =>
    clear HW0
    obtain ⟨i, ao, n, cp, rfl, rfl, hic, HN, HW⟩ := hrel
    have c0 := HW.out.cpu
    dsimp only at c0
    by_cases hlt : (i : Int) < C
    · have hA := HHd.out i hlt
      have hB := HPt.out i hlt
      have hN := HAN.out i
      obtain ⟨H1, e1⟩ : ∃ x, 4 * (i : Int) + 1 = x := ⟨_, rfl⟩
      obtain ⟨H2, e2⟩ : ∃ x, 4 * (i : Int) + 2 = x := ⟨_, rfl⟩
      obtain ⟨H3, e3⟩ : ∃ x, 4 * (i : Int) + 3 = x := ⟨_, rfl⟩
      have k1 : IntKind.i64.wrap (4 * (i : Int) + 1) = H1 := by rw [IntWalk.i64_in _ (by omega)]; exact e1
      have k3 : IntKind.i64.wrap (H2 + 1) = H3 := by rw [IntWalk.i64_in _ (by omega)]; omega
      rw [e1, e2, e3] at hN
      rw [e2] at hB
      clear e1 e2 e3
      generalize 4 * (i : Int) = H0 at hA hN k1
      have hlen : (fA i).length + 4 ≤ 1000 := by rw [HLA.out]; omega
      have hn2 : (fA i ++ [H0, H1, H2, H3]).length = n + 4 := by rw [List.length_append, HN.out]; rfl
      have HNN : Hid ((fA (i + 1)).length = n + 4) := Lib.hid (by rw [← hN]; exact hn2)
      have HNX := Lib.hid hN
      have HA := Lib.hid hA
      have HB := Lib.hid hB
      have hT0 := HW.out.drew
      clear hA hB hN HN HW
      go_wp2
      go_region_held3 (fun w' => w'.cell? ⟨w.heap.size, 0, none⟩ = some (.int .i64 C) ∧ w'.cell? ⟨w.heap.size, 1, none⟩ = some (.int .i64 S) ∧ w'.cell? ⟨w.heap.size, 2, none⟩ = some (.int .i64 N) ∧ w'.cell? ⟨w.heap.size, 3, none⟩ = some (.int .i64 p4) ∧ w'.cell? ⟨w.heap.size, 4, none⟩ = some (.int .i64 p5) ∧ w'.cell? ⟨w.heap.size, 5, none⟩ = some (.int .u64 p6) ∧ One w w.heap.size ⟨C, S, N, p4, p5, p6⟩ w')
        (first | exact Ow.sixO (by assumption) | exact Ow.sixO (Ow.next (by assumption) (below_one (Below.refl _ _) _)))
        (first
          | (go_at_call 10; refine (HA.out _).mono ?_; rintro e w2 ⟨rfl, hb2⟩; have hT2 := Ow.next (show Ow w ⟨C, S, N, p4, p5, p6⟩ (fA i) (.slice ao n cp) _ from by assumption) hb2; clear hb2)
          | (go_at_call 11; refine (HB.out _).mono ?_; rintro e w2 ⟨rfl, hb2⟩; have hT2 := Ow.next (show Ow w ⟨C, S, N, p4, p5, p6⟩ (fA i) (.slice ao n cp) _ from by assumption) hb2; clear hb2)
          | (refine step_appendO (by rfl) _ _ (by rfl) [H0, H1, H2, H3] 4 (n + 4) _ (by rfl) (by rfl) rfl rfl (show Ow w ⟨C, S, N, p4, p5, p6⟩ (fA i) (.slice ao n cp) _ from by assumption) hlen hn2 ?_; intro ao9 cp9 w9 hT9))
      all_goals
        have HW9 : Hid (Ow w ⟨C, S, N, p4, p5, p6⟩ (fA (i + 1)) (.slice ao9 (n + 4) cp9) w9) := Lib.hid (by rw [← HNX.out]; exact hT9)
        clear hT9 hT0 HNX hlen hn2 HA HB k1 k3 c0
        go_wp2
        go_roundw
        case rel => exact ⟨i + 1, ao9, n + 4, cp9, by go_num, rfl, by omega, HNN, HW9⟩
        case measure => simp [intOf]; omega
    · obtain rfl : i = C := by omega
      have HW1 : Hid (Ow w ⟨i, S, N, p4, p5, p6⟩ (fB 0) (.slice ao n cp) wr) := Lib.hid (by rw [HBZ.out]; exact HW.out)
      have HN1 : Hid ((fB 0).length = n) := Lib.hid (by rw [HBZ.out]; exact HN.out)
      clear HW HN HAN HHd HPt HLA HBZ
      go_wp2
      go_loopw [3, 5, 6] (fun v x y wr => ∃ (j : Nat) (ao : Option Addr) (n cp : Nat), x = .int .i64 j ∧ v = .slice ao n cp ∧ j ≤ S ∧ Hid ((fB j).length = n) ∧ Hid (Ow w ⟨i, S, N, p4, p5, p6⟩ (fB j) (.slice ao n cp) wr)) (fun _ x _ _ => S - (intOf x).toNat)
      case atStart => exact ⟨0, _, n, cp, rfl, rfl, by omega, HN1, HW1⟩
      case round =>
        clear HW1 HN1 c0
        obtain ⟨j, ao2, m, cp2, rfl, rfl, hjs, HN, HW⟩ := hrel
        have c1 := HW.out.slab
        dsimp only at c1
        by_cases hjl : (j : Int) < S
        · have hA := HFi.out j hjl
          have hB := HNx.out j hjl
          have hN := HCZ.out j
          have hj32 : j < 32 := by omega
          obtain ⟨H0, e0'⟩ : ∃ x, s0 + 4 * (j : Int) = x := ⟨_, rfl⟩
          obtain ⟨H1, e1⟩ : ∃ x, s0 + 4 * (j : Int) + 1 = x := ⟨_, rfl⟩
          obtain ⟨H2, e2⟩ : ∃ x, s0 + 4 * (j : Int) + 2 = x := ⟨_, rfl⟩
          have k1 : IntKind.i64.wrap (H0 + 1) = H1 := by rw [IntWalk.i64_in _ (by omega)]; omega
          rw [e1, e2, e0'] at hN
          rw [e2] at hB
          rw [e0'] at hA
          clear e1 e2 e0'
          have hlen : (fB j).length + 3 ≤ 1000 := by have := HBB.out j (by omega); omega
          have hn2 : (fB j ++ [H0, H1, H2]).length = m + 3 := by rw [List.length_append, HN.out]; rfl
          have HNN : Hid ((fC j 0).length = m + 3) := Lib.hid (by rw [← hN]; exact hn2)
          have HNX := Lib.hid hN
          have HA := Lib.hid hA
          have HB := Lib.hid hB
          have hT0 := HW.out.drew
          clear hA hB hN HN HW
          go_wp2
          go_region_held3 (fun w' => w'.cell? ⟨w.heap.size, 0, none⟩ = some (.int .i64 i) ∧ w'.cell? ⟨w.heap.size, 1, none⟩ = some (.int .i64 S) ∧ w'.cell? ⟨w.heap.size, 2, none⟩ = some (.int .i64 N) ∧ w'.cell? ⟨w.heap.size, 3, none⟩ = some (.int .i64 p4) ∧ w'.cell? ⟨w.heap.size, 4, none⟩ = some (.int .i64 p5) ∧ w'.cell? ⟨w.heap.size, 5, none⟩ = some (.int .u64 p6) ∧ One w w.heap.size ⟨i, S, N, p4, p5, p6⟩ w')
            (first | exact Ow.sixO (by assumption) | exact Ow.sixO (Ow.next (by assumption) (below_one (Below.refl _ _) _)))
            (first
              | (go_at_call 15; refine (HA.out _).mono ?_; rintro e w2 ⟨rfl, hb2⟩; have hT2 := Ow.next (show Ow w ⟨i, S, N, p4, p5, p6⟩ (fB j) (.slice ao2 m cp2) _ from by assumption) hb2; clear hb2)
              | (go_at_call 16; refine (HB.out _).mono ?_; rintro e w2 ⟨rfl, hb2⟩; have hT2 := Ow.next (show Ow w ⟨i, S, N, p4, p5, p6⟩ (fB j) (.slice ao2 m cp2) _ from by assumption) hb2; clear hb2)
              | (refine step_appendO (by rfl) _ _ (by rfl) [H0, H1, H2] 3 (m + 3) _ (by rfl) (by rfl) rfl rfl (show Ow w ⟨i, S, N, p4, p5, p6⟩ (fB j) (.slice ao2 m cp2) _ from by assumption) hlen hn2 ?_; intro ao9 cp9 w9 hT9))
          all_goals
            have HW9 : Hid (Ow w ⟨i, S, N, p4, p5, p6⟩ (fC j 0) (.slice ao9 (m + 3) cp9) w9) := Lib.hid (by rw [← HNX.out]; exact hT9)
            clear hT9 hT0 HNX hlen hn2 HA HB k1 c1
            go_wp2
            go_loopw [3, 6] (fun v x wr => ∃ (t : Nat) (ao : Option Addr) (n cp : Nat), x = .int .i64 t ∧ v = .slice ao n cp ∧ t ≤ N ∧ Hid ((fC j t).length = n) ∧ Hid (Ow w ⟨i, S, N, p4, p5, p6⟩ (fC j t) (.slice ao n cp) wr)) (fun _ x _ => N - (intOf x).toNat)
            case atStart => exact ⟨0, _, m + 3, cp9, rfl, rfl, by omega, HNN, HW9⟩
            case round =>
              clear HW9 HNN
              obtain ⟨t, ao3, n3, cp3, rfl, rfl, htn, HN, HW⟩ := hrel
              by_cases htl : (t : Int) < N
              · have hA := HLk.out j t hjl htl
                have hN := HCN.out j t
                generalize e0 + (j : Int) * (N : Int) + (t : Int) = H0 at hA hN
                have hlen : (fC j t).length + 1 ≤ 1000 := by have := HBB.out j (by omega); rw [HLC.out]; omega
                have hn2 : (fC j t ++ [H0]).length = n3 + 1 := by rw [List.length_append, HN.out]; rfl
                have HNN : Hid ((fC j (t + 1)).length = n3 + 1) := Lib.hid (by rw [← hN]; exact hn2)
                have HNX := Lib.hid hN
                have HA := Lib.hid hA
                clear hA hN HN
                obtain ⟨f0, f1, f2, f3, f4, f5, _⟩ := HW.out.sixO
                dsimp only at f0 f1 f2 f3 f4 f5
                go_wp2_with fail
                refine (HA.out _).mono ?_
                rintro e w5 ⟨rfl, hb5⟩
                have hT5 := HW.out.next hb5
                clear hb5 f0 f1 f2 f3 f4 f5 HW HA
                go_wp2_with (at_builtin; refine wpList_appendO (by rfl) _ _ (by rfl) [H0] 1 (n3 + 1) _ (by rfl) (by rfl) rfl rfl hT5 hlen hn2 ?_; intro ao9 cp9 w9 hT9; have HW9 : Hid (Ow w ⟨i, S, N, p4, p5, p6⟩ (fC j (t + 1)) (.slice ao9 (n3 + 1) cp9) w9) := Lib.hid (by rw [← HNX.out]; exact hT9); clear hT9 hT5 HNX hlen hn2; refine Stop.mk ?_)
                unfold Stop
                go_wp2
                go_roundw
                case rel => exact ⟨t + 1, ao9, n3 + 1, cp9, by go_num, rfl, by omega, HNN, HW9⟩
                case measure => simp [intOf]; omega
              · obtain rfl : t = N := by omega
                have c2 := HW.out.obj
                dsimp only at c2
                have HW9 : Hid (Ow w ⟨i, S, t, p4, p5, p6⟩ (fB (j + 1)) (.slice ao3 n3 cp3) wr) := Lib.hid (by rw [← HCE.out]; exact HW.out)
                have HNN : Hid ((fB (j + 1)).length = n3) := Lib.hid (by rw [← HCE.out]; exact HN.out)
                clear HW HN
                go_wp2
                go_roundw
                case rel => exact ⟨j + 1, ao3, n3, cp3, by go_num, rfl, by omega, HNN, HW9⟩
                case measure => simp [intOf]; omega
        · obtain rfl : j = S := by omega
          have hlen : R.length = m := by rw [← HEN.out]; exact HN.out
          subst hlen
          go_wp2
          go_ret
          have hf := HW.out
          rw [HEN.out] at hf
          exact ⟨ao2, cp2, rfl, hf.own.le (Nat.le_succ _), hf.one.low⟩
end Go.Proofs.Ytnnfmlbgoplnaaa
