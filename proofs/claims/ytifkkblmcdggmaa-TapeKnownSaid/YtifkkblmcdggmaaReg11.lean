/-
  Region 11 of TapeKnown: the fourteen scripts that may not be, in whatever order they are made. Laid by tools/gen02known.py.
-/
import Derived.Test.YtifkkblmcdggmaaInv
import Derived.Test.YtifkkblmcdggmaaTB
set_option linter.unusedVariables false
set_option linter.unusedSimpArgs false
namespace Go.Proofs.Ytifkkblmcdggmaa
open Go Go.RowKit

def findRegion (n : Nat) : Code → Option (Array Oper)
  | .region id ops _ => if id = n then some ops else none
  | .seq a b => match findRegion n a with
    | some c => some c
    | none => findRegion n b
  | .loop c => findRegion n c
  | .block _ c => findRegion n c
  | .scope c => findRegion n c
  | .cond _ a b => match findRegion n a with
    | some c => some c
    | none => findRegion n b
  | _ => none
noncomputable def ops11 : Array Oper := (Try.f8.body.bind (findRegion 11)).getD #[]
/-- what must have come up ahead of an operation -/
def needs (o : Oper) : List Nat := (o.after.toList.filter (Region.binds .any ·)).map (·.on)
theorem need_of {o : Oper} {listed : Array Bool} (h : (o.after.all fun e => !Region.binds .any e || listed.getD e.on false) = true) {j : Nat} (hj : (needs o).contains j = true) : listed.getD j false = true := by
  have hm : j ∈ needs o := by simpa using hj
  unfold needs at hm
  obtain ⟨e, he, rfl⟩ := List.mem_map.1 hm
  obtain ⟨h1, h2⟩ := List.mem_filter.1 he
  have h3 := Array.all_eq_true_iff_forall_mem.1 h e (by simpa using h1)
  simpa [h2] using h3

/-- the fourteen scripts -/
def bads : List Scr := [⟨0, 0, [], []⟩, ⟨1, 1, [], []⟩, ⟨9, 1, (List.replicate 9 []), []⟩, ⟨1, 0, [[]], []⟩, ⟨1, 1025, [[]], []⟩, ⟨1, 1, [List.replicate 65 ⟨0, 0, 0, 0⟩], []⟩, ⟨1, 1, [[⟨14, 0, 0, 0⟩]], []⟩, ⟨1, 1, [[⟨-1, 0, 0, 0⟩]], []⟩, ⟨1, 1, [[⟨0, 256, 0, 0⟩]], []⟩, ⟨1, 1, [[⟨0, 0, 65536, 0⟩]], []⟩, ⟨1, 1, [[⟨0, 0, 0, -1⟩]], []⟩, ⟨1, 1, [[]], [256]⟩, ⟨1, 1, [[]], [-1]⟩, ⟨1, 1, [[]], (List.replicate 4097 0)⟩]
theorem bads_not : ∀ S ∈ bads, okS S = false := by decide +kernel
def PScr (S : Scr) (v : Value) (w : World) : Prop := ∃ a n c a' n' c', v = .agg #[.int .i64 S.cpus, .int .i64 S.pages, .slice a n c, .slice a' n' c'] ∧ ShowScr w (.agg #[.int .i64 S.cpus, .int .i64 S.pages, .slice a n c, .slice a' n' c']) S
def PLists (L : List (List Cl)) (v : Value) (w : World) : Prop := ∃ a n c, v = .slice a n c ∧ ShowLists w (.slice a n c) L
def PCalls (l : List Cl) (v : Value) (w : World) : Prop := ∃ a n c, v = .slice a n c ∧ ShowCalls w (.slice a n c) l
def PInts (l : List Int) (v : Value) (w : World) : Prop := ∃ a n c, v = .slice a n c ∧ ShowInts w (.slice a n c) l
/-- a slice of these scripts -/
def PBads (v : Value) (w : World) : Prop := ∃ g, v = .slice (some ⟨g, 0, none⟩) 14 14 ∧ ∀ i (h : i < bads.length), ∃ c0 c1 c2 c3, w.cell? ⟨g, i * 4, none⟩ = some c0 ∧ w.cell? ⟨g, i * 4 + 1, none⟩ = some c1 ∧ w.cell? ⟨g, i * 4 + 2, none⟩ = some c2 ∧ w.cell? ⟨g, i * 4 + 3, none⟩ = some c3 ∧ PScr bads[i] (.agg #[c0, c1, c2, c3]) w
theorem PScr.below {S : Scr} {v : Value} {w w' : World} (h : PScr S v w) (hb : Below w.heap.size w w') : PScr S v w' := by
  obtain ⟨a, n, c, a', n', c', h1, h2⟩ := h
  exact ⟨a, n, c, a', n', c', h1, h2.below hb⟩
theorem PLists.below {L : List (List Cl)} {v : Value} {w w' : World} (h : PLists L v w) (hb : Below w.heap.size w w') : PLists L v w' := by
  obtain ⟨a, n, c, h1, h2⟩ := h
  exact ⟨a, n, c, h1, h2.below hb⟩
theorem PCalls.below {l : List Cl} {v : Value} {w w' : World} (h : PCalls l v w) (hb : Below w.heap.size w w') : PCalls l v w' := by
  obtain ⟨a, n, c, h1, h2⟩ := h
  exact ⟨a, n, c, h1, h2.below hb⟩
theorem PInts.below {l : List Int} {v : Value} {w w' : World} (h : PInts l v w) (hb : Below w.heap.size w w') : PInts l v w' := by
  obtain ⟨a, n, c, h1, h2⟩ := h
  exact ⟨a, n, c, h1, h2.below hb⟩
theorem PBads.below {v : Value} {w w' : World} (h : PBads v w) (hb : Below w.heap.size w w') : PBads v w' := by
  obtain ⟨g, h1, h2⟩ := h
  refine ⟨g, h1, fun i hi => ?_⟩
  obtain ⟨c0, c1, c2, c3, e0, e1, e2, e3, h3⟩ := h2 i hi
  exact ⟨c0, c1, c2, c3, cell_keep hb e0, cell_keep hb e1, cell_keep hb e2, cell_keep hb e3, h3.below hb⟩

/-- what each operation has left -/
def Pr (k3 : Nat) : Nat → Value → World → Prop
  | 0 => PScr ⟨0, 0, [], []⟩
  | 1 => PScr ⟨1, 1, [], []⟩
  | 2 => PLists (List.replicate 9 [])
  | 3 => PScr ⟨9, 1, (List.replicate 9 []), []⟩
  | 4 => fun v _ => v = .pointer (some ⟨k3, 2, none⟩)
  | 5 => PLists [[]]
  | 6 => PScr ⟨1, 0, [[]], []⟩
  | 7 => fun v _ => v = .pointer (some ⟨k3, 2, none⟩)
  | 8 => PLists [[]]
  | 9 => PScr ⟨1, 1025, [[]], []⟩
  | 10 => PCalls (List.replicate 65 ⟨0, 0, 0, 0⟩)
  | 11 => PLists [(List.replicate 65 ⟨0, 0, 0, 0⟩)]
  | 12 => PScr ⟨1, 1, [List.replicate 65 ⟨0, 0, 0, 0⟩], []⟩
  | 13 => fun v _ => v = .agg #[.int .i64 14, .int .i64 0, .int .i64 0, .int .i64 0]
  | 14 => PCalls [⟨14, 0, 0, 0⟩]
  | 15 => PLists [[⟨14, 0, 0, 0⟩]]
  | 16 => PScr ⟨1, 1, [[⟨14, 0, 0, 0⟩]], []⟩
  | 17 => fun v _ => v = .agg #[.int .i64 (-1), .int .i64 0, .int .i64 0, .int .i64 0]
  | 18 => PCalls [⟨-1, 0, 0, 0⟩]
  | 19 => PLists [[⟨-1, 0, 0, 0⟩]]
  | 20 => PScr ⟨1, 1, [[⟨-1, 0, 0, 0⟩]], []⟩
  | 21 => fun v _ => v = .agg #[.int .i64 0, .int .i64 256, .int .i64 0, .int .i64 0]
  | 22 => PCalls [⟨0, 256, 0, 0⟩]
  | 23 => PLists [[⟨0, 256, 0, 0⟩]]
  | 24 => PScr ⟨1, 1, [[⟨0, 256, 0, 0⟩]], []⟩
  | 25 => fun v _ => v = .agg #[.int .i64 0, .int .i64 0, .int .i64 65536, .int .i64 0]
  | 26 => PCalls [⟨0, 0, 65536, 0⟩]
  | 27 => PLists [[⟨0, 0, 65536, 0⟩]]
  | 28 => PScr ⟨1, 1, [[⟨0, 0, 65536, 0⟩]], []⟩
  | 29 => fun v _ => v = .agg #[.int .i64 0, .int .i64 0, .int .i64 0, .int .i64 (-1)]
  | 30 => PCalls [⟨0, 0, 0, -1⟩]
  | 31 => PLists [[⟨0, 0, 0, -1⟩]]
  | 32 => PScr ⟨1, 1, [[⟨0, 0, 0, -1⟩]], []⟩
  | 33 => fun v _ => v = .pointer (some ⟨k3, 2, none⟩)
  | 34 => PLists [[]]
  | 35 => PInts [256]
  | 36 => PScr ⟨1, 1, [[]], [256]⟩
  | 37 => fun v _ => v = .pointer (some ⟨k3, 2, none⟩)
  | 38 => PLists [[]]
  | 39 => PInts [-1]
  | 40 => PScr ⟨1, 1, [[]], [-1]⟩
  | 41 => fun v _ => v = .pointer (some ⟨k3, 2, none⟩)
  | 42 => PLists [[]]
  | 43 => PInts (List.replicate 4097 0)
  | 44 => PScr ⟨1, 1, [[]], (List.replicate 4097 0)⟩
  | 45 => PBads
  | 46 => PBads
  | _ => fun _ _ => True
theorem Pr_below {k3 : Nat} : ∀ (i : Nat) {v : Value} {w w' : World}, Pr k3 i v w → Below w.heap.size w w' → Pr k3 i v w' := by
  intro i v w w' h hb
  unfold Pr at h ⊢
  split at h <;> first | exact h | exact PScr.below h hb | exact PLists.below h hb | exact PCalls.below h hb | exact PInts.below h hb | exact PBads.below h hb
def slotOf : Nat → Nat
  | 0 => 45
  | 1 => 46
  | 2 => 47
  | 3 => 48
  | 4 => 49
  | 5 => 50
  | 6 => 51
  | 7 => 52
  | 8 => 53
  | 9 => 54
  | 10 => 55
  | 11 => 56
  | 12 => 57
  | 13 => 58
  | 14 => 59
  | 15 => 60
  | 16 => 61
  | 17 => 62
  | 18 => 63
  | 19 => 64
  | 20 => 65
  | 21 => 66
  | 22 => 67
  | 23 => 68
  | 24 => 69
  | 25 => 70
  | 26 => 71
  | 27 => 72
  | 28 => 73
  | 29 => 74
  | 30 => 75
  | 31 => 76
  | 32 => 77
  | 33 => 78
  | 34 => 79
  | 35 => 80
  | 36 => 81
  | 37 => 82
  | 38 => 83
  | 39 => 84
  | 40 => 85
  | 41 => 86
  | 42 => 87
  | 43 => 88
  | 44 => 89
  | 45 => 90
  | 46 => 4
  | _ => 0
theorem op11_0 : ops11[0]?.map (fun o => (o.dst, o.op, o.guard, ([] : List Nat).all fun j => (needs o).contains j)) = some (some 45, .build 25 #[], none, true) := by kernel_rfl
theorem op11_1 : ops11[1]?.map (fun o => (o.dst, o.op, o.guard, ([] : List Nat).all fun j => (needs o).contains j)) = some (some 46, .build 25 #[(0, .const (.int .i64 1)), (1, .const (.int .i64 1))], none, true) := by kernel_rfl
theorem op11_2 : ops11[2]?.map (fun o => (o.dst, o.op, o.guard, ([] : List Nat).all fun j => (needs o).contains j)) = some (some 47, .makeSlice 22 (.const (.int .i64 9)) (.const (.int .i64 9)), none, true) := by kernel_rfl
theorem op11_3 : ops11[3]?.map (fun o => (o.dst, o.op, o.guard, ([2] : List Nat).all fun j => (needs o).contains j)) = some (some 48, .build 25 #[(0, .const (.int .i64 9)), (1, .const (.int .i64 1)), (2, .tmp 47)], none, true) := by kernel_rfl
theorem op11_4 : ops11[4]?.map (fun o => (o.dst, o.op, o.guard, ([] : List Nat).all fun j => (needs o).contains j)) = some (some 49, .fieldAddr 25 (.tmp 3) 2, none, true) := by kernel_rfl
theorem op11_5 : ops11[5]?.map (fun o => (o.dst, o.op, o.guard, ([4] : List Nat).all fun j => (needs o).contains j)) = some (some 50, .load 22 (.tmp 49), none, true) := by kernel_rfl
theorem op11_6 : ops11[6]?.map (fun o => (o.dst, o.op, o.guard, ([5] : List Nat).all fun j => (needs o).contains j)) = some (some 51, .build 25 #[(0, .const (.int .i64 1)), (1, .const (.int .i64 0)), (2, .tmp 50)], none, true) := by kernel_rfl
theorem op11_7 : ops11[7]?.map (fun o => (o.dst, o.op, o.guard, ([] : List Nat).all fun j => (needs o).contains j)) = some (some 52, .fieldAddr 25 (.tmp 3) 2, none, true) := by kernel_rfl
theorem op11_8 : ops11[8]?.map (fun o => (o.dst, o.op, o.guard, ([7] : List Nat).all fun j => (needs o).contains j)) = some (some 53, .load 22 (.tmp 52), none, true) := by kernel_rfl
theorem op11_9 : ops11[9]?.map (fun o => (o.dst, o.op, o.guard, ([8] : List Nat).all fun j => (needs o).contains j)) = some (some 54, .build 25 #[(0, .const (.int .i64 1)), (1, .const (.int .i64 1025)), (2, .tmp 53)], none, true) := by kernel_rfl
theorem op11_10 : ops11[10]?.map (fun o => (o.dst, o.op, o.guard, ([] : List Nat).all fun j => (needs o).contains j)) = some (some 55, .makeSlice 42 (.const (.int .i64 65)) (.const (.int .i64 65)), none, true) := by kernel_rfl
theorem op11_11 : ops11[11]?.map (fun o => (o.dst, o.op, o.guard, ([10] : List Nat).all fun j => (needs o).contains j)) = some (some 56, .buildSlice 22 1 #[(0, .tmp 55)], none, true) := by kernel_rfl
theorem op11_12 : ops11[12]?.map (fun o => (o.dst, o.op, o.guard, ([11] : List Nat).all fun j => (needs o).contains j)) = some (some 57, .build 25 #[(0, .const (.int .i64 1)), (1, .const (.int .i64 1)), (2, .tmp 56)], none, true) := by kernel_rfl
theorem op11_13 : ops11[13]?.map (fun o => (o.dst, o.op, o.guard, ([] : List Nat).all fun j => (needs o).contains j)) = some (some 58, .build 44 #[(0, .const (.int .i64 14))], none, true) := by kernel_rfl
theorem op11_14 : ops11[14]?.map (fun o => (o.dst, o.op, o.guard, ([13] : List Nat).all fun j => (needs o).contains j)) = some (some 59, .buildSlice 42 1 #[(0, .tmp 58)], none, true) := by kernel_rfl
theorem op11_15 : ops11[15]?.map (fun o => (o.dst, o.op, o.guard, ([14] : List Nat).all fun j => (needs o).contains j)) = some (some 60, .buildSlice 22 1 #[(0, .tmp 59)], none, true) := by kernel_rfl
theorem op11_16 : ops11[16]?.map (fun o => (o.dst, o.op, o.guard, ([15] : List Nat).all fun j => (needs o).contains j)) = some (some 61, .build 25 #[(0, .const (.int .i64 1)), (1, .const (.int .i64 1)), (2, .tmp 60)], none, true) := by kernel_rfl
theorem op11_17 : ops11[17]?.map (fun o => (o.dst, o.op, o.guard, ([] : List Nat).all fun j => (needs o).contains j)) = some (some 62, .build 44 #[(0, .const (.int .i64 (-1)))], none, true) := by kernel_rfl
theorem op11_18 : ops11[18]?.map (fun o => (o.dst, o.op, o.guard, ([17] : List Nat).all fun j => (needs o).contains j)) = some (some 63, .buildSlice 42 1 #[(0, .tmp 62)], none, true) := by kernel_rfl
theorem op11_19 : ops11[19]?.map (fun o => (o.dst, o.op, o.guard, ([18] : List Nat).all fun j => (needs o).contains j)) = some (some 64, .buildSlice 22 1 #[(0, .tmp 63)], none, true) := by kernel_rfl
theorem op11_20 : ops11[20]?.map (fun o => (o.dst, o.op, o.guard, ([19] : List Nat).all fun j => (needs o).contains j)) = some (some 65, .build 25 #[(0, .const (.int .i64 1)), (1, .const (.int .i64 1)), (2, .tmp 64)], none, true) := by kernel_rfl
theorem op11_21 : ops11[21]?.map (fun o => (o.dst, o.op, o.guard, ([] : List Nat).all fun j => (needs o).contains j)) = some (some 66, .build 44 #[(1, .const (.int .i64 256))], none, true) := by kernel_rfl
theorem op11_22 : ops11[22]?.map (fun o => (o.dst, o.op, o.guard, ([21] : List Nat).all fun j => (needs o).contains j)) = some (some 67, .buildSlice 42 1 #[(0, .tmp 66)], none, true) := by kernel_rfl
theorem op11_23 : ops11[23]?.map (fun o => (o.dst, o.op, o.guard, ([22] : List Nat).all fun j => (needs o).contains j)) = some (some 68, .buildSlice 22 1 #[(0, .tmp 67)], none, true) := by kernel_rfl
theorem op11_24 : ops11[24]?.map (fun o => (o.dst, o.op, o.guard, ([23] : List Nat).all fun j => (needs o).contains j)) = some (some 69, .build 25 #[(0, .const (.int .i64 1)), (1, .const (.int .i64 1)), (2, .tmp 68)], none, true) := by kernel_rfl
theorem op11_25 : ops11[25]?.map (fun o => (o.dst, o.op, o.guard, ([] : List Nat).all fun j => (needs o).contains j)) = some (some 70, .build 44 #[(2, .const (.int .i64 65536))], none, true) := by kernel_rfl
theorem op11_26 : ops11[26]?.map (fun o => (o.dst, o.op, o.guard, ([25] : List Nat).all fun j => (needs o).contains j)) = some (some 71, .buildSlice 42 1 #[(0, .tmp 70)], none, true) := by kernel_rfl
theorem op11_27 : ops11[27]?.map (fun o => (o.dst, o.op, o.guard, ([26] : List Nat).all fun j => (needs o).contains j)) = some (some 72, .buildSlice 22 1 #[(0, .tmp 71)], none, true) := by kernel_rfl
theorem op11_28 : ops11[28]?.map (fun o => (o.dst, o.op, o.guard, ([27] : List Nat).all fun j => (needs o).contains j)) = some (some 73, .build 25 #[(0, .const (.int .i64 1)), (1, .const (.int .i64 1)), (2, .tmp 72)], none, true) := by kernel_rfl
theorem op11_29 : ops11[29]?.map (fun o => (o.dst, o.op, o.guard, ([] : List Nat).all fun j => (needs o).contains j)) = some (some 74, .build 44 #[(3, .const (.int .i64 (-1)))], none, true) := by kernel_rfl
theorem op11_30 : ops11[30]?.map (fun o => (o.dst, o.op, o.guard, ([29] : List Nat).all fun j => (needs o).contains j)) = some (some 75, .buildSlice 42 1 #[(0, .tmp 74)], none, true) := by kernel_rfl
theorem op11_31 : ops11[31]?.map (fun o => (o.dst, o.op, o.guard, ([30] : List Nat).all fun j => (needs o).contains j)) = some (some 76, .buildSlice 22 1 #[(0, .tmp 75)], none, true) := by kernel_rfl
theorem op11_32 : ops11[32]?.map (fun o => (o.dst, o.op, o.guard, ([31] : List Nat).all fun j => (needs o).contains j)) = some (some 77, .build 25 #[(0, .const (.int .i64 1)), (1, .const (.int .i64 1)), (2, .tmp 76)], none, true) := by kernel_rfl
theorem op11_33 : ops11[33]?.map (fun o => (o.dst, o.op, o.guard, ([] : List Nat).all fun j => (needs o).contains j)) = some (some 78, .fieldAddr 25 (.tmp 3) 2, none, true) := by kernel_rfl
theorem op11_34 : ops11[34]?.map (fun o => (o.dst, o.op, o.guard, ([33] : List Nat).all fun j => (needs o).contains j)) = some (some 79, .load 22 (.tmp 78), none, true) := by kernel_rfl
theorem op11_35 : ops11[35]?.map (fun o => (o.dst, o.op, o.guard, ([] : List Nat).all fun j => (needs o).contains j)) = some (some 80, .buildSlice 23 1 #[(0, .const (.int .i64 256))], none, true) := by kernel_rfl
theorem op11_36 : ops11[36]?.map (fun o => (o.dst, o.op, o.guard, ([34, 35] : List Nat).all fun j => (needs o).contains j)) = some (some 81, .build 25 #[(0, .const (.int .i64 1)), (1, .const (.int .i64 1)), (2, .tmp 79), (3, .tmp 80)], none, true) := by kernel_rfl
theorem op11_37 : ops11[37]?.map (fun o => (o.dst, o.op, o.guard, ([] : List Nat).all fun j => (needs o).contains j)) = some (some 82, .fieldAddr 25 (.tmp 3) 2, none, true) := by kernel_rfl
theorem op11_38 : ops11[38]?.map (fun o => (o.dst, o.op, o.guard, ([37] : List Nat).all fun j => (needs o).contains j)) = some (some 83, .load 22 (.tmp 82), none, true) := by kernel_rfl
theorem op11_39 : ops11[39]?.map (fun o => (o.dst, o.op, o.guard, ([] : List Nat).all fun j => (needs o).contains j)) = some (some 84, .buildSlice 23 1 #[(0, .const (.int .i64 (-1)))], none, true) := by kernel_rfl
theorem op11_40 : ops11[40]?.map (fun o => (o.dst, o.op, o.guard, ([38, 39] : List Nat).all fun j => (needs o).contains j)) = some (some 85, .build 25 #[(0, .const (.int .i64 1)), (1, .const (.int .i64 1)), (2, .tmp 83), (3, .tmp 84)], none, true) := by kernel_rfl
theorem op11_41 : ops11[41]?.map (fun o => (o.dst, o.op, o.guard, ([] : List Nat).all fun j => (needs o).contains j)) = some (some 86, .fieldAddr 25 (.tmp 3) 2, none, true) := by kernel_rfl
theorem op11_42 : ops11[42]?.map (fun o => (o.dst, o.op, o.guard, ([41] : List Nat).all fun j => (needs o).contains j)) = some (some 87, .load 22 (.tmp 86), none, true) := by kernel_rfl
theorem op11_43 : ops11[43]?.map (fun o => (o.dst, o.op, o.guard, ([] : List Nat).all fun j => (needs o).contains j)) = some (some 88, .makeSlice 23 (.const (.int .i64 4097)) (.const (.int .i64 4097)), none, true) := by kernel_rfl
theorem op11_44 : ops11[44]?.map (fun o => (o.dst, o.op, o.guard, ([42, 43] : List Nat).all fun j => (needs o).contains j)) = some (some 89, .build 25 #[(0, .const (.int .i64 1)), (1, .const (.int .i64 1)), (2, .tmp 87), (3, .tmp 88)], none, true) := by kernel_rfl
theorem op11_45 : ops11[45]?.map (fun o => (o.dst, o.op, o.guard, ([0, 1, 3, 6, 9, 12, 16, 20, 24, 28, 32, 36, 40, 44] : List Nat).all fun j => (needs o).contains j)) = some (some 90, .buildSlice 45 14 #[(0, .tmp 45), (1, .tmp 46), (2, .tmp 48), (3, .tmp 51), (4, .tmp 54), (5, .tmp 57), (6, .tmp 61), (7, .tmp 65), (8, .tmp 69), (9, .tmp 73), (10, .tmp 77), (11, .tmp 81), (12, .tmp 85), (13, .tmp 89)], none, true) := by kernel_rfl
theorem op11_46 : ops11[46]?.map (fun o => (o.dst, o.op, o.guard, ([45] : List Nat).all fun j => (needs o).contains j)) = some (some 4, .assign (.tmp 90), none, true) := by kernel_rfl
theorem size11 : ops11.size = 47 := by kernel_rfl
end Go.Proofs.Ytifkkblmcdggmaa
