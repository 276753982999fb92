/-
  Check of the program: the panic is recovered; turned, Out, Back.
-/
import Derived.Test.YtkannoakpcpdkaaMust
import Derived.Defers
import Derived.Recover
set_option linter.unusedVariables false
set_option linter.unusedSimpArgs false
namespace Go.Proofs.Ytkannoakpcpdkaa
open Go Go.RowKit

theorem assertI (k : Int) : ∀ w, (Instr.typeAssert (.iface 3 (.int .i64 k)) 20 3 false).run Try.prog w = .ok (.int .i64 k) w := by
  intro w
  simp [Instr.typeAssert, run_underlying Try.underlying3]
/-- the deferred closure of a frame that panics: the panic is marked, the named results are laid -/
theorem catch_bad (p q : Addr) (a b : Int) (k : Int) (older : List PanicEntry) (w : World) (hp : w.cell? p = some (.int .i64 a)) (hq : w.cell? q = some (.int .i64 b)) (zp : w.frozen? p = false) (zq : w.frozen? q = false) (hpq : p.block ≠ q.block) :
    CallsD Try.prog 25 #[.pointer (some p), .pointer (some q)] (.panicking ({ v := .iface 3 (.int .i64 k), recovered := false } :: older)) w fun e u' w' =>
      e = .returned (.tuple #[]) ∧ u' = .panicking ({ v := .iface 3 (.int .i64 k), recovered := true } :: older) ∧ w' = (w.setCell p (.int .i64 k)).setCell q (.int .i64 180) := by
  refine callsD_of_wpS Try.func25 rfl fun c₀ cs hu => ?_
  apply wpS_seq
  apply wpS_region
  simp [wpOpsS, go_sem, recoverD, hu, Try.ntmps25, Exit.thenS]
  refine wpS_of_wp ?_
  rw [show (#[Value.pointer (some p), Value.pointer (some q)] ++ ((Array.replicate 6 undef).setIfInBounds 1 (Value.iface 3 (Value.int IntKind.i64 k))).setIfInBounds 0 (Value.iface 3 (Value.int IntKind.i64 k))) = #[Value.pointer (some p), Value.pointer (some q), Value.iface 3 (Value.int IntKind.i64 k), Value.iface 3 (Value.int IntKind.i64 k), undef, undef, undef, undef] from rfl]
  have e1 : ∀ w : World, (binOp BinOp.neq 20 (.iface 3 (.int .i64 k)) .nilIface).run Try.prog w = .ok (.bool true) w := fun w => by kernel_rfl
  have e2 := assertI k
  have hp2 : (w.setCell p (.int .i64 k)).cell? q = some (.int .i64 b) := by rw [World.cell?_setCell_far _ _ _ _ hpq]; exact hq
  go_wp2
  exact ⟨rfl, _, rfl, _, by simp [results, Try.f25], rfl, rfl, rfl⟩
theorem catch_idle (p q : Addr) (w : World) :
    CallsD Try.prog 25 #[.pointer (some p), .pointer (some q)] .returning w fun e u' w' => e = .returned (.tuple #[]) ∧ u' = .returning ∧ w' = w := by
  refine callsD_of_wpS Try.func25 rfl fun c₀ cs hu => ?_
  apply wpS_seq
  apply wpS_region
  simp [wpOpsS, go_sem, recoverD, hu, Try.ntmps25, Exit.thenS]
  refine wpS_of_wp ?_
  rw [show (#[Value.pointer (some p), Value.pointer (some q)] ++ ((Array.replicate 6 undef).setIfInBounds 1 Value.nilIface).setIfInBounds 0 Value.nilIface) = #[Value.pointer (some p), Value.pointer (some q), Value.nilIface, Value.nilIface, undef, undef, undef, undef] from rfl]
  go_wp2
  exact ⟨rfl, .returning, by cases c₀; simp_all, _, by simp [results, Try.f25], rfl, rfl, rfl⟩
theorem res_chk {tmps : Array Value} {a e : Int} {K0 K1 : Nat} {w : World} (h4 : tmps.getD 4 undef = .pointer (some ⟨K0, 0, none⟩)) (h5 : tmps.getD 5 undef = .pointer (some ⟨K1, 0, none⟩)) (c0 : w.cell? ⟨K0, 0, none⟩ = some (.int .i64 a)) (c1 : w.cell? ⟨K1, 0, none⟩ = some (.int .i64 e)) :
    (results Try.f14 tmps).run Try.prog w = .ok (.tuple #[.int .i64 a, .int .i64 e]) w := by
  rw [Array.getD_eq_getD_getElem?] at h4 h5
  simp [results, Try.f14, h4, h5, c0, c1, go_sem]
/-- the boxes of a call: its two results -/
structure Bx (w : World) (K0 K1 : Nat) (a e : Int) : Prop where
  a : w.heap[K0]? = some (.cells #[.int .i64 a] 3 (0, 0))
  e : w.heap[K1]? = some (.cells #[.int .i64 e] 23 (0, 0))
  ne : K0 ≠ K1
theorem Bx.below {w w' : World} {K0 K1 : Nat} {a e : Int} (h : Bx w K0 K1 a e) (hb : Below w.heap.size w w') : Bx w' K0 K1 a e := ⟨keep_block h.a hb, keep_block h.e hb, h.ne⟩
theorem Bx.set {w : World} {K0 K1 : Nat} {a e : Int} (h : Bx w K0 K1 a e) (x y : Int) : Bx ((w.setCell ⟨K0, 0, none⟩ (.int .i64 x)).setCell ⟨K1, 0, none⟩ (.int .i64 y)) K0 K1 x y := by
  have h1 := cells_set h.a 0 (.int .i64 x)
  have h2 : (w.setCell ⟨K0, 0, none⟩ (.int .i64 x)).heap[K1]? = some (.cells #[.int .i64 e] 23 (0, 0)) := (Below.heap_setCell w _ _ K1 (fun e => h.ne e.symm)).trans h.e
  have h3 := cells_set h2 0 (.int .i64 y)
  exact ⟨(Below.heap_setCell _ _ _ K0 h.ne).trans h1, h3, h.ne⟩
theorem bx_new (w : World) : Bx ((w.alloc (.cells #[.int .i64 0] 3)).alloc (.cells #[.int .i64 0] 23)) w.heap.size (w.heap.size + 1) 0 0 := ⟨heap_low2 w _ _, heap_new2 w _ _, by omega⟩
theorem below_bx {w w1 : World} (h : Below w.heap.size w w1) (x y : Int) : Below w.heap.size w ((w1.setCell ⟨w.heap.size, 0, none⟩ (.int .i64 x)).setCell ⟨w.heap.size + 1, 0, none⟩ (.int .i64 y)) :=
  (h.setCell (p := ⟨w.heap.size, 0, none⟩) (Nat.le_refl _) _).setCell (p := ⟨w.heap.size + 1, 0, none⟩) (Nat.le_succ _) _
set_option maxHeartbeats 4000000 in
theorem cChkSize (u : Value) (l : List Int) (out : Bool) (hl : ¬ szOk l) (w : World) (hu : ShowB w u l) :
    Calls Try.prog 14 #[u, .bool out] w fun e w' => e = .returned (.tuple #[.int .i64 (chkA l out), .int .i64 (chkE l out)]) ∧ Below w.heap.size w w' := by
  have HA := Lib.hid (chk_size out hl).2
  have HE := Lib.hid (chk_size out hl).1
  have hn : ¬ (1 ≤ (l.length : Int) - 16 ∧ (l.length : Int) - 16 ≤ 1024) := by unfold szOk at hl; omega
  have HN := Lib.hid hn
  have HU := Lib.hid hu
  have hb0 : Below w.heap.size w ((w.alloc (.cells #[.int .i64 0] 3)).alloc (.cells #[.int .i64 0] 23)) := below_one (below_one (Below.refl _ w) _) _
  have HB0 := Lib.hid hb0
  have HX0 := Lib.hid (bx_new w)
  clear hl hu hn hb0
  go_enter_defers Try.func14, Try.ntmps14
  go_wp2_with fail
  generalize (w.alloc (.cells #[.int .i64 0] 3)).alloc (.cells #[.int .i64 0] 23) = w0 at HB0 HX0 ⊢
  refine (cOwn _ l _ rfl w0 (HU.out.below HB0.out)).mono ?_
  rintro e w' ⟨rfl, rfl⟩
  go_wp2_with fail
  refine (cIsSize _ false (decide_eq_false HN.out) _).mono ?_
  rintro e w2 ⟨rfl, rfl⟩
  have c0 := self_cell HX0.out.a 0 _ rfl
  have c1 := self_cell HX0.out.e 0 _ rfl
  have f0 := self_free HX0.out.a 0
  have f1 := self_free HX0.out.e 0
  go_wp2
  have hx := HX0.out.set 0 2
  exact ⟨_, res_chk rfl rfl (self_cell hx.a 0 _ rfl) (self_cell hx.e 0 _ rfl), by rw [HA.out, HE.out], below_bx HB0.out 0 2⟩
set_option maxHeartbeats 4000000 in
theorem cChkFits (u : Value) (l : List Int) (out : Bool) (hl : szOk l) (w : World) (hu : ShowB w u l) :
    Calls Try.prog 14 #[u, .bool out] w fun e w' => e = .returned (.tuple #[.int .i64 (chkA l out), .int .i64 (chkE l out)]) ∧ Below w.heap.size w w' := by
  have hn : (1 ≤ (l.length : Int) - 16 ∧ (l.length : Int) - 16 ≤ 1024) := by unfold szOk at hl; omega
  have HN := Lib.hid hn
  have HU := Lib.hid hu
  have HL := Lib.hid hl
  have hb0 : Below w.heap.size w ((w.alloc (.cells #[.int .i64 0] 3)).alloc (.cells #[.int .i64 0] 23)) := below_one (below_one (Below.refl _ w) _) _
  have HB0 := Lib.hid hb0
  have HX0 := Lib.hid (bx_new w)
  have hmf : ∀ (fn : Fn) (first cap : Array Value) (w : World), (Instr.makeFunc fn first cap).run Try.prog w = .ok (.func fn first cap) w := fun _ _ _ _ => rfl
  clear hl hu hn hb0
  go_enter_defers Try.func14, Try.ntmps14
  go_wp2_with fail
  generalize (w.alloc (.cells #[.int .i64 0] 3)).alloc (.cells #[.int .i64 0] 23) = w0 at HB0 HX0 ⊢
  refine (cOwn _ l _ rfl w0 (HU.out.below HB0.out)).mono ?_
  rintro e w' ⟨rfl, rfl⟩
  go_wp2_with fail
  refine (cIsSize _ true (decide_eq_true HN.out) _).mono ?_
  rintro e w2 ⟨rfl, rfl⟩
  go_wp2_with fail
  refine (cMust _ l out HL.out _ (HU.out.below HB0.out)).mono ?_
  rintro e w3 ⟨he, hb⟩
  have HX := Lib.hid (HX0.out.below hb)
  have HB := Lib.hid (below_then HB0.out hb)
  clear hb
  rcases fw_cases (wrg l out) l.length with h | ⟨k, h1, h2, h3⟩
  · have hcc := chk_ok HL.out h
    have HA := Lib.hid hcc.2
    have HE := Lib.hid hcc.1
    obtain rfl := he.trans (must_ok h)
    have c0 := self_cell HX.out.a 0 _ rfl
    have c1 := self_cell HX.out.e 0 _ rfl
    have f0 := self_free HX.out.a 0
    have f1 := self_free HX.out.e 0
    clear h hcc he
    go_wp2
    have hx := HX.out.set 0 0
    refine leaves_cons (f := 25) (args := #[.pointer (some ⟨w.heap.size, 0, none⟩), .pointer (some ⟨w.heap.size + 1, 0, none⟩)]) (by simp) (by simp [go_sem]) ?_
    refine (catch_idle _ _ _).mono ?_
    rintro e u' w'' ⟨rfl, rfl, rfl⟩
    exact ⟨_, res_chk rfl rfl (self_cell hx.a 0 _ rfl) (self_cell hx.e 0 _ rfl), by rw [HA.out, HE.out], below_bx HB.out 0 0⟩
  · have hcc := chk_bad HL.out h1 h2 h3
    have HA := Lib.hid hcc.2
    have HE := Lib.hid hcc.1
    obtain rfl := he.trans (must_bad h1 h2 h3)
    have c0 := self_cell HX.out.a 0 _ rfl
    have c1 := self_cell HX.out.e 0 _ rfl
    have f0 := self_free HX.out.a 0
    have f1 := self_free HX.out.e 0
    clear h1 h2 h3 hcc he
    go_wp2
    have hx := HX.out.set k 180
    refine leaves_cons (f := 25) (args := #[.pointer (some ⟨w.heap.size, 0, none⟩), .pointer (some ⟨w.heap.size + 1, 0, none⟩)]) (by simp) (by simp [go_sem]) ?_
    refine (catch_bad _ _ _ _ _ _ _ c0 c1 f0 f1 (by show w.heap.size ≠ w.heap.size + 1; omega)).mono ?_
    rintro e u' w'' ⟨rfl, rfl, rfl⟩
    exact ⟨_, res_chk rfl rfl (self_cell hx.a 0 _ rfl) (self_cell hx.e 0 _ rfl), by rw [HA.out, HE.out], below_bx HB.out k 180⟩
theorem cChk (u : Value) (l : List Int) (out : Bool) (w : World) (hu : ShowB w u l) :
    Calls Try.prog 14 #[u, .bool out] w fun e w' => e = .returned (.tuple #[.int .i64 (chkA l out), .int .i64 (chkE l out)]) ∧ Below w.heap.size w w' := by
  by_cases h : szOk l
  · exact cChkFits u l out h w hu
  · exact cChkSize u l out h w hu
set_option maxHeartbeats 2000000 in
theorem cTurnedYes (u : Value) (l : List Int) (out : Bool) (n M : Nat) (h1 : 1 ≤ n) (h2 : n ≤ 1024) (hl : l.length = n + 16) (hM : M = n + 16) (hE : chkE l out = 0) (F : Nat → Int) (hF : (if out then freeF n else outF n) = F) (w : World) (hu : ShowB w u l) :
    Calls Try.prog 27 #[u, .bool out] w fun e w' => ∃ g cap, e = .returned (.tuple #[.slice (some ⟨g, 0, none⟩) M cap, .int .i64 0]) ∧ GotY w w' g cap M F := by
  have HF : Hid ((if (!out) then outF n else freeF n) = F) := Lib.hid (by rw [← hF]; cases out <;> rfl)
  have HE := Lib.hid hE
  have HM := Lib.hid hM
  have HL := Lib.hid hl
  have HU := Lib.hid hu
  clear hE hM hl hu hF
  go_enter Try.func27, Try.ntmps27
  go_wp2_with fail
  refine (cChk _ l out _ HU.out).mono ?_
  rintro e w1 ⟨rfl, hb⟩
  rw [HE.out]
  have HB := Lib.hid hb
  clear hb
  go_wp2_with fail
  refine (cOwn _ l (n : Int) (by rw [HL.out]; omega) w1 (HU.out.below HB.out)).mono ?_
  rintro e w2 ⟨rfl, rfl⟩
  go_wp2_with fail
  refine (cLaid n M (!out) h1 h2 HM.out _).mono ?_
  rintro e w3 ⟨g, cap, rfl, h⟩
  rw [HF.out] at h
  have H := Lib.hid (h.from HB.out)
  clear h
  go_wp2
  go_ret2
  exact ⟨g, cap, rfl, H.out⟩
set_option maxHeartbeats 2000000 in
theorem cTurnedNo (u : Value) (l : List Int) (out : Bool) (q : Int) (hq : chkE l out = q) (hE : q ≠ 0) (w : World) (hu : ShowB w u l) :
    Calls Try.prog 27 #[u, .bool out] w fun e w' => e = .returned (.tuple #[.slice none 0 0, .int .i64 q]) ∧ Below w.heap.size w w' := by
  have HU := Lib.hid hu
  have HQ := Lib.hid hq
  have hne : (q != 0) = true := by simpa using hE
  clear hE hu hq
  go_enter Try.func27, Try.ntmps27
  go_wp2_with fail
  refine (cChk _ l out _ HU.out).mono ?_
  rintro e w1 ⟨rfl, hb⟩
  have HB := Lib.hid hb
  clear hb
  rw [HQ.out]
  go_wp2
  go_ret2
  exact ⟨rfl, HB.out⟩
set_option maxHeartbeats 1000000 in
theorem cOutYes (u : Value) (l : List Int) (n M : Nat) (h1 : 1 ≤ n) (h2 : n ≤ 1024) (hl : l.length = n + 16) (hM : M = n + 16) (hE : chkE l false = 0) (w : World) (hu : ShowB w u l) :
    Calls Try.prog 16 #[u] w fun e w' => ∃ g cap, e = .returned (.tuple #[.slice (some ⟨g, 0, none⟩) M cap, .int .i64 0]) ∧ GotY w w' g cap M (outF n) := by
  have HE := Lib.hid hE
  have HM := Lib.hid hM
  have HL := Lib.hid hl
  have HU := Lib.hid hu
  clear hE hM hl hu
  go_enter Try.func16, Try.ntmps16
  go_wp2_with fail
  refine (cTurnedYes _ l false n M h1 h2 HL.out HM.out HE.out _ rfl _ HU.out).mono ?_
  rintro e w1 ⟨g, cap, rfl, h⟩
  have H := Lib.hid h
  clear h
  go_wp2
  go_ret2
  exact ⟨g, cap, rfl, by simpa using H.out⟩
set_option maxHeartbeats 1000000 in
theorem cBackYes (u : Value) (l : List Int) (n M : Nat) (h1 : 1 ≤ n) (h2 : n ≤ 1024) (hl : l.length = n + 16) (hM : M = n + 16) (hE : chkE l true = 0) (w : World) (hu : ShowB w u l) :
    Calls Try.prog 18 #[u] w fun e w' => ∃ g cap, e = .returned (.tuple #[.slice (some ⟨g, 0, none⟩) M cap, .int .i64 0]) ∧ GotY w w' g cap M (freeF n) := by
  have HE := Lib.hid hE
  have HM := Lib.hid hM
  have HL := Lib.hid hl
  have HU := Lib.hid hu
  clear hE hM hl hu
  go_enter Try.func18, Try.ntmps18
  go_wp2_with fail
  refine (cTurnedYes _ l true n M h1 h2 HL.out HM.out HE.out _ rfl _ HU.out).mono ?_
  rintro e w1 ⟨g, cap, rfl, h⟩
  have H := Lib.hid h
  clear h
  go_wp2
  go_ret2
  exact ⟨g, cap, rfl, by simpa using H.out⟩
set_option maxHeartbeats 1000000 in
theorem cOutNo (u : Value) (l : List Int) (hE : chkE l false ≠ 0) (w : World) (hu : ShowB w u l) :
    Calls Try.prog 16 #[u] w fun e w' => e = .returned (.tuple #[.slice none 0 0, .int .i64 (chkE l false)]) ∧ Below w.heap.size w w' := by
  have HE := Lib.hid hE
  have HU := Lib.hid hu
  clear hE hu
  go_enter Try.func16, Try.ntmps16
  go_wp2_with fail
  refine (cTurnedNo _ l false _ rfl HE.out _ HU.out).mono ?_
  rintro e w1 ⟨rfl, hb⟩
  have HB := Lib.hid hb
  clear hb
  go_wp2
  go_ret2
  exact ⟨rfl, HB.out⟩
set_option maxHeartbeats 1000000 in
theorem cBackNo (u : Value) (l : List Int) (hE : chkE l true ≠ 0) (w : World) (hu : ShowB w u l) :
    Calls Try.prog 18 #[u] w fun e w' => e = .returned (.tuple #[.slice none 0 0, .int .i64 (chkE l true)]) ∧ Below w.heap.size w w' := by
  have HE := Lib.hid hE
  have HU := Lib.hid hu
  clear hE hu
  go_enter Try.func18, Try.ntmps18
  go_wp2_with fail
  refine (cTurnedNo _ l true _ rfl HE.out _ HU.out).mono ?_
  rintro e w1 ⟨rfl, hb⟩
  have HB := Lib.hid hb
  clear hb
  go_wp2
  go_ret2
  exact ⟨rfl, HB.out⟩
/-- what Out and Back answer, whatever is handed over -/
theorem sz_of {l : List Int} {out : Bool} (h : chkE l out = 0) : ∃ n, 1 ≤ n ∧ n ≤ 1024 ∧ l.length = n + 16 := by
  obtain ⟨h1, h2⟩ := (chk_zero h).1
  exact ⟨l.length - 16, by omega, by omega, by omega⟩
theorem cOut (u : Value) (l : List Int) (w : World) (hu : ShowB w u l) :
    Calls Try.prog 16 #[u] w fun e w' => ∃ ao n cap, e = .returned (.tuple #[.slice ao n cap, .int .i64 (chkE l false)]) ∧ ShowB w' (.slice ao n cap) (gotL l false) ∧ Below w.heap.size w w' := by
  by_cases h : chkE l false = 0
  · obtain ⟨n, h1, h2, h3⟩ := sz_of h
    refine (cOutYes u l n (n + 16) h1 h2 h3 rfl h w hu).mono ?_
    rintro e w' ⟨g, cap, rfl, hg⟩
    refine ⟨_, _, _, by rw [h], ?_, hg.below⟩
    have := hg.shows
    simp only [gotL, h, if_true]
    rwa [show l.length - 16 = n by omega]
  · refine (cOutNo u l h w hu).mono ?_
    rintro e w' ⟨rfl, hb⟩
    exact ⟨_, _, _, rfl, by rw [got_no h]; exact ShowB.nil _, hb⟩
theorem cBack (u : Value) (l : List Int) (w : World) (hu : ShowB w u l) :
    Calls Try.prog 18 #[u] w fun e w' => ∃ ao n cap, e = .returned (.tuple #[.slice ao n cap, .int .i64 (chkE l true)]) ∧ ShowB w' (.slice ao n cap) (gotL l true) ∧ Below w.heap.size w w' := by
  by_cases h : chkE l true = 0
  · obtain ⟨n, h1, h2, h3⟩ := sz_of h
    refine (cBackYes u l n (n + 16) h1 h2 h3 rfl h w hu).mono ?_
    rintro e w' ⟨g, cap, rfl, hg⟩
    refine ⟨_, _, _, by rw [h], ?_, hg.below⟩
    have := hg.shows
    simp only [gotL, h, if_true]
    rwa [show l.length - 16 = n by omega]
  · refine (cBackNo u l h w hu).mono ?_
    rintro e w' ⟨rfl, hb⟩
    exact ⟨_, _, _, rfl, by rw [got_no h]; exact ShowB.nil _, hb⟩
end Go.Proofs.Ytkannoakpcpdkaa
