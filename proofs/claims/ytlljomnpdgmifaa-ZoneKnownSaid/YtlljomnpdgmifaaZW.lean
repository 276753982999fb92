/-
  A Zone that is the call's own; the chapter's examples.
-/
import Derived.Test.YtlljomnpdgmifaaZN
set_option linter.unusedVariables false
set_option linter.unusedSimpArgs false
namespace Go.Proofs.Ytlljomnpdgmifaa
open Go Go.RowKit

/-! by program: is it a fit, are the pages whole -/
def fitB (l : List Pg) (order o p : Nat) : Bool :=
  decide (order ≤ o) && decide (o ≤ 10) && decide (p < l.length) && decide (pg l p = fh o) &&
  (List.range o).all (fun k => decide (k < order) || (List.range l.length).all (fun i => decide (pg l i ≠ fh k))) && (List.range p).all (fun i => decide (pg l i ≠ fh o))
theorem fitB_sound {l : List Pg} {order o p : Nat} (h : fitB l order o p = true) : Fit l order o p := by
  simp only [fitB, Bool.and_eq_true, decide_eq_true_eq, List.all_eq_true, List.mem_range, Bool.or_eq_true] at h
  obtain ⟨⟨⟨⟨⟨h1, h2⟩, h3⟩, h4⟩, h5⟩, h6⟩ := h
  exact ⟨h1, h2, h3, h4, fun o' h7 h8 i hi => by
    rcases h5 o' h8 with h | h
    · omega
    · exact h i hi, h6⟩
def startsB (l : List Pg) (a : Nat) : Bool :=
  (pg l a).ok && decide (a % (pg l a).sz = 0) && decide (a + (pg l a).sz ≤ l.length) && (List.range l.length).all (fun j => decide (j ≤ a) || decide (a + (pg l a).sz ≤ j) || decide (pg l j = pin))
theorem startsB_sound {l : List Pg} {a : Nat} (h : startsB l a = true) : Starts l a := by
  simp only [startsB, Bool.and_eq_true, decide_eq_true_eq, List.all_eq_true, List.mem_range, Bool.or_eq_true] at h
  obtain ⟨⟨⟨h1, h2⟩, h3⟩, h4⟩ := h
  exact ⟨h1, h2, h3, fun j h5 h6 => by
    rcases h4 j (by omega) with (h | h) | h
    · omega
    · omega
    · exact h⟩
def iniB (n : Nat) (l : List Pg) : Bool :=
  decide (l.length = n) && (List.range n).all (fun i => (List.range n).any (fun a => startsB l a && decide (a ≤ i) && decide (i < a + (pg l a).sz))) &&
  (List.range n).all (fun i => decide ((pg l i).kind ≠ 2)) &&
  (List.range n).all (fun a => !(pg l a).ok || decide ((pg l a).order = 10) || decide (a % 2 ^ ((pg l a).order.toNat + 1) ≠ 0) || decide (n < a + 2 ^ ((pg l a).order.toNat + 1)))
theorem iniB_sound {n : Nat} {l : List Pg} (h : iniB n l = true) : l = ini n := by
  simp only [iniB, Bool.and_eq_true, decide_eq_true_eq, List.all_eq_true, List.any_eq_true, List.mem_range, Bool.or_eq_true, Bool.not_eq_true'] at h
  obtain ⟨⟨⟨h1, h2⟩, h3⟩, h4⟩ := h
  have hi : Ini n l := ⟨h1, fun i hi => by
    obtain ⟨a, _, ⟨h5, h6⟩, h7⟩ := h2 i (by omega)
    exact ⟨a, startsB_sound h5, h6, h7⟩, h3, fun a hs => by
    have := hs.fits
    have := (pg l a).sz_pos
    rcases h4 a (by omega) with ((h | h) | h) | h
    · rw [hs.head] at h; cases h
    · exact .inl h
    · exact .inr (.inl h)
    · exact .inr (.inr h)⟩
  exact hi.eq
def nofitB (l : List Pg) (order : Nat) : Bool := (List.range 11).all (fun o => decide (o < order) || (List.range l.length).all (fun i => decide (pg l i ≠ fh o)))
theorem nofitB_sound {l : List Pg} {order : Nat} (h : nofitB l order = true) : NoFit l order := by
  simp only [nofitB, decide_eq_true_eq, List.all_eq_true, List.mem_range, Bool.or_eq_true] at h
  intro o h1 h2 i hi
  rcases h o (by omega) with h3 | h3
  · omega
  · exact h3 i hi
/-! two tags are compared -/
theorem fieldsT : Try.prog.underlying 44 = some (.struct (Try.prog.fieldsOf 44)) := by kernel_rfl
theorem heldT : Try.prog.stoodInHeld 44 = false := by kernel_rfl
theorem guardT : Try.prog.eqGuardType Try.prog.depth 44 = false := by kernel_rfl
theorem fieldsOfT : Try.prog.fieldsOf 44 = #[⟨"Head", 3, 0, false, "", "", 0⟩, ⟨"Order", 3, 1, false, "", "", 8⟩, ⟨"Cache", 3, 2, false, "", "", 16⟩] := by kernel_rfl
theorem eqinT (w : World) (a b c a' b' c' : Int) : (Op.equalIn 10000 44 (.agg #[.int .i64 a, .int .i64 b, .int .i64 c]) (.agg #[.int .i64 a', .int .i64 b', .int .i64 c'])).run Try.prog w = .ok (a == a' && (b == b' && c == c')) w := by
  rw [show (10000 : Nat) = 9999 + 1 from rfl, run_equalIn_agg _ _ _ _ _ fieldsT heldT, fieldsOfT]
  have e0 : ∀ x y w, (Op.equalIn 9999 3 (.int .i64 x) (.int .i64 y)).run Try.prog w = .ok (x == y) w := fun x y w => run_equalIn_int w 9998 3 .i64 .i64 x y Try.underlying3
  simp [Op.eqFields, go_sem, e0, Go.Proofs.Ytlljomnpdgmifaa.part]
  by_cases h1 : a = a' <;> by_cases h2 : b = b' <;> by_cases h3 : c = c' <;> simp [h1, h2, h3]
theorem eqinT_self (a b c : Int) (w : World) : (Op.equalIn 10000 44 (.agg #[.int .i64 a, .int .i64 b, .int .i64 c]) (.agg #[.int .i64 a, .int .i64 b, .int .i64 c])).run Try.prog w = .ok true w := by
  rw [eqinT]
  simp
/-! ### a Zone that is the call's own -/
structure Zt (W w : World) (z : Nat) (N : Zn) (n : Nat) (l : List Pg) (f : F) (t : Int → Option Pg) : Prop where
  zc : ZC w z N n l f t
  low : Below W.heap.size W w
  ge : ∀ k, ZOwn n z N k → W.heap.size ≤ k
section
variable {W w w' : World} {z n : Nat} {N N' : Zn} {l l' : List Pg} {f f' : F} {t t' : Int → Option Pg}
theorem Zt.goes (h : Zt W w z N n l f t) (hz : ZC w' z N' n l' f' t') (hg : ZGoes w w' n z N N') : Zt W w' z N' n l' f' t' :=
  ⟨hz, below_kept h.low hg.1 h.ge, fun k o => by
    rcases hg.2 k o with o | o
    · exact h.ge k o
    · exact Nat.le_trans h.low.size o⟩
theorem Zt.below (h : Zt W w z N n l f t) (hb : Below w.heap.size w w') : Zt W w' z N n l f t := h.goes (h.zc.below hb) (ZGoes.of_below hb)
theorem tAlloc (h : Zt W w z N n l f t) {cpu order cache p e : Int} (hr : AlIs n l f cpu order cache p e l' f') :
    Calls Try.prog 21 #[.pointer (some ⟨z, 0, none⟩), .int .i64 cpu, .int .i64 order, .int .i64 cache] w fun en w' => en = .returned (.tuple #[.int .i64 p, .int .i64 e]) ∧ ∃ N' t', Zt W w' z N' n l' f' t' ∧ ZGoes w w' n z N N' :=
  (zAlloc h.zc hr).mono fun en w' ⟨h1, N', t', h2, h3⟩ => ⟨h1, N', t', h.goes h2 h3, h3⟩
theorem tFree (h : Zt W w z N n l f t) {cpu page e : Int} (hw : wf64 page) (hr : FrIs n l f cpu page e l' f') :
    Calls Try.prog 17 #[.pointer (some ⟨z, 0, none⟩), .int .i64 cpu, .int .i64 page] w fun en w' => en = .returned (.int .i64 e) ∧ ∃ N' t', Zt W w' z N' n l' f' t' ∧ ZGoes w w' n z N N' :=
  (zFree h.zc hw hr).mono fun en w' ⟨h1, N', t', h2, h3⟩ => ⟨h1, N', t', h.goes h2 h3, h3⟩
theorem tDrain (h : Zt W w z N n l f t) {cpu e : Int} (hr : DrIs n l f cpu e l' f') :
    Calls Try.prog 19 #[.pointer (some ⟨z, 0, none⟩), .int .i64 cpu] w fun en w' => en = .returned (.int .i64 e) ∧ ∃ N' t', Zt W w' z N' n l' f' t' ∧ ZGoes w w' n z N N' :=
  (zDrain h.zc hr).mono fun en w' ⟨h1, N', t', h2, h3⟩ => ⟨h1, N', t', h.goes h2 h3, h3⟩
theorem tLeft (h : Zt W w z N n l f t) (L : Nat) (hL : freeF l + cnt n f = L) : Calls Try.prog 15 #[.pointer (some ⟨z, 0, none⟩)] w fun e w' => e = .returned (.int .i64 (L : Nat)) ∧ Zt W w' z N n l f t ∧ Below w.heap.size w w' :=
  (zLeft h.zc).mono fun e w' ⟨h1, h2⟩ => ⟨by rw [h1, hL], h.below h2, h2⟩
theorem tNear (h : Zt W w z N n l f t) (c : Int) (L : Nat) (hL : (listOf f n c).length = L) : Calls Try.prog 18 #[.pointer (some ⟨z, 0, none⟩), .int .i64 c] w fun e w' => e = .returned (.int .i64 (L : Nat)) ∧ Zt W w' z N n l f t ∧ Below w.heap.size w w' :=
  (zNear h.zc.zb c).mono fun e w' ⟨h1, h2⟩ => ⟨by rw [h1, hL], h.below h2, h2⟩
theorem tWhole (h : Zt W w z N n l f t) (q : Bool) (hq : decide (l = ini l.length) = q) : Calls Try.prog 20 #[.pointer (some ⟨z, 0, none⟩)] w fun e w' => e = .returned (.bool q) ∧ Zt W w' z N n l f t ∧ Below w.heap.size w w' :=
  (zWhole h.zc q hq).mono fun e w' ⟨h1, h2⟩ => ⟨h1, h.below h2, h2⟩
theorem tTag (h : Zt W w z N n l f t) {x a c d : Int} {q : Bool} (hw : wf64 x) (hr : LookIs t x a c d q) :
    Calls Try.prog 16 #[.pointer (some ⟨z, 0, none⟩), .int .i64 x] w fun e w' => e = .returned (.tuple #[.agg #[.int .i64 a, .int .i64 c, .int .i64 d], .bool q]) ∧ Zt W w' z N n l f t ∧ Below w.heap.size w w' :=
  (zTagOf h.zc.zb hw hr).mono fun e w' ⟨h1, h2⟩ => ⟨h1, h.below h2, h2⟩
def TNewOk (W : World) (n : Nat) (l : List Pg) (e : Ending) (w' : World) : Prop := ∃ z N, e = .returned (.tuple #[.pointer (some ⟨z, 0, none⟩), .int .i64 0]) ∧ Zt W w' z N n l noF (fun _ => none)
theorem tNew (cpus pages : Int) (n m : Nat) (l : List Pg) (h1 : cpus = n) (h2 : pages = m) (hl : l = ini m) (hn : 1 ≤ n ∧ n ≤ 8) (hm : 1 ≤ m ∧ m ≤ 1024) (hb : Below W.heap.size W w) :
    Calls Try.prog 8 #[.int .i64 cpus, .int .i64 pages] w (TNewOk W n l) := by
  subst h1 h2 hl
  exact (zNew n m w hn hm).mono fun e w' ⟨z, N, h1, h2, h3, h4⟩ => ⟨z, N, h1, h2, below_then hb h4, fun k o => Nat.le_trans hb.size (h3 k o)⟩
end
/-! ### the chapter's pages -/
def U0 : List Pg := [fh 3, pin, pin, pin, pin, pin, pin, pin]
def U1 : List Pg := [⟨2, 0, 3⟩, fh 0, fh 1, pin, fh 2, pin, pin, pin]
def U2 : List Pg := [⟨2, 0, 0⟩, fh 0, fh 1, pin, fh 2, pin, pin, pin]
def U4 : List Pg := [⟨2, 3, 1⟩, pin, pin, pin, pin, pin, pin, pin]
def g1 : F := nUpd noF 1 [0]
def g2 : F := emp 2 g1
theorem alU1 : AllocIs U0 0 3 0 0 U1 := by
  have := AllocIs.ok (l := U0) 0 3 0 3 (by decide) (by decide) (by decide) (fitB_sound (by kernel_rfl))
  rwa [show allocL U0 0 3 0 3 = U1 from by kernel_rfl] at this
theorem alU4 : AllocIs (drL U2 g1 2) 3 1 0 0 U4 := by
  rw [show drL U2 g1 2 = U0 from by kernel_rfl]
  have := AllocIs.ok (l := U0) 3 3 0 1 (by decide) (by decide) (by decide) (fitB_sound (by kernel_rfl))
  rwa [show allocL U0 3 3 0 1 = U4 from by kernel_rfl] at this
theorem wA1 : AlIs 2 U0 noF 0 0 3 0 0 U1 noF := .blk 0 0 3 0 0 U1 noF (by decide) (by decide) (by decide) (by decide) (.here 0 0 U1 (fun _ => rfl) alU1 (fun e => absurd e (by decide)))
theorem otU1 : ot 2 U1 noF 0 = some ⟨2, 0, 3⟩ := by kernel_rfl
theorem wF1 : FrIs 2 U1 noF 1 0 0 U2 g1 := by
  have hp : PutIs 2 6 noF ((1 : Nat) : Int) ((0 : Nat) : Int) [] 0 g1 := PutIs.ok (n := 2) (lim := 6) (f := noF) 1 0 (by decide) (by decide) (by decide) (by kernel_rfl) (by decide)
  have := FrIs.one (n := 2) (l := U1) (f := noF) 1 0 3 [] g1 (by decide) otU1 hp
  rwa [show backL (setC U1 0 0) [] = U2 from by kernel_rfl] at this
theorem wA2 : AlIs 2 U2 g1 0 3 1 0 0 U4 g2 := .blk 0 3 1 0 0 U4 g2 (by decide) (by decide) (by decide) (by decide) (.after 0 0 U4 (fun e => absurd e (by decide)) (nofitB_sound (by kernel_rfl)) (by decide) alU4)
theorem wF2 : FrIs 2 U4 g2 0 5 60 U4 g2 := .block 0 5 (by decide) (fun p e => by
  obtain rfl : p = 5 := by omega
  kernel_rfl)
theorem wF3 : FrIs 2 U4 g2 0 0 0 U0 g2 := by
  have := FrIs.big (n := 2) (l := U4) (f := g2) 0 0 3 1 (by decide) (by kernel_rfl) (by decide)
  rwa [show freeL U4 0 = U0 from by kernel_rfl] at this
theorem left_lit {l : List Pg} {n L : Nat} {f : F} (h : Std l) (hu : l.length + cnt n f = L + used l) : freeF l + cnt n f = L := by
  have := left_of h
  omega
theorem whole_lit {l : List Pg} {q : Bool} (h : Std l) (hq : decide (heads l l.length = 0) = q) : decide (l = ini l.length) = q := by
  rw [← hq]
  exact decide_eq_decide.2 (std_whole h)
theorem look_lit {n : Nat} {l : List Pg} {f : F} {t : Int → Option Pg} (h : TG n l f t) (hi : ZInv n l f) (x : Nat) {a c d : Int} (hx : x < l.length) (e : (ot n l f (beg l x)).map (fun q => (⟨(beg l x : Int), q.order, q.cache⟩ : Pg)) = some ⟨a, c, d⟩) : LookIs t x a c d true :=
  .inl ⟨(h.by_beg hi.std.cov hx).trans e, rfl⟩
set_option maxHeartbeats 16000000 in
set_option maxRecDepth 100000 in
theorem works (w : World) : Calls Try.prog 12 #[] w fun e w' => e = .returned (.bool true) ∧ Below w.heap.size w w' := by
  have hq1 := eqinT_self 0 0 3
  have hq2 := eqinT_self 0 3 1
  have hgd := guardT
  go_enter Try.func12, Try.ntmps12
  go_wp2_with fail
  refine (tNew (W := w) 2 8 2 8 U0 rfl rfl (iniB_sound (by kernel_rfl)) (by decide) (by decide) (Below.refl _ _)).mono ?_
  rintro e w1 ⟨z, N, rfl, hz⟩
  have H := Lib.hid hz
  clear hz
  go_wp2_with fail
  refine (tAlloc H.out wA1).mono ?_
  rintro e w2 ⟨rfl, N1, t1, hz, _⟩
  have H1 := Lib.hid hz
  clear hz H
  go_wp2_with fail
  refine (tTag H1.out (x := 0) (wf_small 0 (by decide)) (look_lit H1.out.zc.tg H1.out.zc.inv 0 (by decide) (a := 0) (c := 0) (d := 3) (by kernel_rfl))).mono ?_
  rintro e w3 ⟨rfl, hz, _⟩
  have H2 := Lib.hid (hz.below (below_one (Below.refl _ _) (.cells #[.int .i64 0, .int .i64 0, .int .i64 3] 44)))
  clear hz H1
  go_wp2_with fail
  refine (tLeft H2.out 7 (left_lit H2.out.zc.inv.std (by kernel_rfl))).mono ?_
  rintro e w4 ⟨rfl, hz, _⟩
  have H3 := Lib.hid hz
  clear hz H2
  go_wp2_with fail
  refine (tFree H3.out (wf_small 0 (by decide)) wF1).mono ?_
  rintro e w5 ⟨rfl, N2, t2, hz, _⟩
  have H4 := Lib.hid hz
  clear hz H3
  go_wp2_with fail
  refine (tNear H4.out 1 1 (by kernel_rfl)).mono ?_
  rintro e w6 ⟨rfl, hz, _⟩
  have H5 := Lib.hid hz
  clear hz H4
  go_wp2_with fail
  refine (tLeft H5.out 8 (left_lit H5.out.zc.inv.std (by kernel_rfl))).mono ?_
  rintro e w7 ⟨rfl, hz, _⟩
  have H6 := Lib.hid hz
  clear hz H5
  go_wp2_with fail
  refine (tWhole H6.out false (whole_lit H6.out.zc.inv.std (by kernel_rfl))).mono ?_
  rintro e w8 ⟨rfl, hz, _⟩
  have H7 := Lib.hid hz
  clear hz H6
  go_wp2_with fail
  refine (tAlloc H7.out wA2).mono ?_
  rintro e w9 ⟨rfl, N3, t3, hz, _⟩
  have H8 := Lib.hid hz
  clear hz H7
  go_wp2_with fail
  refine (tNear H8.out 1 0 (by kernel_rfl)).mono ?_
  rintro e w10 ⟨rfl, hz, _⟩
  have H9 := Lib.hid hz
  clear hz H8
  go_wp2_with fail
  refine (tTag H9.out (x := 5) (wf_small 5 (by decide)) (look_lit H9.out.zc.tg H9.out.zc.inv 5 (by decide) (a := 0) (c := 3) (d := 1) (by kernel_rfl))).mono ?_
  rintro e w11 ⟨rfl, hz, _⟩
  have H10 := Lib.hid (hz.below (below_one (Below.refl _ _) (.cells #[.int .i64 0, .int .i64 3, .int .i64 1] 44)))
  clear hz H9
  go_wp2_with fail
  refine (tFree H10.out (wf_small 5 (by decide)) wF2).mono ?_
  rintro e w12 ⟨rfl, N4, t4, hz, _⟩
  have H11 := Lib.hid hz
  clear hz H10
  go_wp2_with fail
  refine (tFree H11.out (wf_small 0 (by decide)) wF3).mono ?_
  rintro e w13 ⟨rfl, N5, t5, hz, _⟩
  have H12 := Lib.hid hz
  clear hz H11
  go_wp2_with fail
  refine (tWhole H12.out true (whole_lit H12.out.zc.inv.std (by kernel_rfl))).mono ?_
  rintro e w14 ⟨rfl, hz, _⟩
  have H13 := Lib.hid hz
  clear hz H12
  go_wp2
  go_ret
  exact ⟨ret_bool (by simp), H13.out.low⟩
end Go.Proofs.Ytlljomnpdgmifaa
