/-
  New of both; Has and Put of the document's answer.
-/
import Derived.Test.YtpmlmpkjmgebnaaTake
set_option linter.unusedVariables false
set_option linter.unusedSimpArgs false
namespace Go.Proofs.Ytpmlmpkjmgebnaa
open Go Go.RowKit

theorem makeL (n : Nat) (hn : n ≤ 10000) : ∃ O : Obj, (∀ w : World, (Instr.makeSlice 46 (.int .i64 (n : Int)) (.int .i64 (n : Int))).run Try.prog w = .ok (.slice (some ⟨w.heap.size, 0, none⟩) n n) (w.alloc O)) ∧ ∀ w : World, (w.alloc O).rowIs w.heap.size 33 n (fun _ => .slice none 0 0) :=
  ⟨_, fun w => run_make_row' (P := Try.prog) 46 33 (.slice none 0 0) 24 Try.underlying46 (by kernel_rfl) rfl .i64 .i64 n (by omega) (by omega) w, fun w => World.rowIs_made w _ n _⟩
def noF : F := fun _ => []
def noV : Nat → Value := fun _ => .slice none 0 0
theorem near_new (w : World) (T : TypeId) (n lim : Nat) (O : Obj) (h1 : 1 ≤ n ∧ n ≤ 8) (h2 : lim ≤ 64) (hT : 3 ≠ T ∧ 33 ≠ T) (hr : ∀ w : World, (w.alloc O).rowIs w.heap.size 33 n (fun _ => .slice none 0 0)) :
    NearG ((w.alloc O).alloc (.cells #[.slice (some ⟨w.heap.size, 0, none⟩) n n, .int .i64 lim] T)) T (w.heap.size + 1) w.heap.size noV n lim noF := by
  refine ⟨heap_new2 _ _ _, (hr w).alloc _, fun i hi => World.ownsRow_nil _ _ _ _, fun i j _ _ _ k e => by simp [noV, Value.ownBlock] at e, hT, h1, h2, fun i hi => by simp [noF]⟩
def ArgOk (cpus limit : Int) : Prop := (1 ≤ cpus ∧ cpus ≤ 8) ∧ 0 ≤ limit ∧ limit ≤ 64
instance (cpus limit : Int) : Decidable (ArgOk cpus limit) := by unfold ArgOk; infer_instance
def NewOk (w : World) (T : TypeId) (n lim : Nat) (e : Ending) (w' : World) : Prop :=
  ∃ B g, e = .returned (.tuple #[.pointer (some ⟨B, 0, none⟩), .int .i64 0]) ∧ NearG w' T B g noV n lim noF ∧ Below w.heap.size w w' ∧ ∀ k, Own n B g noV k → w.heap.size ≤ k
theorem own_none {w : World} {n : Nat} : ∀ k, Own n (w.heap.size + 1) w.heap.size noV k → w.heap.size ≤ k := by
  rintro k (e | e | ⟨i, _, e⟩)
  · omega
  · omega
  · simp [noV, Value.ownBlock] at e
set_option maxHeartbeats 2000000 in
set_option maxRecDepth 100000 in
theorem cNewBad (cpus limit : Int) (w : World) (h : ¬ ArgOk cpus limit) : Calls Try.prog 7 #[.int .i64 cpus, .int .i64 limit] w fun e w' => e = .returned (.tuple #[.pointer none, .int .i64 2]) ∧ w' = w := by
  by_cases h1 : cpus < 1
  · go_enter Try.func7, Try.ntmps7
    go_wp2
    go_ret2
    exact ⟨rfl, rfl⟩
  · by_cases h2 : 8 < cpus
    · go_enter Try.func7, Try.ntmps7
      go_wp2
      go_ret2
      exact ⟨rfl, rfl⟩
    · by_cases h3 : limit < 0
      · go_enter Try.func7, Try.ntmps7
        go_wp2
        go_ret2
        exact ⟨rfl, rfl⟩
      · have h4 : 64 < limit := by unfold ArgOk at h; omega
        go_enter Try.func7, Try.ntmps7
        go_wp2
        go_ret2
        exact ⟨rfl, rfl⟩
set_option maxHeartbeats 2000000 in
set_option maxRecDepth 100000 in
theorem rNewBad (cpus limit : Int) (w : World) (h : ¬ ArgOk cpus limit) : Calls Try.prog 8 #[.int .i64 cpus, .int .i64 limit] w fun e w' => e = .returned (.tuple #[.pointer none, .int .i64 2]) ∧ w' = w := by
  by_cases h1 : cpus < 1
  · go_enter Try.func8, Try.ntmps8
    go_wp2
    go_ret2
    exact ⟨rfl, rfl⟩
  · by_cases h2 : 8 < cpus
    · go_enter Try.func8, Try.ntmps8
      go_wp2
      go_ret2
      exact ⟨rfl, rfl⟩
    · by_cases h3 : limit < 0
      · go_enter Try.func8, Try.ntmps8
        go_wp2
        go_ret2
        exact ⟨rfl, rfl⟩
      · have h4 : 64 < limit := by unfold ArgOk at h; omega
        go_enter Try.func8, Try.ntmps8
        go_wp2
        go_ret2
        exact ⟨rfl, rfl⟩
set_option maxHeartbeats 2000000 in
set_option maxRecDepth 100000 in
theorem cNew (n lim : Nat) (w : World) (h1 : 1 ≤ n ∧ n ≤ 8) (h2 : lim ≤ 64) : Calls Try.prog 7 #[.int .i64 n, .int .i64 lim] w (NewOk w 48 n lim) := by
  obtain ⟨O, hO, hr⟩ := makeL n (by omega)
  have HR := Lib.hid (near_new w 48 n lim O h1 h2 (by decide) hr)
  clear hr
  go_enter Try.func7, Try.ntmps7
  go_wp2
  go_ret2
  exact ⟨_, _, rfl, HR.out, below_one (below_one (Below.refl _ _) _) _, own_none⟩
set_option maxHeartbeats 2000000 in
set_option maxRecDepth 100000 in
theorem rNew (n lim : Nat) (w : World) (h1 : 1 ≤ n ∧ n ≤ 8) (h2 : lim ≤ 64) : Calls Try.prog 8 #[.int .i64 n, .int .i64 lim] w (NewOk w 50 n lim) := by
  obtain ⟨O, hO, hr⟩ := makeL n (by omega)
  have HR := Lib.hid (near_new w 50 n lim O h1 h2 (by decide) hr)
  clear hr
  go_enter Try.func8, Try.ntmps8
  go_wp2
  go_ret2
  exact ⟨_, _, rfl, HR.out, below_one (below_one (Below.refl _ _) _) _, own_none⟩
section
variable {w w' w1 : World} {T : TypeId} {B g n lim : Nat} {vs vs1 vs' : Nat → Value} {f : F}
set_option maxHeartbeats 8000000 in
set_option maxRecDepth 100000 in
theorem rHas (h : NearG w 50 B g vs n lim f) (x : Int) (q : Bool) (hq : hasB f n x = q) :
    Calls Try.prog 22 #[.pointer (some ⟨B, 0, none⟩), .int .i64 x] w fun e w' => e = .returned (.bool q) ∧ w' = w := by
  have HA := Lib.hid h
  obtain ⟨c0, c1⟩ := h.self
  have hn := h.n1
  have HQ := Lib.hid hq
  clear h hq
  go_enter Try.func22, Try.ntmps22
  go_wp2
  go_loopw [5] (fun i wr => ∃ k : Nat, k ≤ n ∧ i = .int .i64 k ∧ Hid (∀ j, j < k → x ∉ f j) ∧ wr = w) (fun i _ => n - (intOf i).toNat)
  case atStart => exact ⟨0, by omega, rfl, Lib.hid (fun j hj => by omega), rfl⟩
  case round =>
    obtain ⟨k, hk, rfl, HN, rfl⟩ := hrel
    by_cases hlt : k < n
    · have c2 := HA.out.tab.cell hlt
      have hs := HA.out.shows hlt
      have hlen := HA.out.len k hlt
      have HT : Hid (x ∈ f k → q = true) := Lib.hid (fun e => by rw [← HQ.out]; exact hasB_iff.2 ⟨k, hlt, e⟩)
      have HF : Hid (x ∉ f k → ∀ j, j < k + 1 → x ∉ f j) := Lib.hid (fun e j hj => by
        by_cases ej : j = k
        · subst ej; exact e
        · exact HN.out j (by omega))
      obtain ⟨ao, cap, hv, hcap, hat⟩ := hs.form
      rw [hv] at c2
      generalize f k = l at *
      clear hs hv HN
      go_wp2
      go_loopw [6] (fun i wx => ∃ m : Nat, m ≤ l.length ∧ i = .int .i64 m ∧ Hid (x ∉ l.take m) ∧ wx = wr) (fun i _ => l.length - (intOf i).toNat)
      case atStart => exact ⟨0, by omega, rfl, Lib.hid (by simp), rfl⟩
      case round =>
        obtain ⟨m, hm, rfl, HM, rfl⟩ := hrel
        by_cases hml : m < l.length
        · obtain ⟨b1, o1, rfl, d1⟩ := hat m hml
          rw [← pk_at l m hml] at d1
          have HT2 : Hid (l[m] = x → q = true) := Lib.hid (fun e => HT.out (e ▸ List.getElem_mem hml))
          have HF2 : Hid (l[m] ≠ x → x ∉ l.take (m + 1)) := Lib.hid (fun e => not_take_succ hml HM.out e)
          generalize l[m] = y at d1 HT2 HF2
          by_cases hxy : y = x
          · have HT3 := Lib.hid (HT2.out hxy)
            subst hxy
            clear HT HF HT2 HF2 HM
            go_wp2
            go_ret
            exact ⟨ret_bool HT3.out.symm, rfl⟩
          · have HF3 := Lib.hid (HF2.out hxy)
            have hq : (y == x) = false := by rw [beq_eq_false_iff_ne]; exact hxy
            clear HT2 HF2 HM
            go_wp2
            go_roundw
            case rel => exact ⟨m + 1, by omega, by go_num, HF3, trivial⟩
            case measure => simp [intOf]; omega
        · obtain rfl : m = l.length := by omega
          have HF3 := Lib.hid (HF.out (by have := HM.out; rwa [List.take_length] at this))
          clear HT HF HM
          go_wp2
          go_roundw
          case rel => exact ⟨k + 1, by omega, by go_num, HF3, trivial⟩
          case measure => simp [intOf]; omega
    · obtain rfl : k = n := by omega
      have HQ2 : Hid (false = q) := Lib.hid (by rw [← HQ.out]; exact (hasB_no.2 HN.out).symm)
      go_wp2
      go_ret
      exact ⟨ret_bool HQ2.out, rfl⟩
end
end Go.Proofs.Ytpmlmpkjmgebnaa
