/-
  A machine of the document's answer in a world; its small calls.
-/
import Derived.Test.YtnnpclknlccmiaaCall2
set_option linter.unusedVariables false
set_option linter.unusedSimpArgs false
namespace Go.Proofs.Ytnnpclknlccmiaa
open Go Go.RowKit

structure RV (w : World) (B d r m n : Nat) (vs : Nat → Value) (g : Gr) (q : Bool) : Prop where
  box : w.heap[B]? = some (.cells #[.slice (some ⟨d, 0, none⟩) n n, .slice (some ⟨r, 0, none⟩) n n, .int .i64 g.nd, .bool q, .slice (some ⟨m, 0, none⟩) n n] 61 (0, 0))
  deep : w.rowIs d 3 n (fun i => .int .i64 (g.dp i))
  rows : w.rowIs r 76 n vs
  need : w.rowIs m 4 n (fun i => .bool (g.aw i))
  row : ∀ i, i < n → OwnW 0 w (vs i) (g.rs i)
def OwnR (B d r m : Nat) (k : Nat) : Prop := k = B ∨ k = d ∨ k = r ∨ k = m
/-- the types of what it may change -/
def tysR : List TypeId := [61, 3, 76, 4]
theorem row_ne {w : World} {b c n n' : Nat} {T T' : TypeId} {f f' : Nat → Value} (h : w.rowIs b T n f) (h' : w.rowIs c T' n' f') (hT : T ≠ T') : b ≠ c := by
  rintro rfl
  obtain ⟨x, hb, _⟩ := h
  obtain ⟨y, hb', _⟩ := h'
  rw [hb] at hb'
  cases hb'
  exact hT rfl
theorem box_ne {w : World} {b c n : Nat} {T T' : TypeId} {x : Array Value} {fr : Nat × Nat} {f : Nat → Value} (h : w.heap[b]? = some (.cells x T fr)) (h' : w.rowIs c T' n f) (hT : T ≠ T') : b ≠ c := by
  rintro rfl
  obtain ⟨y, hb', _⟩ := h'
  rw [h] at hb'
  cases hb'
  exact hT rfl
section
variable {S : Nat → Prop} {w w' : World} {B d r m n : Nat} {vs : Nat → Value} {g g' : Gr} {q : Bool}
theorem RV.c0 (h : RV w B d r m n vs g q) : w.cell? ⟨B, 0, none⟩ = some (.slice (some ⟨d, 0, none⟩) n n) := self_cell h.box 0 _ rfl
theorem RV.c1 (h : RV w B d r m n vs g q) : w.cell? ⟨B, 1, none⟩ = some (.slice (some ⟨r, 0, none⟩) n n) := self_cell h.box 1 _ rfl
theorem RV.c2 (h : RV w B d r m n vs g q) : w.cell? ⟨B, 2, none⟩ = some (.int .i64 g.nd) := self_cell h.box 2 _ rfl
theorem RV.c3 (h : RV w B d r m n vs g q) : w.cell? ⟨B, 3, none⟩ = some (.bool q) := self_cell h.box 3 _ rfl
theorem RV.c4 (h : RV w B d r m n vs g q) : w.cell? ⟨B, 4, none⟩ = some (.slice (some ⟨m, 0, none⟩) n n) := self_cell h.box 4 _ rfl
theorem RV.cd (h : RV w B d r m n vs g q) {c : Nat} (hc : c < n) : w.cell? ⟨d, c, none⟩ = some (.int .i64 (g.dp c)) := h.deep.cell hc
theorem RV.cr (h : RV w B d r m n vs g q) {c : Nat} (hc : c < n) : w.cell? ⟨r, c, none⟩ = some (vs c) := h.rows.cell hc
theorem RV.cm (h : RV w B d r m n vs g q) {c : Nat} (hc : c < n) : w.cell? ⟨m, c, none⟩ = some (.bool (g.aw c)) := h.need.cell hc
theorem RV.fb (h : RV w B d r m n vs g q) (i : Nat) : w.frozen? ⟨B, i, none⟩ = false := self_free h.box i
theorem RV.fd (h : RV w B d r m n vs g q) (i : Nat) : w.frozen? ⟨d, i, none⟩ = false := h.deep.frozen i
theorem RV.fr (h : RV w B d r m n vs g q) (i : Nat) : w.frozen? ⟨r, i, none⟩ = false := h.rows.frozen i
theorem RV.fm (h : RV w B d r m n vs g q) (i : Nat) : w.frozen? ⟨m, i, none⟩ = false := h.need.frozen i
theorem RV.typ (h : RV w B d r m n vs g q) : ∀ k, OwnR B d r m k → Typ w tysR k := by
  rintro k (rfl | rfl | rfl | rfl)
  · exact ⟨_, _, _, h.box, by decide⟩
  · obtain ⟨c, hb, _⟩ := h.deep
    exact ⟨c, _, _, hb, by decide⟩
  · obtain ⟨c, hb, _⟩ := h.rows
    exact ⟨c, _, _, hb, by decide⟩
  · obtain ⟨c, hb, _⟩ := h.need
    exact ⟨c, _, _, hb, by decide⟩
theorem RV.kept {Ts : List TypeId} (h : RV w B d r m n vs g q) (hk : Kept S w w') (hS : ∀ k, S k → Typ w Ts k) (hT : (∀ T ∈ tysR, T ∉ Ts) ∧ 82 ∉ Ts) : RV w' B d r m n vs g q :=
  ⟨(hk.block B (lt_of_block h.box) (fun e => (hS B e).ne h.box (hT.1 _ (by decide)) rfl)).trans h.box, row_kept2 h.deep hk hS (hT.1 _ (by decide)), row_kept2 h.rows hk hS (hT.1 _ (by decide)), row_kept2 h.need hk hS (hT.1 _ (by decide)), fun i hi => own_kept2 (h.row i hi) hk hS hT.2⟩
theorem RV.below (h : RV w B d r m n vs g q) (hb : Below w.heap.size w w') : RV w' B d r m n vs g q :=
  h.kept (S := fun _ => False) (Ts := []) (Kept.ofBelow hb) (fun _ e => e.elim) (by simp)
theorem RV.drewN (h : RV w B d r m n vs g q) (k : Nat) : RV (w.drewN k) B d r m n vs g q := h.below (below_drewN (Below.refl _ w) k)
theorem rset_deep (h : RV w B d r m n vs g q) {c e : Nat} {x : Int} (hc : c < n) (hx : x = e) : RV (w.setCell ⟨d, c, none⟩ (.int .i64 x)) B d r m n vs (g.deep c e) q ∧ Kept (OwnR B d r m) w (w.setCell ⟨d, c, none⟩ (.int .i64 x)) := by
  subst hx
  have hk : Kept (· = d) w (w.setCell ⟨d, c, none⟩ (.int .i64 e)) := Kept.setCell (S := (· = d)) (p := ⟨d, c, none⟩) (Kept.refl _ w) rfl _
  refine ⟨⟨(hk.block B (lt_of_block h.box) (box_ne h.box h.deep (by decide))).trans h.box, (h.deep.set c _).congr fun i hi => ?_, row_kept h.rows hk (row_ne h.rows h.deep (by decide)), row_kept h.need hk (row_ne h.need h.deep (by decide)), fun i hi => own_kept2 (h.row i hi) hk (fun k e => h.typ k (.inr (.inl e))) (by decide)⟩, hk.mono (fun k e => .inr (.inl e))⟩
  show (if i = c then Value.int .i64 (e : Nat) else Value.int .i64 (g.dp i : Nat)) = Value.int .i64 (upd g.dp c e i : Nat)
  by_cases e : i = c
  · subst e; rw [if_pos rfl, upd_same]
  · rw [if_neg e, upd_other _ _ e]
theorem rset_row (h : RV w B d r m n vs g q) {c : Nat} {v : Value} {l : List Wt} (hc : c < n) (hv : OwnW 0 w v l) : RV (w.setCell ⟨r, c, none⟩ v) B d r m n (upd vs c v) (g.row c l) q ∧ Kept (OwnR B d r m) w (w.setCell ⟨r, c, none⟩ v) := by
  have hk : Kept (· = r) w (w.setCell ⟨r, c, none⟩ v) := Kept.setCell (S := (· = r)) (p := ⟨r, c, none⟩) (Kept.refl _ w) rfl _
  have ht : ∀ k, k = r → Typ w tysR k := fun k e => h.typ k (.inr (.inr (.inl e)))
  refine ⟨⟨(hk.block B (lt_of_block h.box) (box_ne h.box h.rows (by decide))).trans h.box, row_kept h.deep hk (row_ne h.deep h.rows (by decide)), (h.rows.set c _).congr fun i hi => ?_, row_kept h.need hk (row_ne h.need h.rows (by decide)), fun i hi => ?_⟩, hk.mono (fun k e => .inr (.inr (.inl e)))⟩
  · show (if i = c then v else vs i) = upd vs c v i
    rfl
  · show OwnW 0 _ (upd vs c v i) (upd g.rs c l i)
    by_cases e : i = c
    · subst e
      rw [upd_same, upd_same]
      exact own_kept2 hv hk ht (by decide)
    · rw [upd_other _ _ e, upd_other _ _ e]
      exact own_kept2 (h.row i hi) hk ht (by decide)
theorem rset_need (h : RV w B d r m n vs g q) {c : Nat} {b : Bool} (hc : c < n) : RV (w.setCell ⟨m, c, none⟩ (.bool b)) B d r m n vs { g with aw := upd g.aw c b } q ∧ Kept (OwnR B d r m) w (w.setCell ⟨m, c, none⟩ (.bool b)) := by
  have hk : Kept (· = m) w (w.setCell ⟨m, c, none⟩ (.bool b)) := Kept.setCell (S := (· = m)) (p := ⟨m, c, none⟩) (Kept.refl _ w) rfl _
  refine ⟨⟨(hk.block B (lt_of_block h.box) (box_ne h.box h.need (by decide))).trans h.box, row_kept h.deep hk (row_ne h.deep h.need (by decide)), row_kept h.rows hk (row_ne h.rows h.need (by decide)), (h.need.set c _).congr fun i hi => ?_, fun i hi => own_kept2 (h.row i hi) hk (fun k e => h.typ k (.inr (.inr (.inr e)))) (by decide)⟩, hk.mono (fun k e => .inr (.inr (.inr e)))⟩
  show (if i = c then Value.bool b else Value.bool (g.aw i)) = Value.bool (upd g.aw c b i)
  by_cases e : i = c
  · subst e; rw [if_pos rfl, upd_same]
  · rw [if_neg e, upd_other _ _ e]
theorem rset_go (h : RV w B d r m n vs g q) (b : Bool) : RV (w.setCell ⟨B, 3, none⟩ (.bool b)) B d r m n vs g b ∧ Kept (OwnR B d r m) w (w.setCell ⟨B, 3, none⟩ (.bool b)) := by
  have hk : Kept (· = B) w (w.setCell ⟨B, 3, none⟩ (.bool b)) := Kept.setCell (S := (· = B)) (p := ⟨B, 3, none⟩) (Kept.refl _ w) rfl _
  exact ⟨⟨cells_set h.box 3 _, row_kept h.deep hk (fun e => box_ne h.box h.deep (by decide) e.symm), row_kept h.rows hk (fun e => box_ne h.box h.rows (by decide) e.symm), row_kept h.need hk (fun e => box_ne h.box h.need (by decide) e.symm), fun i hi => own_kept2 (h.row i hi) hk (fun k e => h.typ k (.inl e)) (by decide)⟩, hk.mono (fun k e => .inl e)⟩
theorem rset_nd (h : RV w B d r m n vs g q) : RV (w.setCell ⟨B, 2, none⟩ (.int .i64 ((g.nd : Int) + 1))) B d r m n vs { g with nd := g.nd + 1 } q ∧ Kept (OwnR B d r m) w (w.setCell ⟨B, 2, none⟩ (.int .i64 ((g.nd : Int) + 1))) := by
  have hk : Kept (· = B) w (w.setCell ⟨B, 2, none⟩ (.int .i64 ((g.nd : Int) + 1))) := Kept.setCell (S := (· = B)) (p := ⟨B, 2, none⟩) (Kept.refl _ w) rfl _
  exact ⟨⟨cells_set h.box 2 _, row_kept h.deep hk (fun e => box_ne h.box h.deep (by decide) e.symm), row_kept h.rows hk (fun e => box_ne h.box h.rows (by decide) e.symm), row_kept h.need hk (fun e => box_ne h.box h.need (by decide) e.symm), fun i hi => own_kept2 (h.row i hi) hk (fun k e => h.typ k (.inl e)) (by decide)⟩, hk.mono (fun k e => .inl e)⟩
theorem RV.congr (h : RV w B d r m n vs g q) {g' : Gr} (hd : ∀ i, i < n → g'.dp i = g.dp i) (hr : ∀ i, i < n → g'.rs i = g.rs i) (hn : g'.nd = g.nd) (ha : ∀ i, i < n → g'.aw i = g.aw i) : RV w B d r m n vs g' q :=
  ⟨by rw [hn]; exact h.box, h.deep.congr fun i hi => by rw [hd i hi], h.rows, h.need.congr fun i hi => by rw [ha i hi], fun i hi => by rw [hr i hi]; exact h.row i hi⟩
set_option maxHeartbeats 1000000 in
set_option maxRecDepth 100000 in
theorem rHas (h : RV w B d r m n vs g q) (cpu : Int) (x : Bool) (hx : decide (isP n cpu) = x) :
    Calls Try.prog 47 #[.pointer (some ⟨B, 0, none⟩), .int .i64 cpu] w fun e w' => e = .returned (.bool x) ∧ w' = w := by
  have c0 := h.c0
  have HX := Lib.hid hx
  clear h hx
  by_cases h0 : 0 ≤ cpu
  · by_cases h2 : cpu < n
    · have HY : Hid (true = x) := Lib.hid (by rw [← HX.out]; exact (decide_eq_true (show isP n cpu from ⟨h0, h2⟩)).symm)
      go_enter Try.func47, Try.ntmps47
      go_wp2
      go_ret
      exact ⟨ret_bool HY.out, rfl⟩
    · have HY : Hid (false = x) := Lib.hid (by rw [← HX.out]; exact (decide_eq_false (fun (e : isP n cpu) => h2 e.2)).symm)
      go_enter Try.func47, Try.ntmps47
      go_wp2
      go_ret
      exact ⟨ret_bool HY.out, rfl⟩
  · have HY : Hid (false = x) := Lib.hid (by rw [← HX.out]; exact (decide_eq_false (fun (e : isP n cpu) => h0 e.1)).symm)
    go_enter Try.func47, Try.ntmps47
    go_wp2
    go_ret
    exact ⟨ret_bool HY.out, rfl⟩
set_option maxHeartbeats 1000000 in
set_option maxRecDepth 100000 in
theorem rBegin (h : RV w B d r m n vs g q) (hn : n ≤ 8) :
    Calls Try.prog 50 #[.pointer (some ⟨B, 0, none⟩)] w fun e w' => e = .returned (.tuple #[]) ∧ RV w' B d r m n vs { g with aw := allT n } true ∧ Kept (OwnR B d r m) w w' := by
  have c3 := h.c3
  have cf := h.fb 3
  have HS := Lib.hid (rset_go h true)
  clear h
  go_enter Try.func50, Try.ntmps50
  go_wp2
  go_loopw [2] (fun i wr => ∃ k : Nat, k ≤ n ∧ i = .int .i64 k ∧ Hid (∃ a : Nat → Bool, (∀ j, j < k → a j = true) ∧ RV wr B d r m n vs { g with aw := a } true ∧ Kept (OwnR B d r m) w wr)) (fun i _ => n - (intOf i).toNat)
  case atStart => exact ⟨0, by omega, rfl, Lib.hid ⟨g.aw, fun j hj => by omega, HS.out.1, HS.out.2⟩⟩
  case round =>
    clear c3 cf
    obtain ⟨k, hk, rfl, HR⟩ := hrel
    have c4 : wr.cell? ⟨B, 4, none⟩ = some (.slice (some ⟨m, 0, none⟩) n n) := by
      obtain ⟨a, _, hg, _⟩ := HR.out
      exact hg.c4
    by_cases hlt : k < n
    · obtain ⟨a, ha1, hg, hkp⟩ := HR.out
      have ea := hg.cm hlt
      have ef := hg.fm k
      have HN : Hid (∃ a : Nat → Bool, (∀ j, j < k + 1 → a j = true) ∧ RV (wr.setCell ⟨m, k, none⟩ (.bool true)) B d r m n vs { g with aw := a } true ∧ Kept (OwnR B d r m) w (wr.setCell ⟨m, k, none⟩ (.bool true))) := by
        obtain ⟨s1, s2⟩ := rset_need hg (c := k) (b := true) hlt
        refine Lib.hid ⟨upd a k true, fun j hj => ?_, s1, hkp.trans s2⟩
        by_cases e : j = k
        · subst e; rw [upd_same]
        · rw [upd_other _ _ e]; exact ha1 j (by omega)
      clear HR ha1 hg hkp
      go_wp2
      go_roundw
      case rel => exact ⟨k + 1, by omega, by go_num, HN⟩
      case measure => simp [intOf]; omega
    · obtain rfl : k = n := by omega
      go_wp2
      go_end0
      obtain ⟨a, ha1, hg, hkp⟩ := HR.out
      exact ⟨rfl, hg.congr (fun _ _ => rfl) (fun _ _ => rfl) rfl (fun i hi => by show allT k i = a i; rw [ha1 i hi]; exact allT_yes hi), hkp⟩
set_option maxHeartbeats 1000000 in
set_option maxRecDepth 100000 in
theorem rWaited (h : RV w B d r m n vs g q) (hn : n ≤ 8) (x : Bool) (hx : anyB g.aw n = x) :
    Calls Try.prog 48 #[.pointer (some ⟨B, 0, none⟩)] w fun e w' => e = .returned (.bool x) ∧ w' = w := by
  have c4 := h.c4
  have HA := Lib.hid h
  have HX := Lib.hid hx
  clear h hx
  go_enter Try.func48, Try.ntmps48
  go_wp2
  go_loop [3] (fun i => ∃ k : Nat, k ≤ n ∧ i = .int .i64 k ∧ Hid (∀ j, j < k → g.aw j = false)) (fun i => n - (intOf i).toNat)
  case atStart => exact ⟨0, by omega, rfl, Lib.hid (fun j hj => by omega)⟩
  case round =>
    obtain ⟨k, hk, rfl, HR⟩ := hrel
    by_cases hlt : k < n
    · have ea := HA.out.cm hlt
      cases ha : g.aw k with
      | true =>
        rw [ha] at ea
        have HY : Hid (true = x) := Lib.hid (by rw [← HX.out]; exact (anyB_iff.2 ⟨k, hlt, ha⟩).symm)
        clear ha
        go_wp2
        go_ret
        exact ⟨ret_bool HY.out, rfl⟩
      | false =>
        rw [ha] at ea
        have HN : Hid (∀ j, j < k + 1 → g.aw j = false) := Lib.hid (fun j hj => by
          by_cases e : j = k
          · subst e; exact ha
          · exact HR.out j (by omega))
        clear ha
        go_wp2
        go_round
        case rel => exact ⟨k + 1, by omega, by go_num, HN⟩
        case measure => simp [intOf]; omega
    · obtain rfl : k = n := by omega
      have HY : Hid (false = x) := Lib.hid (by rw [← HX.out]; exact (anyB_no.2 HR.out).symm)
      go_wp2
      go_ret
      exact ⟨ret_bool HY.out, rfl⟩
end
end Go.Proofs.Ytnnpclknlccmiaa
