/-
  No cell of these rows narrows 'for every input' (looked for: loops, veiled, ifaces, maps, wideKeys, modest, calm, conditions, laid).
  DERIVED. THE GIVEN ROWS OF THIS SEAT. 5 by the template 'for every input the law returns true; each argument reads behind the call as it read before'; 0 by the template 'total and deterministic' (their statements: YtpohfecbogppkaaTotals.lean).
  GIVEN WITH THE SEED: the statements are not yours to turn. If you find one false, say at which input.
  Laid BY PROGRAM, IN A SANDBOX (cutbox-rows.mjs): the forced cells as the released guide's own fill.sh prints them over the translation 7d958ba6e9683fc2… (all of the seat's roots in one cut). By AI agents, Wed Nov 11 2026. No macro, syntax, notation, axiom, sorry.
-/
import Derived.Test.YtpohfecbogppkaaChecked
import GoSem.Claim
import GoSem.ClaimJoined
import GoSem.ClaimMapViews
import Derived.JoinedTies
import Derived.KernelRfl
namespace Go.Proofs.Ytpohfecbogppkaa
/- THE CELL 'sum', in the pinned program and in every row, IS THE sha256 OF THE DUMP (.gsa) THAT YtpohfecbogppkaaProg.lean LOADS. Nothing in Lean hashes anything: it is a label: what it is worth is what the hold of that sum in a sandbox is worth. -/
noncomputable def Try.pinned : Pinned := { name := "ytpohfecbogppkaa", sum := "7d958ba6e9683fc235a332d7c8f69f5a70021e347a03a9f33788624534d9e3e8", checked := Try.checked }
namespace Rows
def none {H : Type} : Left H := { results := [], args := [] }

/-- 'wainscotlaw06.BuddyPlays': WHATEVER THE INPUT: true; the input reads as it did. -/
def buddyPlaysSpec : ChangeSpec := { name := "buddyPlays", fn := fun _ => fun
  | [d1, d2] => { results := [.lit (.bool true)], args := [d1, d2] }
  | _ => none }
def buddyPlaysRow : OpenClaim := { program := "ytpohfecbogppkaa", sum := "7d958ba6e9683fc235a332d7c8f69f5a70021e347a03a9f33788624534d9e3e8", func := "wainscot/wainscotlaw06.BuddyPlays", spec := "buddyPlays", unfollowed := true, recurses := true, apart := false }
def BuddyPlaysSaid : Prop := buddyPlaysRow.holds Try.pinned (OpenSpec.ofChange buddyPlaysSpec)

/-- ITS FALSE NEIGHBOUR: 'it returns false'. Refute it at one input. -/
def buddyPlaysWrong : ChangeSpec := { name := "buddyPlays", fn := fun _ => fun
  | [d1, d2] => { results := [.lit (.bool false)], args := [d1, d2] }
  | _ => none }
def BuddyPlaysWrongFalsely : Prop := buddyPlaysRow.holds Try.pinned (OpenSpec.ofChange buddyPlaysWrong)

/-- 'wainscotlaw06.BuddyStands': WHATEVER THE INPUT: true; the input reads as it did. -/
def buddyStandsSpec : ChangeSpec := { name := "buddyStands", fn := fun _ => fun
  | [d1, d2] => { results := [.lit (.bool true)], args := [d1, d2] }
  | _ => none }
def buddyStandsRow : OpenClaim := { program := "ytpohfecbogppkaa", sum := "7d958ba6e9683fc235a332d7c8f69f5a70021e347a03a9f33788624534d9e3e8", func := "wainscot/wainscotlaw06.BuddyStands", spec := "buddyStands", unfollowed := true, recurses := true, apart := false }
def BuddyStandsSaid : Prop := buddyStandsRow.holds Try.pinned (OpenSpec.ofChange buddyStandsSpec)

/-- ITS FALSE NEIGHBOUR: 'it returns false'. Refute it at one input. -/
def buddyStandsWrong : ChangeSpec := { name := "buddyStands", fn := fun _ => fun
  | [d1, d2] => { results := [.lit (.bool false)], args := [d1, d2] }
  | _ => none }
def BuddyStandsWrongFalsely : Prop := buddyStandsRow.holds Try.pinned (OpenSpec.ofChange buddyStandsWrong)

/-- 'wainscotlaw06.BuddyBack': WHATEVER THE INPUT: true; the input reads as it did. -/
def buddyBackSpec : ChangeSpec := { name := "buddyBack", fn := fun _ => fun
  | [d1, d2, d3] => { results := [.lit (.bool true)], args := [d1, d2, d3] }
  | _ => none }
def buddyBackRow : OpenClaim := { program := "ytpohfecbogppkaa", sum := "7d958ba6e9683fc235a332d7c8f69f5a70021e347a03a9f33788624534d9e3e8", func := "wainscot/wainscotlaw06.BuddyBack", spec := "buddyBack", unfollowed := true, recurses := true, apart := false }
def BuddyBackSaid : Prop := buddyBackRow.holds Try.pinned (OpenSpec.ofChange buddyBackSpec)

/-- ITS FALSE NEIGHBOUR: 'it returns false'. Refute it at one input. -/
def buddyBackWrong : ChangeSpec := { name := "buddyBack", fn := fun _ => fun
  | [d1, d2, d3] => { results := [.lit (.bool false)], args := [d1, d2, d3] }
  | _ => none }
def BuddyBackWrongFalsely : Prop := buddyBackRow.holds Try.pinned (OpenSpec.ofChange buddyBackWrong)

/-- 'wainscotlaw06.BuddyFull': WHATEVER THE INPUT: true; the input reads as it did. -/
def buddyFullSpec : ChangeSpec := { name := "buddyFull", fn := fun _ => fun
  | [d1, d2, d3] => { results := [.lit (.bool true)], args := [d1, d2, d3] }
  | _ => none }
def buddyFullRow : OpenClaim := { program := "ytpohfecbogppkaa", sum := "7d958ba6e9683fc235a332d7c8f69f5a70021e347a03a9f33788624534d9e3e8", func := "wainscot/wainscotlaw06.BuddyFull", spec := "buddyFull", unfollowed := true, recurses := true, apart := false }
def BuddyFullSaid : Prop := buddyFullRow.holds Try.pinned (OpenSpec.ofChange buddyFullSpec)

/-- ITS FALSE NEIGHBOUR: 'it returns false'. Refute it at one input. -/
def buddyFullWrong : ChangeSpec := { name := "buddyFull", fn := fun _ => fun
  | [d1, d2, d3] => { results := [.lit (.bool false)], args := [d1, d2, d3] }
  | _ => none }
def BuddyFullWrongFalsely : Prop := buddyFullRow.holds Try.pinned (OpenSpec.ofChange buddyFullWrong)

/-- 'wainscotlaw06.BuddyKnown': WHATEVER THE INPUT: true; the input reads as it did. -/
def buddyKnownSpec : ChangeSpec := { name := "buddyKnown", fn := fun _ => fun
  | [] => { results := [.lit (.bool true)], args := [] }
  | _ => none }
def buddyKnownRow : OpenClaim := { program := "ytpohfecbogppkaa", sum := "7d958ba6e9683fc235a332d7c8f69f5a70021e347a03a9f33788624534d9e3e8", func := "wainscot/wainscotlaw06.BuddyKnown", spec := "buddyKnown", unfollowed := true, recurses := true, apart := false }
def BuddyKnownSaid : Prop := buddyKnownRow.holds Try.pinned (OpenSpec.ofChange buddyKnownSpec)

/-- ITS FALSE NEIGHBOUR: 'it returns false'. Refute it at one input. -/
def buddyKnownWrong : ChangeSpec := { name := "buddyKnown", fn := fun _ => fun
  | [] => { results := [.lit (.bool false)], args := [] }
  | _ => none }
def BuddyKnownWrongFalsely : Prop := buddyKnownRow.holds Try.pinned (OpenSpec.ofChange buddyKnownWrong)

/- THE SECOND FORM. 'bulk': how many values and letters a reading holds, each counted each time it is reached (what is shared counts as often as it is met; a slice's spare places count too). A statement '..UptoSaid' is the law's where the arguments, and the package variables that the reading takes, are together of bulk at most 1048576: NARROWER than '..Said'. Prove '..Said' where nothing that the law and all that it calls make is longer than what came in: it says more and counts as full. Else prove '..UptoSaid'. A law counts once. -/
mutual
def uptoBulk {H : Type} : DataW H → Nat
  | .lit (.string bytes) => bytes.length + 1
  | .lit _ => 1
  | .nil => 1
  | .ptr d => uptoBulk d + 1
  | .slice elems spare => uptoBulkAll elems + uptoBulkAll spare + 1
  | .agg parts => uptoBulkAll parts + 1
  | .iface _ d => uptoBulk d + 1
  | .map entries => uptoBulkEntries entries + 1
  | .held _ => 1
def uptoBulkAll {H : Type} : List (DataW H) → Nat
  | [] => 0
  | d :: r => uptoBulk d + uptoBulkAll r
def uptoBulkEntries {H : Type} : List (Lit × DataW H) → Nat
  | [] => 0
  | x :: r => uptoBulkEntry x + uptoBulkEntries r
def uptoBulkEntry {H : Type} : Lit × DataW H → Nat
  | (.string bytes, d) => bytes.length + uptoBulk d + 1
  | (_, d) => uptoBulk d + 1
 end
def uptoSmall : (H : Type) → List (DataW H) → Bool := fun _ ds => decide (uptoBulkAll ds ≤ 1048576)
def OpenSpec.upto (s : _root_.Go.ChangeSpec) : _root_.Go.OpenSpec := { _root_.Go.OpenSpec.ofChange s with cond := some uptoSmall }

/-- 'wainscotlaw06.BuddyPlays', WHERE WHAT IT READS IS OF BULK AT MOST 1048576: true; the input reads as it did. -/
def buddyPlaysUptoRow : OpenClaim := { program := "ytpohfecbogppkaa", sum := "7d958ba6e9683fc235a332d7c8f69f5a70021e347a03a9f33788624534d9e3e8", func := "wainscot/wainscotlaw06.BuddyPlays", spec := "buddyPlays", unfollowed := true, recurses := true, apart := false, narrowed := true }
def BuddyPlaysUptoSaid : Prop := buddyPlaysUptoRow.holds Try.pinned (OpenSpec.upto buddyPlaysSpec)

/-- 'wainscotlaw06.BuddyStands', WHERE WHAT IT READS IS OF BULK AT MOST 1048576: true; the input reads as it did. -/
def buddyStandsUptoRow : OpenClaim := { program := "ytpohfecbogppkaa", sum := "7d958ba6e9683fc235a332d7c8f69f5a70021e347a03a9f33788624534d9e3e8", func := "wainscot/wainscotlaw06.BuddyStands", spec := "buddyStands", unfollowed := true, recurses := true, apart := false, narrowed := true }
def BuddyStandsUptoSaid : Prop := buddyStandsUptoRow.holds Try.pinned (OpenSpec.upto buddyStandsSpec)

/-- 'wainscotlaw06.BuddyBack', WHERE WHAT IT READS IS OF BULK AT MOST 1048576: true; the input reads as it did. -/
def buddyBackUptoRow : OpenClaim := { program := "ytpohfecbogppkaa", sum := "7d958ba6e9683fc235a332d7c8f69f5a70021e347a03a9f33788624534d9e3e8", func := "wainscot/wainscotlaw06.BuddyBack", spec := "buddyBack", unfollowed := true, recurses := true, apart := false, narrowed := true }
def BuddyBackUptoSaid : Prop := buddyBackUptoRow.holds Try.pinned (OpenSpec.upto buddyBackSpec)

/-- 'wainscotlaw06.BuddyFull', WHERE WHAT IT READS IS OF BULK AT MOST 1048576: true; the input reads as it did. -/
def buddyFullUptoRow : OpenClaim := { program := "ytpohfecbogppkaa", sum := "7d958ba6e9683fc235a332d7c8f69f5a70021e347a03a9f33788624534d9e3e8", func := "wainscot/wainscotlaw06.BuddyFull", spec := "buddyFull", unfollowed := true, recurses := true, apart := false, narrowed := true }
def BuddyFullUptoSaid : Prop := buddyFullUptoRow.holds Try.pinned (OpenSpec.upto buddyFullSpec)

/-- 'wainscotlaw06.BuddyKnown', WHERE WHAT IT READS IS OF BULK AT MOST 1048576: true; the input reads as it did. -/
def buddyKnownUptoRow : OpenClaim := { program := "ytpohfecbogppkaa", sum := "7d958ba6e9683fc235a332d7c8f69f5a70021e347a03a9f33788624534d9e3e8", func := "wainscot/wainscotlaw06.BuddyKnown", spec := "buddyKnown", unfollowed := true, recurses := true, apart := false, narrowed := true }
def BuddyKnownUptoSaid : Prop := buddyKnownUptoRow.holds Try.pinned (OpenSpec.upto buddyKnownSpec)

end Rows
end Go.Proofs.Ytpohfecbogppkaa
