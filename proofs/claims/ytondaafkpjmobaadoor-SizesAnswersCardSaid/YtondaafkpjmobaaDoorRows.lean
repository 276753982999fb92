/-
  NARROWER THAN 'FOR EVERY INPUT', by the rows' own cells (each row's printed sentence says how): SizesAnswers: laid · SizesFit: laid · SizesSpecs: laid · SizesKnown: laid.
  DERIVED. THE GIVEN ROWS OF THIS SEAT. 4 by the template 'for every input the law returns true; each argument reads behind the call as it read before'; 0 by the template 'total and deterministic' (their statements: YtondaafkpjmobaaDoorTotals.lean).
  GIVEN WITH THE SEED: the statements are not yours to turn. If you find one false, say at which input.
  Laid BY PROGRAM, IN A SANDBOX (cutbox-rows.mjs): the forced cells as the released guide's own fill.sh prints them over the translation 28a1bf165f44dfcd… (all of the seat's roots in one cut). By AI agents, Wed Nov 11 2026. No macro, syntax, notation, axiom, sorry.
-/
import Derived.Test.YtondaafkpjmobaaDoorChecked
import GoSem.Claim
import GoSem.ClaimJoined
import GoSem.ClaimMapViews
import Derived.JoinedTies
import Derived.KernelRfl
namespace Go.Proofs.YtondaafkpjmobaaDoor
/- THE CELL 'sum', in the pinned program and in every row, IS THE sha256 OF THE DUMP (.gsa) THAT YtondaafkpjmobaaDoorProg.lean LOADS. Nothing in Lean hashes anything: it is a label: what it is worth is what the hold of that sum in a sandbox is worth. -/
noncomputable def Tryd.pinned : Pinned := { name := "ytondaafkpjmobaadoor", sum := "28a1bf165f44dfcd875ea82d5e68b4567dde0ecda1299ef34620e6a72151d7cc", checked := Tryd.checked }
namespace Rows
def none {H : Type} : Left H := { results := [], args := [] }

/- WHAT THE LISTED PACKAGE-LEVEL VARIABLES READ AS WHEN THE CALL BEGINS. Each datum BY PROGRAM (the guide's laid-datum.mjs) off the statement by which the dump's own 'gosem.cut.vars' lays the variable. In a bare row this is a premise. The card (YtondaafkpjmobaaDoorCards.lean) ties it to the program's text. -/
def laid_wainscot_sizes_sizes {H : Type} : DataW H := .agg [.lit (.int .i64 8), .lit (.int .i64 16), .lit (.int .i64 32), .lit (.int .i64 48), .lit (.int .i64 64), .lit (.int .i64 96), .lit (.int .i64 128), .lit (.int .i64 192), .lit (.int .i64 256), .lit (.int .i64 512)]

/-- 'wainscotlaw19.SizesAnswers': WHATEVER THE INPUT: true; the input reads as it did. -/
def sizesAnswersSpec : ChangeSpec := { name := "sizesAnswers", fn := fun _ => fun
  | [d] => { results := [.lit (.bool true)], args := [d] }
  | _ => none }
def sizesAnswersRow : OpenClaim := { program := "ytondaafkpjmobaadoor", sum := "28a1bf165f44dfcd875ea82d5e68b4567dde0ecda1299ef34620e6a72151d7cc", func := "wainscot/wainscotlaw19.SizesAnswers", spec := "sizesAnswers", unfollowed := true, recurses := true, named := ["wainscot/sizes.sizes"], apart := false, laid := [("wainscot/sizes.sizes", laid_wainscot_sizes_sizes)] }
def SizesAnswersSaid : Prop := sizesAnswersRow.holds Tryd.pinned (OpenSpec.ofChange sizesAnswersSpec)

/-- ITS FALSE NEIGHBOUR: 'it returns false'. Refute it at one input. -/
def sizesAnswersWrong : ChangeSpec := { name := "sizesAnswers", fn := fun _ => fun
  | [d] => { results := [.lit (.bool false)], args := [d] }
  | _ => none }
def SizesAnswersWrongFalsely : Prop := sizesAnswersRow.holds Tryd.pinned (OpenSpec.ofChange sizesAnswersWrong)

/-- 'wainscotlaw19.SizesFit': WHATEVER THE INPUT: true; the input reads as it did. -/
def sizesFitSpec : ChangeSpec := { name := "sizesFit", fn := fun _ => fun
  | [d1, d2] => { results := [.lit (.bool true)], args := [d1, d2] }
  | _ => none }
def sizesFitRow : OpenClaim := { program := "ytondaafkpjmobaadoor", sum := "28a1bf165f44dfcd875ea82d5e68b4567dde0ecda1299ef34620e6a72151d7cc", func := "wainscot/wainscotlaw19.SizesFit", spec := "sizesFit", unfollowed := true, recurses := true, named := ["wainscot/sizes.sizes"], apart := false, laid := [("wainscot/sizes.sizes", laid_wainscot_sizes_sizes)] }
def SizesFitSaid : Prop := sizesFitRow.holds Tryd.pinned (OpenSpec.ofChange sizesFitSpec)

/-- ITS FALSE NEIGHBOUR: 'it returns false'. Refute it at one input. -/
def sizesFitWrong : ChangeSpec := { name := "sizesFit", fn := fun _ => fun
  | [d1, d2] => { results := [.lit (.bool false)], args := [d1, d2] }
  | _ => none }
def SizesFitWrongFalsely : Prop := sizesFitRow.holds Tryd.pinned (OpenSpec.ofChange sizesFitWrong)

/-- 'wainscotlaw19.SizesSpecs': WHATEVER THE INPUT: true; the input reads as it did. -/
def sizesSpecsSpec : ChangeSpec := { name := "sizesSpecs", fn := fun _ => fun
  | [d1, d2] => { results := [.lit (.bool true)], args := [d1, d2] }
  | _ => none }
def sizesSpecsRow : OpenClaim := { program := "ytondaafkpjmobaadoor", sum := "28a1bf165f44dfcd875ea82d5e68b4567dde0ecda1299ef34620e6a72151d7cc", func := "wainscot/wainscotlaw19.SizesSpecs", spec := "sizesSpecs", unfollowed := true, recurses := true, named := ["wainscot/sizes.sizes"], apart := false, laid := [("wainscot/sizes.sizes", laid_wainscot_sizes_sizes)] }
def SizesSpecsSaid : Prop := sizesSpecsRow.holds Tryd.pinned (OpenSpec.ofChange sizesSpecsSpec)

/-- ITS FALSE NEIGHBOUR: 'it returns false'. Refute it at one input. -/
def sizesSpecsWrong : ChangeSpec := { name := "sizesSpecs", fn := fun _ => fun
  | [d1, d2] => { results := [.lit (.bool false)], args := [d1, d2] }
  | _ => none }
def SizesSpecsWrongFalsely : Prop := sizesSpecsRow.holds Tryd.pinned (OpenSpec.ofChange sizesSpecsWrong)

/-- 'wainscotlaw19.SizesKnown': WHATEVER THE INPUT: true; the input reads as it did. -/
def sizesKnownSpec : ChangeSpec := { name := "sizesKnown", fn := fun _ => fun
  | [] => { results := [.lit (.bool true)], args := [] }
  | _ => none }
def sizesKnownRow : OpenClaim := { program := "ytondaafkpjmobaadoor", sum := "28a1bf165f44dfcd875ea82d5e68b4567dde0ecda1299ef34620e6a72151d7cc", func := "wainscot/wainscotlaw19.SizesKnown", spec := "sizesKnown", unfollowed := true, recurses := true, named := ["wainscot/sizes.sizes"], apart := false, laid := [("wainscot/sizes.sizes", laid_wainscot_sizes_sizes)] }
def SizesKnownSaid : Prop := sizesKnownRow.holds Tryd.pinned (OpenSpec.ofChange sizesKnownSpec)

/-- ITS FALSE NEIGHBOUR: 'it returns false'. Refute it at one input. -/
def sizesKnownWrong : ChangeSpec := { name := "sizesKnown", fn := fun _ => fun
  | [] => { results := [.lit (.bool false)], args := [] }
  | _ => none }
def SizesKnownWrongFalsely : Prop := sizesKnownRow.holds Tryd.pinned (OpenSpec.ofChange sizesKnownWrong)

/- THE SECOND FORM. 'bulk': how many values and letters a reading holds, each counted each time it is reached (what is shared counts as often as it is met; a slice's spare places count too). A statement '..UptoSaid' is the law's where the arguments, and the package variables that the reading takes, are together of bulk at most 1048576: NARROWER than '..Said'. Prove '..Said' where nothing that the law and all that it calls make is longer than what came in: it says more and counts as full. Else prove '..UptoSaid'. A law counts once. -/
mutual
def uptoBulk {H : Type} : DataW H → Nat
  | .lit (.string bytes) => bytes.length + 1
  | .lit _ => 1
  | .nil => 1
  | .ptr d => uptoBulk d + 1
  | .slice elems spare => uptoBulkAll elems + uptoBulkAll spare + 1
  | .agg parts => uptoBulkAll parts + 1
  | .iface _ d => uptoBulk d + 1
  | .map entries => uptoBulkEntries entries + 1
  | .held _ => 1
def uptoBulkAll {H : Type} : List (DataW H) → Nat
  | [] => 0
  | d :: r => uptoBulk d + uptoBulkAll r
def uptoBulkEntries {H : Type} : List (Lit × DataW H) → Nat
  | [] => 0
  | x :: r => uptoBulkEntry x + uptoBulkEntries r
def uptoBulkEntry {H : Type} : Lit × DataW H → Nat
  | (.string bytes, d) => bytes.length + uptoBulk d + 1
  | (_, d) => uptoBulk d + 1
 end
def uptoSmall : (H : Type) → List (DataW H) → Bool := fun _ ds => decide (uptoBulkAll ds ≤ 1048576)
def OpenSpec.upto (s : _root_.Go.ChangeSpec) : _root_.Go.OpenSpec := { _root_.Go.OpenSpec.ofChange s with cond := some uptoSmall }

/-- 'wainscotlaw19.SizesAnswers', WHERE WHAT IT READS IS OF BULK AT MOST 1048576: true; the input reads as it did. -/
def sizesAnswersUptoRow : OpenClaim := { program := "ytondaafkpjmobaadoor", sum := "28a1bf165f44dfcd875ea82d5e68b4567dde0ecda1299ef34620e6a72151d7cc", func := "wainscot/wainscotlaw19.SizesAnswers", spec := "sizesAnswers", unfollowed := true, recurses := true, named := ["wainscot/sizes.sizes"], apart := false, laid := [("wainscot/sizes.sizes", laid_wainscot_sizes_sizes)], narrowed := true }
def SizesAnswersUptoSaid : Prop := sizesAnswersUptoRow.holds Tryd.pinned (OpenSpec.upto sizesAnswersSpec)

/-- 'wainscotlaw19.SizesFit', WHERE WHAT IT READS IS OF BULK AT MOST 1048576: true; the input reads as it did. -/
def sizesFitUptoRow : OpenClaim := { program := "ytondaafkpjmobaadoor", sum := "28a1bf165f44dfcd875ea82d5e68b4567dde0ecda1299ef34620e6a72151d7cc", func := "wainscot/wainscotlaw19.SizesFit", spec := "sizesFit", unfollowed := true, recurses := true, named := ["wainscot/sizes.sizes"], apart := false, laid := [("wainscot/sizes.sizes", laid_wainscot_sizes_sizes)], narrowed := true }
def SizesFitUptoSaid : Prop := sizesFitUptoRow.holds Tryd.pinned (OpenSpec.upto sizesFitSpec)

/-- 'wainscotlaw19.SizesSpecs', WHERE WHAT IT READS IS OF BULK AT MOST 1048576: true; the input reads as it did. -/
def sizesSpecsUptoRow : OpenClaim := { program := "ytondaafkpjmobaadoor", sum := "28a1bf165f44dfcd875ea82d5e68b4567dde0ecda1299ef34620e6a72151d7cc", func := "wainscot/wainscotlaw19.SizesSpecs", spec := "sizesSpecs", unfollowed := true, recurses := true, named := ["wainscot/sizes.sizes"], apart := false, laid := [("wainscot/sizes.sizes", laid_wainscot_sizes_sizes)], narrowed := true }
def SizesSpecsUptoSaid : Prop := sizesSpecsUptoRow.holds Tryd.pinned (OpenSpec.upto sizesSpecsSpec)

/-- 'wainscotlaw19.SizesKnown', WHERE WHAT IT READS IS OF BULK AT MOST 1048576: true; the input reads as it did. -/
def sizesKnownUptoRow : OpenClaim := { program := "ytondaafkpjmobaadoor", sum := "28a1bf165f44dfcd875ea82d5e68b4567dde0ecda1299ef34620e6a72151d7cc", func := "wainscot/wainscotlaw19.SizesKnown", spec := "sizesKnown", unfollowed := true, recurses := true, named := ["wainscot/sizes.sizes"], apart := false, laid := [("wainscot/sizes.sizes", laid_wainscot_sizes_sizes)], narrowed := true }
def SizesKnownUptoSaid : Prop := sizesKnownUptoRow.holds Tryd.pinned (OpenSpec.upto sizesKnownSpec)

end Rows
end Go.Proofs.YtondaafkpjmobaaDoor
