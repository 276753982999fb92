/-
  DERIVED. GIVEN WITH THE SEED: THE CARDS: each row of YtondaafkpjmobaaDoorRows.lean that lists a variable, with what it lists TIED to the program's text (the seventh form; the later family's looks); each row that meets fmt, with fmt's text TOLD by the authors' own Lean function (tested against real Go, not proved from fmt's source: count such statements apart). THE CARD IS WHAT COUNTS. Prove the row's statement (the work); the ties are given (YtondaafkpjmobaaDoorTie.lean); close each card by the builder's one call (the guide's Derived/Test/ToyasCard.lean, 'card_holds'). Laid BY PROGRAM, IN A SANDBOX (cutbox-door.mjs). By AI agents, Wed Nov 11 2026. No macro, syntax, notation, axiom, sorry.
-/
import Derived.Test.YtondaafkpjmobaaDoorRows
import GoSem.ClaimSeven
namespace Go.Proofs.YtondaafkpjmobaaDoor
namespace Rows

/-- THE TIED CARD OF 'wainscotlaw19.SizesAnswers'. -/
def sizesAnswersCard : Claim7 := { stood := { row := sizesAnswersRow, standIns := [], harness := (true, "b37b60dec60e714d7af250d8afb8c1fdd7586593498b2f8cf1c541828d249ad0"), looks := false }, kinds := [], alts := [], laidByText := true, laidKinds := [.data], laidTests := true, laidLooks := .later }
def SizesAnswersCardSaid : Prop := Claim7.holds Tryd.pinned (.plain (OpenSpec.ofChange sizesAnswersSpec)) sizesAnswersCard

/-- THE TIED CARD OF 'wainscotlaw19.SizesFit'. -/
def sizesFitCard : Claim7 := { stood := { row := sizesFitRow, standIns := [], harness := (true, "b37b60dec60e714d7af250d8afb8c1fdd7586593498b2f8cf1c541828d249ad0"), looks := false }, kinds := [], alts := [], laidByText := true, laidKinds := [.data], laidTests := true, laidLooks := .later }
def SizesFitCardSaid : Prop := Claim7.holds Tryd.pinned (.plain (OpenSpec.ofChange sizesFitSpec)) sizesFitCard

/-- THE TIED CARD OF 'wainscotlaw19.SizesSpecs'. -/
def sizesSpecsCard : Claim7 := { stood := { row := sizesSpecsRow, standIns := [], harness := (true, "b37b60dec60e714d7af250d8afb8c1fdd7586593498b2f8cf1c541828d249ad0"), looks := false }, kinds := [], alts := [], laidByText := true, laidKinds := [.data], laidTests := true, laidLooks := .later }
def SizesSpecsCardSaid : Prop := Claim7.holds Tryd.pinned (.plain (OpenSpec.ofChange sizesSpecsSpec)) sizesSpecsCard

/-- THE TIED CARD OF 'wainscotlaw19.SizesKnown'. -/
def sizesKnownCard : Claim7 := { stood := { row := sizesKnownRow, standIns := [], harness := (true, "b37b60dec60e714d7af250d8afb8c1fdd7586593498b2f8cf1c541828d249ad0"), looks := false }, kinds := [], alts := [], laidByText := true, laidKinds := [.data], laidTests := true, laidLooks := .later }
def SizesKnownCardSaid : Prop := Claim7.holds Tryd.pinned (.plain (OpenSpec.ofChange sizesKnownSpec)) sizesKnownCard

/-- THE SECOND FORM's CARD OF 'wainscotlaw19.SizesAnswers'. -/
def sizesAnswersUptoCard : Claim7 := { stood := { row := sizesAnswersUptoRow, standIns := [], harness := (true, "b37b60dec60e714d7af250d8afb8c1fdd7586593498b2f8cf1c541828d249ad0"), looks := false }, kinds := [], alts := [], laidByText := true, laidKinds := [.data], laidTests := true, laidLooks := .later }
def SizesAnswersUptoCardSaid : Prop := Claim7.holds Tryd.pinned (.plain (OpenSpec.upto sizesAnswersSpec)) sizesAnswersUptoCard

/-- THE SECOND FORM's CARD OF 'wainscotlaw19.SizesFit'. -/
def sizesFitUptoCard : Claim7 := { stood := { row := sizesFitUptoRow, standIns := [], harness := (true, "b37b60dec60e714d7af250d8afb8c1fdd7586593498b2f8cf1c541828d249ad0"), looks := false }, kinds := [], alts := [], laidByText := true, laidKinds := [.data], laidTests := true, laidLooks := .later }
def SizesFitUptoCardSaid : Prop := Claim7.holds Tryd.pinned (.plain (OpenSpec.upto sizesFitSpec)) sizesFitUptoCard

/-- THE SECOND FORM's CARD OF 'wainscotlaw19.SizesSpecs'. -/
def sizesSpecsUptoCard : Claim7 := { stood := { row := sizesSpecsUptoRow, standIns := [], harness := (true, "b37b60dec60e714d7af250d8afb8c1fdd7586593498b2f8cf1c541828d249ad0"), looks := false }, kinds := [], alts := [], laidByText := true, laidKinds := [.data], laidTests := true, laidLooks := .later }
def SizesSpecsUptoCardSaid : Prop := Claim7.holds Tryd.pinned (.plain (OpenSpec.upto sizesSpecsSpec)) sizesSpecsUptoCard

/-- THE SECOND FORM's CARD OF 'wainscotlaw19.SizesKnown'. -/
def sizesKnownUptoCard : Claim7 := { stood := { row := sizesKnownUptoRow, standIns := [], harness := (true, "b37b60dec60e714d7af250d8afb8c1fdd7586593498b2f8cf1c541828d249ad0"), looks := false }, kinds := [], alts := [], laidByText := true, laidKinds := [.data], laidTests := true, laidLooks := .later }
def SizesKnownUptoCardSaid : Prop := Claim7.holds Tryd.pinned (.plain (OpenSpec.upto sizesKnownSpec)) sizesKnownUptoCard
end Rows
end Go.Proofs.YtondaafkpjmobaaDoor
