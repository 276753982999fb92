/-
  DERIVED. GIVEN WITH THE SEED: THE CARDS: each row of YtekajahffnhboaaDoorRows.lean that lists a variable, with what it lists TIED to the program's text (the seventh form; the later family's looks); each row that meets fmt, with fmt's text TOLD by the authors' own Lean function (tested against real Go, not proved from fmt's source: count such statements apart). THE CARD IS WHAT COUNTS. Prove the row's statement (the work); the ties are given (YtekajahffnhboaaDoorTie.lean); close each card by the builder's one call (the guide's Derived/Test/ToyasCard.lean, 'card_holds'). Laid BY PROGRAM, IN A SANDBOX (cutbox-door.mjs). By AI agents, Wed Nov 11 2026. No macro, syntax, notation, axiom, sorry.
-/
import Derived.Test.YtekajahffnhboaaDoorRows
import GoSem.ClaimSeven
namespace Go.Proofs.YtekajahffnhboaaDoor
namespace Rows

/-- THE TIED CARD OF 'wainscotlaw01.SpellNames'. -/
def spellNamesCard : Claim7 := { stood := { row := spellNamesRow, standIns := [], harness := (true, "87df44a89e99d9104b728c0b571addae012d41105d74b73d7bbcf73881884d94"), looks := false }, kinds := [], alts := [], laidByText := true, laidKinds := [.data], laidTests := true, laidLooks := .later }
def SpellNamesCardSaid : Prop := Claim7.holds Tryd.pinned (.plain (OpenSpec.ofChange spellNamesSpec)) spellNamesCard

/-- THE TIED CARD OF 'wainscotlaw01.SpellPairs'. -/
def spellPairsCard : Claim7 := { stood := { row := spellPairsRow, standIns := [], harness := (true, "87df44a89e99d9104b728c0b571addae012d41105d74b73d7bbcf73881884d94"), looks := false }, kinds := [], alts := [], laidByText := true, laidKinds := [.data], laidTests := true, laidLooks := .later }
def SpellPairsCardSaid : Prop := Claim7.holds Tryd.pinned (.plain (OpenSpec.ofChange spellPairsSpec)) spellPairsCard

/-- THE TIED CARD OF 'wainscotlaw01.SpellCuts'. -/
def spellCutsCard : Claim7 := { stood := { row := spellCutsRow, standIns := [], harness := (true, "87df44a89e99d9104b728c0b571addae012d41105d74b73d7bbcf73881884d94"), looks := false }, kinds := [], alts := [], laidByText := true, laidKinds := [.data], laidTests := true, laidLooks := .later }
def SpellCutsCardSaid : Prop := Claim7.holds Tryd.pinned (.plain (OpenSpec.ofChange spellCutsSpec)) spellCutsCard

/-- THE TIED CARD OF 'wainscotlaw01.SpellFold'. -/
def spellFoldCard : Claim7 := { stood := { row := spellFoldRow, standIns := [], harness := (true, "87df44a89e99d9104b728c0b571addae012d41105d74b73d7bbcf73881884d94"), looks := false }, kinds := [], alts := [], laidByText := true, laidKinds := [.data], laidTests := true, laidLooks := .later }
def SpellFoldCardSaid : Prop := Claim7.holds Tryd.pinned (.plain (OpenSpec.ofChange spellFoldSpec)) spellFoldCard

/-- THE TIED CARD OF 'wainscotlaw01.SpellOrder'. -/
def spellOrderCard : Claim7 := { stood := { row := spellOrderRow, standIns := [], harness := (true, "87df44a89e99d9104b728c0b571addae012d41105d74b73d7bbcf73881884d94"), looks := false }, kinds := [], alts := [], laidByText := true, laidKinds := [.data], laidTests := true, laidLooks := .later }
def SpellOrderCardSaid : Prop := Claim7.holds Tryd.pinned (.plain (OpenSpec.ofChange spellOrderSpec)) spellOrderCard

/-- THE TIED CARD OF 'wainscotlaw01.SpellCut'. -/
def spellCutCard : Claim7 := { stood := { row := spellCutRow, standIns := [], harness := (true, "87df44a89e99d9104b728c0b571addae012d41105d74b73d7bbcf73881884d94"), looks := false }, kinds := [], alts := [], laidByText := true, laidKinds := [.data], laidTests := true, laidLooks := .later }
def SpellCutCardSaid : Prop := Claim7.holds Tryd.pinned (.plain (OpenSpec.ofChange spellCutSpec)) spellCutCard

/-- THE SECOND FORM's CARD OF 'wainscotlaw01.SpellNames'. -/
def spellNamesUptoCard : Claim7 := { stood := { row := spellNamesUptoRow, standIns := [], harness := (true, "87df44a89e99d9104b728c0b571addae012d41105d74b73d7bbcf73881884d94"), looks := false }, kinds := [], alts := [], laidByText := true, laidKinds := [.data], laidTests := true, laidLooks := .later }
def SpellNamesUptoCardSaid : Prop := Claim7.holds Tryd.pinned (.plain (OpenSpec.upto spellNamesSpec)) spellNamesUptoCard

/-- THE SECOND FORM's CARD OF 'wainscotlaw01.SpellPairs'. -/
def spellPairsUptoCard : Claim7 := { stood := { row := spellPairsUptoRow, standIns := [], harness := (true, "87df44a89e99d9104b728c0b571addae012d41105d74b73d7bbcf73881884d94"), looks := false }, kinds := [], alts := [], laidByText := true, laidKinds := [.data], laidTests := true, laidLooks := .later }
def SpellPairsUptoCardSaid : Prop := Claim7.holds Tryd.pinned (.plain (OpenSpec.upto spellPairsSpec)) spellPairsUptoCard

/-- THE SECOND FORM's CARD OF 'wainscotlaw01.SpellCuts'. -/
def spellCutsUptoCard : Claim7 := { stood := { row := spellCutsUptoRow, standIns := [], harness := (true, "87df44a89e99d9104b728c0b571addae012d41105d74b73d7bbcf73881884d94"), looks := false }, kinds := [], alts := [], laidByText := true, laidKinds := [.data], laidTests := true, laidLooks := .later }
def SpellCutsUptoCardSaid : Prop := Claim7.holds Tryd.pinned (.plain (OpenSpec.upto spellCutsSpec)) spellCutsUptoCard

/-- THE SECOND FORM's CARD OF 'wainscotlaw01.SpellFold'. -/
def spellFoldUptoCard : Claim7 := { stood := { row := spellFoldUptoRow, standIns := [], harness := (true, "87df44a89e99d9104b728c0b571addae012d41105d74b73d7bbcf73881884d94"), looks := false }, kinds := [], alts := [], laidByText := true, laidKinds := [.data], laidTests := true, laidLooks := .later }
def SpellFoldUptoCardSaid : Prop := Claim7.holds Tryd.pinned (.plain (OpenSpec.upto spellFoldSpec)) spellFoldUptoCard

/-- THE SECOND FORM's CARD OF 'wainscotlaw01.SpellOrder'. -/
def spellOrderUptoCard : Claim7 := { stood := { row := spellOrderUptoRow, standIns := [], harness := (true, "87df44a89e99d9104b728c0b571addae012d41105d74b73d7bbcf73881884d94"), looks := false }, kinds := [], alts := [], laidByText := true, laidKinds := [.data], laidTests := true, laidLooks := .later }
def SpellOrderUptoCardSaid : Prop := Claim7.holds Tryd.pinned (.plain (OpenSpec.upto spellOrderSpec)) spellOrderUptoCard

/-- THE SECOND FORM's CARD OF 'wainscotlaw01.SpellCut'. -/
def spellCutUptoCard : Claim7 := { stood := { row := spellCutUptoRow, standIns := [], harness := (true, "87df44a89e99d9104b728c0b571addae012d41105d74b73d7bbcf73881884d94"), looks := false }, kinds := [], alts := [], laidByText := true, laidKinds := [.data], laidTests := true, laidLooks := .later }
def SpellCutUptoCardSaid : Prop := Claim7.holds Tryd.pinned (.plain (OpenSpec.upto spellCutSpec)) spellCutUptoCard
end Rows
end Go.Proofs.YtekajahffnhboaaDoor
