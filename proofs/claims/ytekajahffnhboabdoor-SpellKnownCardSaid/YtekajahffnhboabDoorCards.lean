/-
  DERIVED. GIVEN WITH THE SEED: THE CARDS: each row of YtekajahffnhboabDoorRows.lean that lists a variable, with what it lists TIED to the program's text (the seventh form; the later family's looks); each row that meets fmt, with fmt's text TOLD by the authors' own Lean function (tested against real Go, not proved from fmt's source: count such statements apart). THE CARD IS WHAT COUNTS. Prove the row's statement (the work); the ties are given (YtekajahffnhboabDoorTie.lean); close each card by the builder's one call (the guide's Derived/Test/ToyasCard.lean, 'card_holds'). Laid BY PROGRAM, IN A SANDBOX (cutbox-door.mjs). By AI agents, Wed Nov 11 2026. No macro, syntax, notation, axiom, sorry.
-/
import Derived.Test.YtekajahffnhboabDoorRows
import GoSem.ClaimSeven
namespace Go.Proofs.YtekajahffnhboabDoor
namespace Rows

/-- THE TIED CARD OF 'wainscotlaw01.SpellKnown'. -/
def spellKnownCard : Claim7 := { stood := { row := spellKnownRow, standIns := [], harness := (true, "0395522b75e200e6c92ce64aace747e46296ac02266dfbcdb5c84f2b2b19f4b6"), looks := false }, kinds := [], alts := [], laidByText := true, laidKinds := [.data], laidTests := true, laidLooks := .later }
def SpellKnownCardSaid : Prop := Claim7.holds Tryd.pinned (.plain (OpenSpec.ofChange spellKnownSpec)) spellKnownCard

/-- THE SECOND FORM's CARD OF 'wainscotlaw01.SpellKnown'. -/
def spellKnownUptoCard : Claim7 := { stood := { row := spellKnownUptoRow, standIns := [], harness := (true, "0395522b75e200e6c92ce64aace747e46296ac02266dfbcdb5c84f2b2b19f4b6"), looks := false }, kinds := [], alts := [], laidByText := true, laidKinds := [.data], laidTests := true, laidLooks := .later }
def SpellKnownUptoCardSaid : Prop := Claim7.holds Tryd.pinned (.plain (OpenSpec.upto spellKnownSpec)) spellKnownUptoCard
end Rows
end Go.Proofs.YtekajahffnhboabDoor
