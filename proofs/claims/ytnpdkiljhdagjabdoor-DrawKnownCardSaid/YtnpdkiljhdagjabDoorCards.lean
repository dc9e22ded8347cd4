/-
  DERIVED. GIVEN WITH THE SEED: THE CARDS: each row of YtnpdkiljhdagjabDoorRows.lean that lists a variable, with what it lists TIED to the program's text (the seventh form; the later family's looks); each row that meets fmt, with fmt's text TOLD by the authors' own Lean function (tested against real Go, not proved from fmt's source: count such statements apart). THE CARD IS WHAT COUNTS. Prove the row's statement (the work); the ties are given (YtnpdkiljhdagjabDoorTie.lean); close each card by the builder's one call (the guide's Derived/Test/ToyasCard.lean, 'card_holds'). Laid BY PROGRAM, IN A SANDBOX (cutbox-door.mjs). By AI agents, Wed Nov 11 2026. No macro, syntax, notation, axiom, sorry.
-/
import Derived.Test.YtnpdkiljhdagjabDoorRows
import GoSem.ClaimSeven
namespace Go.Proofs.YtnpdkiljhdagjabDoor
namespace Rows

/-- THE TIED CARD OF 'augurlaw02.DrawKnown'. -/
def drawKnownCard : Claim7 := { stood := { row := drawKnownRow, standIns := [], harness := (true, "b125aee6d36679bb9baf5d47b16b39e66895e12010ae97e3e016f94d418d9d88"), looks := false }, kinds := [], alts := [], laidByText := true, laidKinds := [.data], laidTests := true, laidLooks := .later }
def DrawKnownCardSaid : Prop := Claim7.holds Tryd.pinned (.plain (OpenSpec.ofChange drawKnownSpec)) drawKnownCard

/-- THE SECOND FORM's CARD OF 'augurlaw02.DrawKnown'. -/
def drawKnownUptoCard : Claim7 := { stood := { row := drawKnownUptoRow, standIns := [], harness := (true, "b125aee6d36679bb9baf5d47b16b39e66895e12010ae97e3e016f94d418d9d88"), looks := false }, kinds := [], alts := [], laidByText := true, laidKinds := [.data], laidTests := true, laidLooks := .later }
def DrawKnownUptoCardSaid : Prop := Claim7.holds Tryd.pinned (.plain (OpenSpec.upto drawKnownSpec)) drawKnownUptoCard
end Rows
end Go.Proofs.YtnpdkiljhdagjabDoor
