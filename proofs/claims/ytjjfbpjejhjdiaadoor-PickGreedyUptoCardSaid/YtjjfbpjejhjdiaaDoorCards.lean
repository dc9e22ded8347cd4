/-
  DERIVED. GIVEN WITH THE SEED: THE CARDS: each row of YtjjfbpjejhjdiaaDoorRows.lean that lists a variable, with what it lists TIED to the program's text (the seventh form; the later family's looks); each row that meets fmt, with fmt's text TOLD by the authors' own Lean function (tested against real Go, not proved from fmt's source: count such statements apart). THE CARD IS WHAT COUNTS. Prove the row's statement (the work); the ties are given (YtjjfbpjejhjdiaaDoorTie.lean); close each card by the builder's one call (the guide's Derived/Test/ToyasCard.lean, 'card_holds'). Laid BY PROGRAM, IN A SANDBOX (cutbox-door.mjs). By AI agents, Wed Nov 11 2026. No macro, syntax, notation, axiom, sorry.
-/
import Derived.Test.YtjjfbpjejhjdiaaDoorRows
import GoSem.ClaimSeven
namespace Go.Proofs.YtjjfbpjejhjdiaaDoor
namespace Rows

/-- THE TIED CARD OF 'augurlaw10.PickDraws'. -/
def pickDrawsCard : Claim7 := { stood := { row := pickDrawsRow, standIns := [], harness := (true, "ad83f945ade8b037c7dd7f278512d9c8157ebe754faf607537fc40ad31c459b1"), looks := false }, kinds := [], alts := [], laidByText := true, laidKinds := [.data, .data], laidTests := true, laidLooks := .later }
def PickDrawsCardSaid : Prop := Claim7.holds Tryd.pinned (.plain (OpenSpec.ofChange pickDrawsSpec)) pickDrawsCard

/-- THE TIED CARD OF 'augurlaw10.PickGreedy'. -/
def pickGreedyCard : Claim7 := { stood := { row := pickGreedyRow, standIns := [], harness := (true, "ad83f945ade8b037c7dd7f278512d9c8157ebe754faf607537fc40ad31c459b1"), looks := false }, kinds := [], alts := [], laidByText := true, laidKinds := [.data, .data], laidTests := true, laidLooks := .later }
def PickGreedyCardSaid : Prop := Claim7.holds Tryd.pinned (.plain (OpenSpec.ofChange pickGreedySpec)) pickGreedyCard

/-- THE TIED CARD OF 'augurlaw10.PickMoves'. -/
def pickMovesCard : Claim7 := { stood := { row := pickMovesRow, standIns := [], harness := (true, "ad83f945ade8b037c7dd7f278512d9c8157ebe754faf607537fc40ad31c459b1"), looks := false }, kinds := [], alts := [], laidByText := true, laidKinds := [.data, .data], laidTests := true, laidLooks := .later }
def PickMovesCardSaid : Prop := Claim7.holds Tryd.pinned (.plain (OpenSpec.ofChange pickMovesSpec)) pickMovesCard

/-- THE TIED CARD OF 'augurlaw10.PickSeen'. -/
def pickSeenCard : Claim7 := { stood := { row := pickSeenRow, standIns := [], harness := (true, "ad83f945ade8b037c7dd7f278512d9c8157ebe754faf607537fc40ad31c459b1"), looks := false }, kinds := [], alts := [], laidByText := true, laidKinds := [.data, .data], laidTests := true, laidLooks := .later }
def PickSeenCardSaid : Prop := Claim7.holds Tryd.pinned (.plain (OpenSpec.ofChange pickSeenSpec)) pickSeenCard

/-- THE TIED CARD OF 'augurlaw10.PickNested'. -/
def pickNestedCard : Claim7 := { stood := { row := pickNestedRow, standIns := [], harness := (true, "ad83f945ade8b037c7dd7f278512d9c8157ebe754faf607537fc40ad31c459b1"), looks := false }, kinds := [], alts := [], laidByText := true, laidKinds := [.data, .data], laidTests := true, laidLooks := .later }
def PickNestedCardSaid : Prop := Claim7.holds Tryd.pinned (.plain (OpenSpec.ofChange pickNestedSpec)) pickNestedCard

/-- THE SECOND FORM's CARD OF 'augurlaw10.PickDraws'. -/
def pickDrawsUptoCard : Claim7 := { stood := { row := pickDrawsUptoRow, standIns := [], harness := (true, "ad83f945ade8b037c7dd7f278512d9c8157ebe754faf607537fc40ad31c459b1"), looks := false }, kinds := [], alts := [], laidByText := true, laidKinds := [.data, .data], laidTests := true, laidLooks := .later }
def PickDrawsUptoCardSaid : Prop := Claim7.holds Tryd.pinned (.plain (OpenSpec.upto pickDrawsSpec)) pickDrawsUptoCard

/-- THE SECOND FORM's CARD OF 'augurlaw10.PickGreedy'. -/
def pickGreedyUptoCard : Claim7 := { stood := { row := pickGreedyUptoRow, standIns := [], harness := (true, "ad83f945ade8b037c7dd7f278512d9c8157ebe754faf607537fc40ad31c459b1"), looks := false }, kinds := [], alts := [], laidByText := true, laidKinds := [.data, .data], laidTests := true, laidLooks := .later }
def PickGreedyUptoCardSaid : Prop := Claim7.holds Tryd.pinned (.plain (OpenSpec.upto pickGreedySpec)) pickGreedyUptoCard

/-- THE SECOND FORM's CARD OF 'augurlaw10.PickMoves'. -/
def pickMovesUptoCard : Claim7 := { stood := { row := pickMovesUptoRow, standIns := [], harness := (true, "ad83f945ade8b037c7dd7f278512d9c8157ebe754faf607537fc40ad31c459b1"), looks := false }, kinds := [], alts := [], laidByText := true, laidKinds := [.data, .data], laidTests := true, laidLooks := .later }
def PickMovesUptoCardSaid : Prop := Claim7.holds Tryd.pinned (.plain (OpenSpec.upto pickMovesSpec)) pickMovesUptoCard

/-- THE SECOND FORM's CARD OF 'augurlaw10.PickSeen'. -/
def pickSeenUptoCard : Claim7 := { stood := { row := pickSeenUptoRow, standIns := [], harness := (true, "ad83f945ade8b037c7dd7f278512d9c8157ebe754faf607537fc40ad31c459b1"), looks := false }, kinds := [], alts := [], laidByText := true, laidKinds := [.data, .data], laidTests := true, laidLooks := .later }
def PickSeenUptoCardSaid : Prop := Claim7.holds Tryd.pinned (.plain (OpenSpec.upto pickSeenSpec)) pickSeenUptoCard

/-- THE SECOND FORM's CARD OF 'augurlaw10.PickNested'. -/
def pickNestedUptoCard : Claim7 := { stood := { row := pickNestedUptoRow, standIns := [], harness := (true, "ad83f945ade8b037c7dd7f278512d9c8157ebe754faf607537fc40ad31c459b1"), looks := false }, kinds := [], alts := [], laidByText := true, laidKinds := [.data, .data], laidTests := true, laidLooks := .later }
def PickNestedUptoCardSaid : Prop := Claim7.holds Tryd.pinned (.plain (OpenSpec.upto pickNestedSpec)) pickNestedUptoCard
end Rows
end Go.Proofs.YtjjfbpjejhjdiaaDoor
