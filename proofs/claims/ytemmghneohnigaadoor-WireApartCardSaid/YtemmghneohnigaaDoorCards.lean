/-
  DERIVED. GIVEN WITH THE SEED: THE CARDS: each row of YtemmghneohnigaaDoorRows.lean that lists a variable, with what it lists TIED to the program's text (the seventh form; the later family's looks); each row that meets fmt, with fmt's text TOLD by the authors' own Lean function (tested against real Go, not proved from fmt's source: count such statements apart). THE CARD IS WHAT COUNTS. Prove the row's statement (the work); the ties are given (YtemmghneohnigaaDoorTie.lean); close each card by the builder's one call (the guide's Derived/Test/ToyasCard.lean, 'card_holds'). Laid BY PROGRAM, IN A SANDBOX (cutbox-door.mjs). By AI agents, Wed Nov 11 2026. No macro, syntax, notation, axiom, sorry.
-/
import Derived.Test.YtemmghneohnigaaDoorRows
import GoSem.ClaimSeven
namespace Go.Proofs.YtemmghneohnigaaDoor
namespace Rows

/-- THE TIED CARD OF 'augurlaw22.WireHeads'. -/
def wireHeadsCard : Claim7 := { stood := { row := wireHeadsRow, standIns := [], harness := (true, "60e1942cdbd37fba44fd84709e021d84d82d1a79d57a0c7dbb185c96783cf34c"), looks := true }, kinds := [], alts := [], laidByText := true, laidKinds := [.data, .data, .data, .sentinel, .sentinel], laidTests := true, laidLooks := .later }
def WireHeadsCardSaid : Prop := Claim7.holds Tryd.pinned (.plain (OpenSpec.ofChange wireHeadsSpec)) wireHeadsCard

/-- THE TIED CARD OF 'augurlaw22.WireUnquotes'. -/
def wireUnquotesCard : Claim7 := { stood := { row := wireUnquotesRow, standIns := [], harness := (true, "60e1942cdbd37fba44fd84709e021d84d82d1a79d57a0c7dbb185c96783cf34c"), looks := true }, kinds := [], alts := [], laidByText := true, laidKinds := [.data, .data, .data, .sentinel, .sentinel], laidTests := true, laidLooks := .later }
def WireUnquotesCardSaid : Prop := Claim7.holds Tryd.pinned (.plain (OpenSpec.ofChange wireUnquotesSpec)) wireUnquotesCard

/-- THE TIED CARD OF 'augurlaw22.WireRounds'. -/
def wireRoundsCard : Claim7 := { stood := { row := wireRoundsRow, standIns := [], harness := (true, "60e1942cdbd37fba44fd84709e021d84d82d1a79d57a0c7dbb185c96783cf34c"), looks := true }, kinds := [], alts := [], laidByText := true, laidKinds := [.data, .data, .data, .sentinel, .sentinel], laidTests := true, laidLooks := .later }
def WireRoundsCardSaid : Prop := Claim7.holds Tryd.pinned (.plain (OpenSpec.ofChange wireRoundsSpec)) wireRoundsCard

/-- THE TIED CARD OF 'augurlaw22.WireApart'. -/
def wireApartCard : Claim7 := { stood := { row := wireApartRow, standIns := [], harness := (true, "60e1942cdbd37fba44fd84709e021d84d82d1a79d57a0c7dbb185c96783cf34c"), looks := true }, kinds := [], alts := [], laidByText := true, laidKinds := [.data, .data, .data, .sentinel, .sentinel], laidTests := true, laidLooks := .later }
def WireApartCardSaid : Prop := Claim7.holds Tryd.pinned (.plain (OpenSpec.ofChange wireApartSpec)) wireApartCard

/-- THE TIED CARD OF 'augurlaw22.WirePrints'. -/
def wirePrintsCard : Claim7 := { stood := { row := wirePrintsRow, standIns := [], harness := (true, "60e1942cdbd37fba44fd84709e021d84d82d1a79d57a0c7dbb185c96783cf34c"), looks := true }, kinds := [], alts := [], laidByText := true, laidKinds := [.data, .data, .data, .sentinel, .sentinel], laidTests := true, laidLooks := .later }
def WirePrintsCardSaid : Prop := Claim7.holds Tryd.pinned (.plain (OpenSpec.ofChange wirePrintsSpec)) wirePrintsCard

/-- THE SECOND FORM's CARD OF 'augurlaw22.WireHeads'. -/
def wireHeadsUptoCard : Claim7 := { stood := { row := wireHeadsUptoRow, standIns := [], harness := (true, "60e1942cdbd37fba44fd84709e021d84d82d1a79d57a0c7dbb185c96783cf34c"), looks := true }, kinds := [], alts := [], laidByText := true, laidKinds := [.data, .data, .data, .sentinel, .sentinel], laidTests := true, laidLooks := .later }
def WireHeadsUptoCardSaid : Prop := Claim7.holds Tryd.pinned (.plain (OpenSpec.upto wireHeadsSpec)) wireHeadsUptoCard

/-- THE SECOND FORM's CARD OF 'augurlaw22.WireUnquotes'. -/
def wireUnquotesUptoCard : Claim7 := { stood := { row := wireUnquotesUptoRow, standIns := [], harness := (true, "60e1942cdbd37fba44fd84709e021d84d82d1a79d57a0c7dbb185c96783cf34c"), looks := true }, kinds := [], alts := [], laidByText := true, laidKinds := [.data, .data, .data, .sentinel, .sentinel], laidTests := true, laidLooks := .later }
def WireUnquotesUptoCardSaid : Prop := Claim7.holds Tryd.pinned (.plain (OpenSpec.upto wireUnquotesSpec)) wireUnquotesUptoCard

/-- THE SECOND FORM's CARD OF 'augurlaw22.WireRounds'. -/
def wireRoundsUptoCard : Claim7 := { stood := { row := wireRoundsUptoRow, standIns := [], harness := (true, "60e1942cdbd37fba44fd84709e021d84d82d1a79d57a0c7dbb185c96783cf34c"), looks := true }, kinds := [], alts := [], laidByText := true, laidKinds := [.data, .data, .data, .sentinel, .sentinel], laidTests := true, laidLooks := .later }
def WireRoundsUptoCardSaid : Prop := Claim7.holds Tryd.pinned (.plain (OpenSpec.upto wireRoundsSpec)) wireRoundsUptoCard

/-- THE SECOND FORM's CARD OF 'augurlaw22.WireApart'. -/
def wireApartUptoCard : Claim7 := { stood := { row := wireApartUptoRow, standIns := [], harness := (true, "60e1942cdbd37fba44fd84709e021d84d82d1a79d57a0c7dbb185c96783cf34c"), looks := true }, kinds := [], alts := [], laidByText := true, laidKinds := [.data, .data, .data, .sentinel, .sentinel], laidTests := true, laidLooks := .later }
def WireApartUptoCardSaid : Prop := Claim7.holds Tryd.pinned (.plain (OpenSpec.upto wireApartSpec)) wireApartUptoCard

/-- THE SECOND FORM's CARD OF 'augurlaw22.WirePrints'. -/
def wirePrintsUptoCard : Claim7 := { stood := { row := wirePrintsUptoRow, standIns := [], harness := (true, "60e1942cdbd37fba44fd84709e021d84d82d1a79d57a0c7dbb185c96783cf34c"), looks := true }, kinds := [], alts := [], laidByText := true, laidKinds := [.data, .data, .data, .sentinel, .sentinel], laidTests := true, laidLooks := .later }
def WirePrintsUptoCardSaid : Prop := Claim7.holds Tryd.pinned (.plain (OpenSpec.upto wirePrintsSpec)) wirePrintsUptoCard
end Rows
end Go.Proofs.YtemmghneohnigaaDoor
