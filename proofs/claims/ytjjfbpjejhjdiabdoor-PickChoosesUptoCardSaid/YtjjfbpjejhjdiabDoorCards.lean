/-
  DERIVED. GIVEN WITH THE SEED: THE CARDS: each row of YtjjfbpjejhjdiabDoorRows.lean that lists a variable, with what it lists TIED to the program's text (the seventh form; the later family's looks); each row that meets fmt, with fmt's text TOLD by the authors' own Lean function (tested against real Go, not proved from fmt's source: count such statements apart). THE CARD IS WHAT COUNTS. Prove the row's statement (the work); the ties are given (YtjjfbpjejhjdiabDoorTie.lean); close each card by the builder's one call (the guide's Derived/Test/ToyasCard.lean, 'card_holds'). Laid BY PROGRAM, IN A SANDBOX (cutbox-door.mjs). By AI agents, Wed Nov 11 2026. No macro, syntax, notation, axiom, sorry.
-/
import Derived.Test.YtjjfbpjejhjdiabDoorRows
import GoSem.ClaimSeven
namespace Go.Proofs.YtjjfbpjejhjdiabDoor
namespace Rows

/-- THE TIED CARD OF 'augurlaw10.PickSound'. -/
def pickSoundCard : Claim7 := { stood := { row := pickSoundRow, standIns := [], harness := (true, "bab3744a52e9246dd97d729917c0f7340a2639a3dea33d01d655e0fa66da0db4"), looks := false }, kinds := [], alts := [], laidByText := true, laidKinds := [.data, .data], laidTests := true, laidLooks := .later }
def PickSoundCardSaid : Prop := Claim7.holds Tryd.pinned (.plain (OpenSpec.ofChange pickSoundSpec)) pickSoundCard

/-- THE TIED CARD OF 'augurlaw10.PickLists'. -/
def pickListsCard : Claim7 := { stood := { row := pickListsRow, standIns := [], harness := (true, "bab3744a52e9246dd97d729917c0f7340a2639a3dea33d01d655e0fa66da0db4"), looks := false }, kinds := [], alts := [], laidByText := true, laidKinds := [.data, .data], laidTests := true, laidLooks := .later }
def PickListsCardSaid : Prop := Claim7.holds Tryd.pinned (.plain (OpenSpec.ofChange pickListsSpec)) pickListsCard

/-- THE TIED CARD OF 'augurlaw10.PickChances'. -/
def pickChancesCard : Claim7 := { stood := { row := pickChancesRow, standIns := [], harness := (true, "bab3744a52e9246dd97d729917c0f7340a2639a3dea33d01d655e0fa66da0db4"), looks := false }, kinds := [], alts := [], laidByText := true, laidKinds := [.data, .data], laidTests := true, laidLooks := .later }
def PickChancesCardSaid : Prop := Claim7.holds Tryd.pinned (.plain (OpenSpec.ofChange pickChancesSpec)) pickChancesCard

/-- THE TIED CARD OF 'augurlaw10.PickChooses'. -/
def pickChoosesCard : Claim7 := { stood := { row := pickChoosesRow, standIns := [], harness := (true, "bab3744a52e9246dd97d729917c0f7340a2639a3dea33d01d655e0fa66da0db4"), looks := false }, kinds := [], alts := [], laidByText := true, laidKinds := [.data, .data], laidTests := true, laidLooks := .later }
def PickChoosesCardSaid : Prop := Claim7.holds Tryd.pinned (.plain (OpenSpec.ofChange pickChoosesSpec)) pickChoosesCard

/-- THE SECOND FORM's CARD OF 'augurlaw10.PickSound'. -/
def pickSoundUptoCard : Claim7 := { stood := { row := pickSoundUptoRow, standIns := [], harness := (true, "bab3744a52e9246dd97d729917c0f7340a2639a3dea33d01d655e0fa66da0db4"), looks := false }, kinds := [], alts := [], laidByText := true, laidKinds := [.data, .data], laidTests := true, laidLooks := .later }
def PickSoundUptoCardSaid : Prop := Claim7.holds Tryd.pinned (.plain (OpenSpec.upto pickSoundSpec)) pickSoundUptoCard

/-- THE SECOND FORM's CARD OF 'augurlaw10.PickLists'. -/
def pickListsUptoCard : Claim7 := { stood := { row := pickListsUptoRow, standIns := [], harness := (true, "bab3744a52e9246dd97d729917c0f7340a2639a3dea33d01d655e0fa66da0db4"), looks := false }, kinds := [], alts := [], laidByText := true, laidKinds := [.data, .data], laidTests := true, laidLooks := .later }
def PickListsUptoCardSaid : Prop := Claim7.holds Tryd.pinned (.plain (OpenSpec.upto pickListsSpec)) pickListsUptoCard

/-- THE SECOND FORM's CARD OF 'augurlaw10.PickChances'. -/
def pickChancesUptoCard : Claim7 := { stood := { row := pickChancesUptoRow, standIns := [], harness := (true, "bab3744a52e9246dd97d729917c0f7340a2639a3dea33d01d655e0fa66da0db4"), looks := false }, kinds := [], alts := [], laidByText := true, laidKinds := [.data, .data], laidTests := true, laidLooks := .later }
def PickChancesUptoCardSaid : Prop := Claim7.holds Tryd.pinned (.plain (OpenSpec.upto pickChancesSpec)) pickChancesUptoCard

/-- THE SECOND FORM's CARD OF 'augurlaw10.PickChooses'. -/
def pickChoosesUptoCard : Claim7 := { stood := { row := pickChoosesUptoRow, standIns := [], harness := (true, "bab3744a52e9246dd97d729917c0f7340a2639a3dea33d01d655e0fa66da0db4"), looks := false }, kinds := [], alts := [], laidByText := true, laidKinds := [.data, .data], laidTests := true, laidLooks := .later }
def PickChoosesUptoCardSaid : Prop := Claim7.holds Tryd.pinned (.plain (OpenSpec.upto pickChoosesSpec)) pickChoosesUptoCard
end Rows
end Go.Proofs.YtjjfbpjejhjdiabDoor
