/-
  DERIVED. GIVEN WITH THE SEED: THE CARDS: each row of YtonhnlahpfkalaaDoorRows.lean that lists a variable, with what it lists TIED to the program's text (the seventh form; the later family's looks); each row that meets fmt, with fmt's text TOLD by the authors' own Lean function (tested against real Go, not proved from fmt's source: count such statements apart). THE CARD IS WHAT COUNTS. Prove the row's statement (the work); the ties are given (YtonhnlahpfkalaaDoorTie.lean); close each card by the builder's one call (the guide's Derived/Test/ToyasCard.lean, 'card_holds'). Laid BY PROGRAM, IN A SANDBOX (cutbox-door.mjs). By AI agents, Wed Nov 11 2026. No macro, syntax, notation, axiom, sorry.
-/
import Derived.Test.YtonhnlahpfkalaaDoorRows
import GoSem.ClaimSeven
namespace Go.Proofs.YtonhnlahpfkalaaDoor
namespace Rows

/-- THE TIED CARD OF 'augurlaw03.TensorSoftmax'. -/
def tensorSoftmaxCard : Claim7 := { stood := { row := tensorSoftmaxRow, standIns := [], harness := (true, "6157abd8cae5f69d63942cf9ee625148c312932b99459657a1f207ba4e8c514e"), looks := false }, kinds := [], alts := [], laidByText := true, laidKinds := [.data], laidTests := true, laidLooks := .later }
def TensorSoftmaxCardSaid : Prop := Claim7.holds Tryd.pinned (.plain (OpenSpec.ofChange tensorSoftmaxSpec)) tensorSoftmaxCard

/-- THE TIED CARD OF 'augurlaw03.TensorCalls'. -/
def tensorCallsCard : Claim7 := { stood := { row := tensorCallsRow, standIns := [], harness := (true, "6157abd8cae5f69d63942cf9ee625148c312932b99459657a1f207ba4e8c514e"), looks := false }, kinds := [], alts := [], laidByText := true, laidKinds := [.data], laidTests := true, laidLooks := .later }
def TensorCallsCardSaid : Prop := Claim7.holds Tryd.pinned (.plain (OpenSpec.ofChange tensorCallsSpec)) tensorCallsCard

/-- THE SECOND FORM's CARD OF 'augurlaw03.TensorSoftmax'. -/
def tensorSoftmaxUptoCard : Claim7 := { stood := { row := tensorSoftmaxUptoRow, standIns := [], harness := (true, "6157abd8cae5f69d63942cf9ee625148c312932b99459657a1f207ba4e8c514e"), looks := false }, kinds := [], alts := [], laidByText := true, laidKinds := [.data], laidTests := true, laidLooks := .later }
def TensorSoftmaxUptoCardSaid : Prop := Claim7.holds Tryd.pinned (.plain (OpenSpec.upto tensorSoftmaxSpec)) tensorSoftmaxUptoCard

/-- THE SECOND FORM's CARD OF 'augurlaw03.TensorCalls'. -/
def tensorCallsUptoCard : Claim7 := { stood := { row := tensorCallsUptoRow, standIns := [], harness := (true, "6157abd8cae5f69d63942cf9ee625148c312932b99459657a1f207ba4e8c514e"), looks := false }, kinds := [], alts := [], laidByText := true, laidKinds := [.data], laidTests := true, laidLooks := .later }
def TensorCallsUptoCardSaid : Prop := Claim7.holds Tryd.pinned (.plain (OpenSpec.upto tensorCallsSpec)) tensorCallsUptoCard
end Rows
end Go.Proofs.YtonhnlahpfkalaaDoor
