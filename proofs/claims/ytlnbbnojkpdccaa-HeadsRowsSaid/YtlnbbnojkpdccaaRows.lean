/-
  No cell of these rows narrows 'for every input' (looked for: loops, veiled, ifaces, maps, wideKeys, modest, calm, conditions, laid).
  DERIVED. THE GIVEN ROWS OF THIS SEAT. 6 by the template 'for every input the law returns true; each argument reads behind the call as it read before'; 0 by the template 'total and deterministic' (their statements: YtlnbbnojkpdccaaTotals.lean).
  GIVEN WITH THE SEED: the statements are not yours to turn. If you find one false, say at which input.
  Laid BY PROGRAM, IN A SANDBOX (cutbox-rows.mjs): the forced cells as the released guide's own fill.sh prints them over the translation 15cd0b08a9a97147… (all of the seat's roots in one cut). By AI agents, Wed Nov 11 2026. No macro, syntax, notation, axiom, sorry.
-/
import Derived.Test.YtlnbbnojkpdccaaChecked
import GoSem.Claim
import GoSem.ClaimJoined
import GoSem.ClaimMapViews
import Derived.JoinedTies
import Derived.KernelRfl
namespace Go.Proofs.Ytlnbbnojkpdccaa
/- THE CELL 'sum', in the pinned program and in every row, IS THE sha256 OF THE DUMP (.gsa) THAT YtlnbbnojkpdccaaProg.lean LOADS. Nothing in Lean hashes anything: it is a label: what it is worth is what the hold of that sum in a sandbox is worth. -/
noncomputable def Try.pinned : Pinned := { name := "ytlnbbnojkpdccaa", sum := "15cd0b08a9a9714735d9f7db63fb970ff7de15b564beb946b0b65235645fab2d", checked := Try.checked }
namespace Rows
def none {H : Type} : Left H := { results := [], args := [] }

/-- 'augurlaw09.HeadsTops': WHATEVER THE INPUT: true; the input reads as it did. -/
def headsTopsSpec : ChangeSpec := { name := "headsTops", fn := fun _ => fun
  | [d] => { results := [.lit (.bool true)], args := [d] }
  | _ => none }
def headsTopsRow : OpenClaim := { program := "ytlnbbnojkpdccaa", sum := "15cd0b08a9a9714735d9f7db63fb970ff7de15b564beb946b0b65235645fab2d", func := "augur/augurlaw09.HeadsTops", spec := "headsTops", unfollowed := true, recurses := true, apart := false }
def HeadsTopsSaid : Prop := headsTopsRow.holds Try.pinned (OpenSpec.ofChange headsTopsSpec)

/-- ITS FALSE NEIGHBOUR: 'it returns false'. Refute it at one input. -/
def headsTopsWrong : ChangeSpec := { name := "headsTops", fn := fun _ => fun
  | [d] => { results := [.lit (.bool false)], args := [d] }
  | _ => none }
def HeadsTopsWrongFalsely : Prop := headsTopsRow.holds Try.pinned (OpenSpec.ofChange headsTopsWrong)

/-- 'augurlaw09.HeadsOrder': WHATEVER THE INPUT: true; the input reads as it did. -/
def headsOrderSpec : ChangeSpec := { name := "headsOrder", fn := fun _ => fun
  | [d1, d2, d3] => { results := [.lit (.bool true)], args := [d1, d2, d3] }
  | _ => none }
def headsOrderRow : OpenClaim := { program := "ytlnbbnojkpdccaa", sum := "15cd0b08a9a9714735d9f7db63fb970ff7de15b564beb946b0b65235645fab2d", func := "augur/augurlaw09.HeadsOrder", spec := "headsOrder", unfollowed := true, recurses := true, apart := false }
def HeadsOrderSaid : Prop := headsOrderRow.holds Try.pinned (OpenSpec.ofChange headsOrderSpec)

/-- ITS FALSE NEIGHBOUR: 'it returns false'. Refute it at one input. -/
def headsOrderWrong : ChangeSpec := { name := "headsOrder", fn := fun _ => fun
  | [d1, d2, d3] => { results := [.lit (.bool false)], args := [d1, d2, d3] }
  | _ => none }
def HeadsOrderWrongFalsely : Prop := headsOrderRow.holds Try.pinned (OpenSpec.ofChange headsOrderWrong)

/-- 'augurlaw09.HeadsLater': WHATEVER THE INPUT: true; the input reads as it did. -/
def headsLaterSpec : ChangeSpec := { name := "headsLater", fn := fun _ => fun
  | [d1, d2, d3] => { results := [.lit (.bool true)], args := [d1, d2, d3] }
  | _ => none }
def headsLaterRow : OpenClaim := { program := "ytlnbbnojkpdccaa", sum := "15cd0b08a9a9714735d9f7db63fb970ff7de15b564beb946b0b65235645fab2d", func := "augur/augurlaw09.HeadsLater", spec := "headsLater", unfollowed := true, recurses := true, apart := false }
def HeadsLaterSaid : Prop := headsLaterRow.holds Try.pinned (OpenSpec.ofChange headsLaterSpec)

/-- ITS FALSE NEIGHBOUR: 'it returns false'. Refute it at one input. -/
def headsLaterWrong : ChangeSpec := { name := "headsLater", fn := fun _ => fun
  | [d1, d2, d3] => { results := [.lit (.bool false)], args := [d1, d2, d3] }
  | _ => none }
def HeadsLaterWrongFalsely : Prop := headsLaterRow.holds Try.pinned (OpenSpec.ofChange headsLaterWrong)

/-- 'augurlaw09.HeadsRows': WHATEVER THE INPUT: true; the input reads as it did. -/
def headsRowsSpec : ChangeSpec := { name := "headsRows", fn := fun _ => fun
  | [d1, d2, d3, d4] => { results := [.lit (.bool true)], args := [d1, d2, d3, d4] }
  | _ => none }
def headsRowsRow : OpenClaim := { program := "ytlnbbnojkpdccaa", sum := "15cd0b08a9a9714735d9f7db63fb970ff7de15b564beb946b0b65235645fab2d", func := "augur/augurlaw09.HeadsRows", spec := "headsRows", unfollowed := true, recurses := true, apart := false }
def HeadsRowsSaid : Prop := headsRowsRow.holds Try.pinned (OpenSpec.ofChange headsRowsSpec)

/-- ITS FALSE NEIGHBOUR: 'it returns false'. Refute it at one input. -/
def headsRowsWrong : ChangeSpec := { name := "headsRows", fn := fun _ => fun
  | [d1, d2, d3, d4] => { results := [.lit (.bool false)], args := [d1, d2, d3, d4] }
  | _ => none }
def HeadsRowsWrongFalsely : Prop := headsRowsRow.holds Try.pinned (OpenSpec.ofChange headsRowsWrong)

/-- 'augurlaw09.HeadsRefuses': WHATEVER THE INPUT: true; the input reads as it did. -/
def headsRefusesSpec : ChangeSpec := { name := "headsRefuses", fn := fun _ => fun
  | [d1, d2] => { results := [.lit (.bool true)], args := [d1, d2] }
  | _ => none }
def headsRefusesRow : OpenClaim := { program := "ytlnbbnojkpdccaa", sum := "15cd0b08a9a9714735d9f7db63fb970ff7de15b564beb946b0b65235645fab2d", func := "augur/augurlaw09.HeadsRefuses", spec := "headsRefuses", unfollowed := true, recurses := true, apart := false }
def HeadsRefusesSaid : Prop := headsRefusesRow.holds Try.pinned (OpenSpec.ofChange headsRefusesSpec)

/-- ITS FALSE NEIGHBOUR: 'it returns false'. Refute it at one input. -/
def headsRefusesWrong : ChangeSpec := { name := "headsRefuses", fn := fun _ => fun
  | [d1, d2] => { results := [.lit (.bool false)], args := [d1, d2] }
  | _ => none }
def HeadsRefusesWrongFalsely : Prop := headsRefusesRow.holds Try.pinned (OpenSpec.ofChange headsRefusesWrong)

/-- 'augurlaw09.HeadsGuesses': WHATEVER THE INPUT: true; the input reads as it did. -/
def headsGuessesSpec : ChangeSpec := { name := "headsGuesses", fn := fun _ => fun
  | [d1, d2] => { results := [.lit (.bool true)], args := [d1, d2] }
  | _ => none }
def headsGuessesRow : OpenClaim := { program := "ytlnbbnojkpdccaa", sum := "15cd0b08a9a9714735d9f7db63fb970ff7de15b564beb946b0b65235645fab2d", func := "augur/augurlaw09.HeadsGuesses", spec := "headsGuesses", unfollowed := true, recurses := true, apart := false }
def HeadsGuessesSaid : Prop := headsGuessesRow.holds Try.pinned (OpenSpec.ofChange headsGuessesSpec)

/-- ITS FALSE NEIGHBOUR: 'it returns false'. Refute it at one input. -/
def headsGuessesWrong : ChangeSpec := { name := "headsGuesses", fn := fun _ => fun
  | [d1, d2] => { results := [.lit (.bool false)], args := [d1, d2] }
  | _ => none }
def HeadsGuessesWrongFalsely : Prop := headsGuessesRow.holds Try.pinned (OpenSpec.ofChange headsGuessesWrong)

/- THE SECOND FORM. 'bulk': how many values and letters a reading holds, each counted each time it is reached (what is shared counts as often as it is met; a slice's spare places count too). A statement '..UptoSaid' is the law's where the arguments, and the package variables that the reading takes, are together of bulk at most 1048576: NARROWER than '..Said'. Prove '..Said' where nothing that the law and all that it calls make is longer than what came in: it says more and counts as full. Else prove '..UptoSaid'. A law counts once. -/
mutual
def uptoBulk {H : Type} : DataW H → Nat
  | .lit (.string bytes) => bytes.length + 1
  | .lit _ => 1
  | .nil => 1
  | .ptr d => uptoBulk d + 1
  | .slice elems spare => uptoBulkAll elems + uptoBulkAll spare + 1
  | .agg parts => uptoBulkAll parts + 1
  | .iface _ d => uptoBulk d + 1
  | .map entries => uptoBulkEntries entries + 1
  | .held _ => 1
def uptoBulkAll {H : Type} : List (DataW H) → Nat
  | [] => 0
  | d :: r => uptoBulk d + uptoBulkAll r
def uptoBulkEntries {H : Type} : List (Lit × DataW H) → Nat
  | [] => 0
  | x :: r => uptoBulkEntry x + uptoBulkEntries r
def uptoBulkEntry {H : Type} : Lit × DataW H → Nat
  | (.string bytes, d) => bytes.length + uptoBulk d + 1
  | (_, d) => uptoBulk d + 1
 end
def uptoSmall : (H : Type) → List (DataW H) → Bool := fun _ ds => decide (uptoBulkAll ds ≤ 1048576)
def OpenSpec.upto (s : _root_.Go.ChangeSpec) : _root_.Go.OpenSpec := { _root_.Go.OpenSpec.ofChange s with cond := some uptoSmall }

/-- 'augurlaw09.HeadsTops', WHERE WHAT IT READS IS OF BULK AT MOST 1048576: true; the input reads as it did. -/
def headsTopsUptoRow : OpenClaim := { program := "ytlnbbnojkpdccaa", sum := "15cd0b08a9a9714735d9f7db63fb970ff7de15b564beb946b0b65235645fab2d", func := "augur/augurlaw09.HeadsTops", spec := "headsTops", unfollowed := true, recurses := true, apart := false, narrowed := true }
def HeadsTopsUptoSaid : Prop := headsTopsUptoRow.holds Try.pinned (OpenSpec.upto headsTopsSpec)

/-- 'augurlaw09.HeadsOrder', WHERE WHAT IT READS IS OF BULK AT MOST 1048576: true; the input reads as it did. -/
def headsOrderUptoRow : OpenClaim := { program := "ytlnbbnojkpdccaa", sum := "15cd0b08a9a9714735d9f7db63fb970ff7de15b564beb946b0b65235645fab2d", func := "augur/augurlaw09.HeadsOrder", spec := "headsOrder", unfollowed := true, recurses := true, apart := false, narrowed := true }
def HeadsOrderUptoSaid : Prop := headsOrderUptoRow.holds Try.pinned (OpenSpec.upto headsOrderSpec)

/-- 'augurlaw09.HeadsLater', WHERE WHAT IT READS IS OF BULK AT MOST 1048576: true; the input reads as it did. -/
def headsLaterUptoRow : OpenClaim := { program := "ytlnbbnojkpdccaa", sum := "15cd0b08a9a9714735d9f7db63fb970ff7de15b564beb946b0b65235645fab2d", func := "augur/augurlaw09.HeadsLater", spec := "headsLater", unfollowed := true, recurses := true, apart := false, narrowed := true }
def HeadsLaterUptoSaid : Prop := headsLaterUptoRow.holds Try.pinned (OpenSpec.upto headsLaterSpec)

/-- 'augurlaw09.HeadsRows', WHERE WHAT IT READS IS OF BULK AT MOST 1048576: true; the input reads as it did. -/
def headsRowsUptoRow : OpenClaim := { program := "ytlnbbnojkpdccaa", sum := "15cd0b08a9a9714735d9f7db63fb970ff7de15b564beb946b0b65235645fab2d", func := "augur/augurlaw09.HeadsRows", spec := "headsRows", unfollowed := true, recurses := true, apart := false, narrowed := true }
def HeadsRowsUptoSaid : Prop := headsRowsUptoRow.holds Try.pinned (OpenSpec.upto headsRowsSpec)

/-- 'augurlaw09.HeadsRefuses', WHERE WHAT IT READS IS OF BULK AT MOST 1048576: true; the input reads as it did. -/
def headsRefusesUptoRow : OpenClaim := { program := "ytlnbbnojkpdccaa", sum := "15cd0b08a9a9714735d9f7db63fb970ff7de15b564beb946b0b65235645fab2d", func := "augur/augurlaw09.HeadsRefuses", spec := "headsRefuses", unfollowed := true, recurses := true, apart := false, narrowed := true }
def HeadsRefusesUptoSaid : Prop := headsRefusesUptoRow.holds Try.pinned (OpenSpec.upto headsRefusesSpec)

/-- 'augurlaw09.HeadsGuesses', WHERE WHAT IT READS IS OF BULK AT MOST 1048576: true; the input reads as it did. -/
def headsGuessesUptoRow : OpenClaim := { program := "ytlnbbnojkpdccaa", sum := "15cd0b08a9a9714735d9f7db63fb970ff7de15b564beb946b0b65235645fab2d", func := "augur/augurlaw09.HeadsGuesses", spec := "headsGuesses", unfollowed := true, recurses := true, apart := false, narrowed := true }
def HeadsGuessesUptoSaid : Prop := headsGuessesUptoRow.holds Try.pinned (OpenSpec.upto headsGuessesSpec)

end Rows
end Go.Proofs.Ytlnbbnojkpdccaa
