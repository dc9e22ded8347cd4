/-
  No cell of these rows narrows 'for every input' (looked for: loops, veiled, ifaces, maps, wideKeys, modest, calm, conditions, laid).
  DERIVED. THE GIVEN ROWS OF THIS SEAT. 4 by the template 'for every input the law returns true; each argument reads behind the call as it read before'; 0 by the template 'total and deterministic' (their statements: YtakekdbclmgeoabTotals.lean).
  GIVEN WITH THE SEED: the statements are not yours to turn. If you find one false, say at which input.
  Laid BY PROGRAM, IN A SANDBOX (cutbox-rows.mjs): the forced cells as the released guide's own fill.sh prints them over the translation 7965150cde96073d… (all of the seat's roots in one cut). By AI agents, Wed Nov 11 2026. No macro, syntax, notation, axiom, sorry.
-/
import Derived.Test.YtakekdbclmgeoabChecked
import GoSem.Claim
import GoSem.ClaimJoined
import GoSem.ClaimMapViews
import Derived.JoinedTies
import Derived.KernelRfl
namespace Go.Proofs.Ytakekdbclmgeoab
/- THE CELL 'sum', in the pinned program and in every row, IS THE sha256 OF THE DUMP (.gsa) THAT YtakekdbclmgeoabProg.lean LOADS. Nothing in Lean hashes anything: it is a label: what it is worth is what the hold of that sum in a sandbox is worth. -/
noncomputable def Try.pinned : Pinned := { name := "ytakekdbclmgeoab", sum := "7965150cde96073d8e26dcad60652e43da3492790e6d973e3c26d120c686d3d7", checked := Try.checked }
namespace Rows
def none {H : Type} : Left H := { results := [], args := [] }

/-- 'augurlaw14.TreeCleans': WHATEVER THE INPUT: true; the input reads as it did. -/
def treeCleansSpec : ChangeSpec := { name := "treeCleans", fn := fun _ => fun
  | [d1, d2, d3] => { results := [.lit (.bool true)], args := [d1, d2, d3] }
  | _ => none }
def treeCleansRow : OpenClaim := { program := "ytakekdbclmgeoab", sum := "7965150cde96073d8e26dcad60652e43da3492790e6d973e3c26d120c686d3d7", func := "augur/augurlaw14.TreeCleans", spec := "treeCleans", unfollowed := true, recurses := true, plainKeys := false, apart := false }
def TreeCleansSaid : Prop := treeCleansRow.holds Try.pinned (OpenSpec.ofChange treeCleansSpec)

/-- ITS FALSE NEIGHBOUR: 'it returns false'. Refute it at one input. -/
def treeCleansWrong : ChangeSpec := { name := "treeCleans", fn := fun _ => fun
  | [d1, d2, d3] => { results := [.lit (.bool false)], args := [d1, d2, d3] }
  | _ => none }
def TreeCleansWrongFalsely : Prop := treeCleansRow.holds Try.pinned (OpenSpec.ofChange treeCleansWrong)

/-- 'augurlaw14.TreeSound': WHATEVER THE INPUT: true; the input reads as it did. -/
def treeSoundSpec : ChangeSpec := { name := "treeSound", fn := fun _ => fun
  | [d1, d2, d3] => { results := [.lit (.bool true)], args := [d1, d2, d3] }
  | _ => none }
def treeSoundRow : OpenClaim := { program := "ytakekdbclmgeoab", sum := "7965150cde96073d8e26dcad60652e43da3492790e6d973e3c26d120c686d3d7", func := "augur/augurlaw14.TreeSound", spec := "treeSound", unfollowed := true, recurses := true, plainKeys := false, apart := false }
def TreeSoundSaid : Prop := treeSoundRow.holds Try.pinned (OpenSpec.ofChange treeSoundSpec)

/-- ITS FALSE NEIGHBOUR: 'it returns false'. Refute it at one input. -/
def treeSoundWrong : ChangeSpec := { name := "treeSound", fn := fun _ => fun
  | [d1, d2, d3] => { results := [.lit (.bool false)], args := [d1, d2, d3] }
  | _ => none }
def TreeSoundWrongFalsely : Prop := treeSoundRow.holds Try.pinned (OpenSpec.ofChange treeSoundWrong)

/-- 'augurlaw14.TreeUnion': WHATEVER THE INPUT: true; the input reads as it did. -/
def treeUnionSpec : ChangeSpec := { name := "treeUnion", fn := fun _ => fun
  | [d1, d2, d3] => { results := [.lit (.bool true)], args := [d1, d2, d3] }
  | _ => none }
def treeUnionRow : OpenClaim := { program := "ytakekdbclmgeoab", sum := "7965150cde96073d8e26dcad60652e43da3492790e6d973e3c26d120c686d3d7", func := "augur/augurlaw14.TreeUnion", spec := "treeUnion", unfollowed := true, recurses := true, plainKeys := false, apart := false }
def TreeUnionSaid : Prop := treeUnionRow.holds Try.pinned (OpenSpec.ofChange treeUnionSpec)

/-- ITS FALSE NEIGHBOUR: 'it returns false'. Refute it at one input. -/
def treeUnionWrong : ChangeSpec := { name := "treeUnion", fn := fun _ => fun
  | [d1, d2, d3] => { results := [.lit (.bool false)], args := [d1, d2, d3] }
  | _ => none }
def TreeUnionWrongFalsely : Prop := treeUnionRow.holds Try.pinned (OpenSpec.ofChange treeUnionWrong)

/-- 'augurlaw14.TreeOwn': WHATEVER THE INPUT: true; the input reads as it did. -/
def treeOwnSpec : ChangeSpec := { name := "treeOwn", fn := fun _ => fun
  | [d1, d2, d3] => { results := [.lit (.bool true)], args := [d1, d2, d3] }
  | _ => none }
def treeOwnRow : OpenClaim := { program := "ytakekdbclmgeoab", sum := "7965150cde96073d8e26dcad60652e43da3492790e6d973e3c26d120c686d3d7", func := "augur/augurlaw14.TreeOwn", spec := "treeOwn", unfollowed := true, recurses := true, plainKeys := false, apart := false }
def TreeOwnSaid : Prop := treeOwnRow.holds Try.pinned (OpenSpec.ofChange treeOwnSpec)

/-- ITS FALSE NEIGHBOUR: 'it returns false'. Refute it at one input. -/
def treeOwnWrong : ChangeSpec := { name := "treeOwn", fn := fun _ => fun
  | [d1, d2, d3] => { results := [.lit (.bool false)], args := [d1, d2, d3] }
  | _ => none }
def TreeOwnWrongFalsely : Prop := treeOwnRow.holds Try.pinned (OpenSpec.ofChange treeOwnWrong)

/- THE SECOND FORM. 'bulk': how many values and letters a reading holds, each counted each time it is reached (what is shared counts as often as it is met; a slice's spare places count too). A statement '..UptoSaid' is the law's where the arguments, and the package variables that the reading takes, are together of bulk at most 1048576: NARROWER than '..Said'. Prove '..Said' where nothing that the law and all that it calls make is longer than what came in: it says more and counts as full. Else prove '..UptoSaid'. A law counts once. -/
mutual
def uptoBulk {H : Type} : DataW H → Nat
  | .lit (.string bytes) => bytes.length + 1
  | .lit _ => 1
  | .nil => 1
  | .ptr d => uptoBulk d + 1
  | .slice elems spare => uptoBulkAll elems + uptoBulkAll spare + 1
  | .agg parts => uptoBulkAll parts + 1
  | .iface _ d => uptoBulk d + 1
  | .map entries => uptoBulkEntries entries + 1
  | .held _ => 1
def uptoBulkAll {H : Type} : List (DataW H) → Nat
  | [] => 0
  | d :: r => uptoBulk d + uptoBulkAll r
def uptoBulkEntries {H : Type} : List (Lit × DataW H) → Nat
  | [] => 0
  | x :: r => uptoBulkEntry x + uptoBulkEntries r
def uptoBulkEntry {H : Type} : Lit × DataW H → Nat
  | (.string bytes, d) => bytes.length + uptoBulk d + 1
  | (_, d) => uptoBulk d + 1
 end
def uptoSmall : (H : Type) → List (DataW H) → Bool := fun _ ds => decide (uptoBulkAll ds ≤ 1048576)
def OpenSpec.upto (s : _root_.Go.ChangeSpec) : _root_.Go.OpenSpec := { _root_.Go.OpenSpec.ofChange s with cond := some uptoSmall }

/-- 'augurlaw14.TreeCleans', WHERE WHAT IT READS IS OF BULK AT MOST 1048576: true; the input reads as it did. -/
def treeCleansUptoRow : OpenClaim := { program := "ytakekdbclmgeoab", sum := "7965150cde96073d8e26dcad60652e43da3492790e6d973e3c26d120c686d3d7", func := "augur/augurlaw14.TreeCleans", spec := "treeCleans", unfollowed := true, recurses := true, plainKeys := false, apart := false, narrowed := true }
def TreeCleansUptoSaid : Prop := treeCleansUptoRow.holds Try.pinned (OpenSpec.upto treeCleansSpec)

/-- 'augurlaw14.TreeSound', WHERE WHAT IT READS IS OF BULK AT MOST 1048576: true; the input reads as it did. -/
def treeSoundUptoRow : OpenClaim := { program := "ytakekdbclmgeoab", sum := "7965150cde96073d8e26dcad60652e43da3492790e6d973e3c26d120c686d3d7", func := "augur/augurlaw14.TreeSound", spec := "treeSound", unfollowed := true, recurses := true, plainKeys := false, apart := false, narrowed := true }
def TreeSoundUptoSaid : Prop := treeSoundUptoRow.holds Try.pinned (OpenSpec.upto treeSoundSpec)

/-- 'augurlaw14.TreeUnion', WHERE WHAT IT READS IS OF BULK AT MOST 1048576: true; the input reads as it did. -/
def treeUnionUptoRow : OpenClaim := { program := "ytakekdbclmgeoab", sum := "7965150cde96073d8e26dcad60652e43da3492790e6d973e3c26d120c686d3d7", func := "augur/augurlaw14.TreeUnion", spec := "treeUnion", unfollowed := true, recurses := true, plainKeys := false, apart := false, narrowed := true }
def TreeUnionUptoSaid : Prop := treeUnionUptoRow.holds Try.pinned (OpenSpec.upto treeUnionSpec)

/-- 'augurlaw14.TreeOwn', WHERE WHAT IT READS IS OF BULK AT MOST 1048576: true; the input reads as it did. -/
def treeOwnUptoRow : OpenClaim := { program := "ytakekdbclmgeoab", sum := "7965150cde96073d8e26dcad60652e43da3492790e6d973e3c26d120c686d3d7", func := "augur/augurlaw14.TreeOwn", spec := "treeOwn", unfollowed := true, recurses := true, plainKeys := false, apart := false, narrowed := true }
def TreeOwnUptoSaid : Prop := treeOwnUptoRow.holds Try.pinned (OpenSpec.upto treeOwnSpec)

end Rows
end Go.Proofs.Ytakekdbclmgeoab
