/-
  No cell of these rows narrows 'for every input' (looked for: loops, veiled, ifaces, maps, wideKeys, modest, calm, conditions, laid).
  DERIVED. THE GIVEN ROWS OF THIS SEAT. 6 by the template 'for every input the law returns true; each argument reads behind the call as it read before'; 0 by the template 'total and deterministic' (their statements: YtaalinlggjimcaaTotals.lean).
  GIVEN WITH THE SEED: the statements are not yours to turn. If you find one false, say at which input.
  Laid BY PROGRAM, IN A SANDBOX (cutbox-rows.mjs): the forced cells as the released guide's own fill.sh prints them over the translation bff400f44744b856… (all of the seat's roots in one cut). By AI agents, Wed Nov 11 2026. No macro, syntax, notation, axiom, sorry.
-/
import Derived.Test.YtaalinlggjimcaaChecked
import GoSem.Claim
import GoSem.ClaimJoined
import GoSem.ClaimMapViews
import Derived.JoinedTies
import Derived.KernelRfl
namespace Go.Proofs.Ytaalinlggjimcaa
/- THE CELL 'sum', in the pinned program and in every row, IS THE sha256 OF THE DUMP (.gsa) THAT YtaalinlggjimcaaProg.lean LOADS. Nothing in Lean hashes anything: it is a label: what it is worth is what the hold of that sum in a sandbox is worth. -/
noncomputable def Try.pinned : Pinned := { name := "ytaalinlggjimcaa", sum := "bff400f44744b8567819f27851f8523559a96c1489327574ab520f41bf8be05b", checked := Try.checked }
namespace Rows
def none {H : Type} : Left H := { results := [], args := [] }

/-- 'augurlaw07.PrefixNil': WHATEVER THE INPUT: true; the input reads as it did. -/
def prefixNilSpec : ChangeSpec := { name := "prefixNil", fn := fun _ => fun
  | [d1, d2, d3] => { results := [.lit (.bool true)], args := [d1, d2, d3] }
  | _ => none }
def prefixNilRow : OpenClaim := { program := "ytaalinlggjimcaa", sum := "bff400f44744b8567819f27851f8523559a96c1489327574ab520f41bf8be05b", func := "augur/augurlaw07.PrefixNil", spec := "prefixNil", unfollowed := true, recurses := true, plainKeys := false, apart := false }
def PrefixNilSaid : Prop := prefixNilRow.holds Try.pinned (OpenSpec.ofChange prefixNilSpec)

/-- ITS FALSE NEIGHBOUR: 'it returns false'. Refute it at one input. -/
def prefixNilWrong : ChangeSpec := { name := "prefixNil", fn := fun _ => fun
  | [d1, d2, d3] => { results := [.lit (.bool false)], args := [d1, d2, d3] }
  | _ => none }
def PrefixNilWrongFalsely : Prop := prefixNilRow.holds Try.pinned (OpenSpec.ofChange prefixNilWrong)

/-- 'augurlaw07.PrefixOldest': WHATEVER THE INPUT: true; the input reads as it did. -/
def prefixOldestSpec : ChangeSpec := { name := "prefixOldest", fn := fun _ => fun
  | [d1, d2, d3] => { results := [.lit (.bool true)], args := [d1, d2, d3] }
  | _ => none }
def prefixOldestRow : OpenClaim := { program := "ytaalinlggjimcaa", sum := "bff400f44744b8567819f27851f8523559a96c1489327574ab520f41bf8be05b", func := "augur/augurlaw07.PrefixOldest", spec := "prefixOldest", unfollowed := true, recurses := true, plainKeys := false, apart := false }
def PrefixOldestSaid : Prop := prefixOldestRow.holds Try.pinned (OpenSpec.ofChange prefixOldestSpec)

/-- ITS FALSE NEIGHBOUR: 'it returns false'. Refute it at one input. -/
def prefixOldestWrong : ChangeSpec := { name := "prefixOldest", fn := fun _ => fun
  | [d1, d2, d3] => { results := [.lit (.bool false)], args := [d1, d2, d3] }
  | _ => none }
def PrefixOldestWrongFalsely : Prop := prefixOldestRow.holds Try.pinned (OpenSpec.ofChange prefixOldestWrong)

/-- 'augurlaw07.PrefixFinds': WHATEVER THE INPUT: true; the input reads as it did. -/
def prefixFindsSpec : ChangeSpec := { name := "prefixFinds", fn := fun _ => fun
  | [d1, d2] => { results := [.lit (.bool true)], args := [d1, d2] }
  | _ => none }
def prefixFindsRow : OpenClaim := { program := "ytaalinlggjimcaa", sum := "bff400f44744b8567819f27851f8523559a96c1489327574ab520f41bf8be05b", func := "augur/augurlaw07.PrefixFinds", spec := "prefixFinds", unfollowed := true, recurses := true, plainKeys := false, apart := false }
def PrefixFindsSaid : Prop := prefixFindsRow.holds Try.pinned (OpenSpec.ofChange prefixFindsSpec)

/-- ITS FALSE NEIGHBOUR: 'it returns false'. Refute it at one input. -/
def prefixFindsWrong : ChangeSpec := { name := "prefixFinds", fn := fun _ => fun
  | [d1, d2] => { results := [.lit (.bool false)], args := [d1, d2] }
  | _ => none }
def PrefixFindsWrongFalsely : Prop := prefixFindsRow.holds Try.pinned (OpenSpec.ofChange prefixFindsWrong)

/-- 'augurlaw07.PrefixShrinks': WHATEVER THE INPUT: true; the input reads as it did. -/
def prefixShrinksSpec : ChangeSpec := { name := "prefixShrinks", fn := fun _ => fun
  | [d1, d2, d3, d4, d5] => { results := [.lit (.bool true)], args := [d1, d2, d3, d4, d5] }
  | _ => none }
def prefixShrinksRow : OpenClaim := { program := "ytaalinlggjimcaa", sum := "bff400f44744b8567819f27851f8523559a96c1489327574ab520f41bf8be05b", func := "augur/augurlaw07.PrefixShrinks", spec := "prefixShrinks", unfollowed := true, recurses := true, plainKeys := false, apart := false }
def PrefixShrinksSaid : Prop := prefixShrinksRow.holds Try.pinned (OpenSpec.ofChange prefixShrinksSpec)

/-- ITS FALSE NEIGHBOUR: 'it returns false'. Refute it at one input. -/
def prefixShrinksWrong : ChangeSpec := { name := "prefixShrinks", fn := fun _ => fun
  | [d1, d2, d3, d4, d5] => { results := [.lit (.bool false)], args := [d1, d2, d3, d4, d5] }
  | _ => none }
def PrefixShrinksWrongFalsely : Prop := prefixShrinksRow.holds Try.pinned (OpenSpec.ofChange prefixShrinksWrong)

/-- 'augurlaw07.PrefixLists': WHATEVER THE INPUT: true; the input reads as it did. -/
def prefixListsSpec : ChangeSpec := { name := "prefixLists", fn := fun _ => fun
  | [d1, d2, d3] => { results := [.lit (.bool true)], args := [d1, d2, d3] }
  | _ => none }
def prefixListsRow : OpenClaim := { program := "ytaalinlggjimcaa", sum := "bff400f44744b8567819f27851f8523559a96c1489327574ab520f41bf8be05b", func := "augur/augurlaw07.PrefixLists", spec := "prefixLists", unfollowed := true, recurses := true, plainKeys := false, apart := false }
def PrefixListsSaid : Prop := prefixListsRow.holds Try.pinned (OpenSpec.ofChange prefixListsSpec)

/-- ITS FALSE NEIGHBOUR: 'it returns false'. Refute it at one input. -/
def prefixListsWrong : ChangeSpec := { name := "prefixLists", fn := fun _ => fun
  | [d1, d2, d3] => { results := [.lit (.bool false)], args := [d1, d2, d3] }
  | _ => none }
def PrefixListsWrongFalsely : Prop := prefixListsRow.holds Try.pinned (OpenSpec.ofChange prefixListsWrong)

/-- 'augurlaw07.PrefixScripts': WHATEVER THE INPUT: true; the input reads as it did. -/
def prefixScriptsSpec : ChangeSpec := { name := "prefixScripts", fn := fun _ => fun
  | [d1, d2, d3] => { results := [.lit (.bool true)], args := [d1, d2, d3] }
  | _ => none }
def prefixScriptsRow : OpenClaim := { program := "ytaalinlggjimcaa", sum := "bff400f44744b8567819f27851f8523559a96c1489327574ab520f41bf8be05b", func := "augur/augurlaw07.PrefixScripts", spec := "prefixScripts", unfollowed := true, recurses := true, plainKeys := false, apart := false }
def PrefixScriptsSaid : Prop := prefixScriptsRow.holds Try.pinned (OpenSpec.ofChange prefixScriptsSpec)

/-- ITS FALSE NEIGHBOUR: 'it returns false'. Refute it at one input. -/
def prefixScriptsWrong : ChangeSpec := { name := "prefixScripts", fn := fun _ => fun
  | [d1, d2, d3] => { results := [.lit (.bool false)], args := [d1, d2, d3] }
  | _ => none }
def PrefixScriptsWrongFalsely : Prop := prefixScriptsRow.holds Try.pinned (OpenSpec.ofChange prefixScriptsWrong)

/- THE SECOND FORM. 'bulk': how many values and letters a reading holds, each counted each time it is reached (what is shared counts as often as it is met; a slice's spare places count too). A statement '..UptoSaid' is the law's where the arguments, and the package variables that the reading takes, are together of bulk at most 1048576: NARROWER than '..Said'. Prove '..Said' where nothing that the law and all that it calls make is longer than what came in: it says more and counts as full. Else prove '..UptoSaid'. A law counts once. -/
mutual
def uptoBulk {H : Type} : DataW H → Nat
  | .lit (.string bytes) => bytes.length + 1
  | .lit _ => 1
  | .nil => 1
  | .ptr d => uptoBulk d + 1
  | .slice elems spare => uptoBulkAll elems + uptoBulkAll spare + 1
  | .agg parts => uptoBulkAll parts + 1
  | .iface _ d => uptoBulk d + 1
  | .map entries => uptoBulkEntries entries + 1
  | .held _ => 1
def uptoBulkAll {H : Type} : List (DataW H) → Nat
  | [] => 0
  | d :: r => uptoBulk d + uptoBulkAll r
def uptoBulkEntries {H : Type} : List (Lit × DataW H) → Nat
  | [] => 0
  | x :: r => uptoBulkEntry x + uptoBulkEntries r
def uptoBulkEntry {H : Type} : Lit × DataW H → Nat
  | (.string bytes, d) => bytes.length + uptoBulk d + 1
  | (_, d) => uptoBulk d + 1
 end
def uptoSmall : (H : Type) → List (DataW H) → Bool := fun _ ds => decide (uptoBulkAll ds ≤ 1048576)
def OpenSpec.upto (s : _root_.Go.ChangeSpec) : _root_.Go.OpenSpec := { _root_.Go.OpenSpec.ofChange s with cond := some uptoSmall }

/-- 'augurlaw07.PrefixNil', WHERE WHAT IT READS IS OF BULK AT MOST 1048576: true; the input reads as it did. -/
def prefixNilUptoRow : OpenClaim := { program := "ytaalinlggjimcaa", sum := "bff400f44744b8567819f27851f8523559a96c1489327574ab520f41bf8be05b", func := "augur/augurlaw07.PrefixNil", spec := "prefixNil", unfollowed := true, recurses := true, plainKeys := false, apart := false, narrowed := true }
def PrefixNilUptoSaid : Prop := prefixNilUptoRow.holds Try.pinned (OpenSpec.upto prefixNilSpec)

/-- 'augurlaw07.PrefixOldest', WHERE WHAT IT READS IS OF BULK AT MOST 1048576: true; the input reads as it did. -/
def prefixOldestUptoRow : OpenClaim := { program := "ytaalinlggjimcaa", sum := "bff400f44744b8567819f27851f8523559a96c1489327574ab520f41bf8be05b", func := "augur/augurlaw07.PrefixOldest", spec := "prefixOldest", unfollowed := true, recurses := true, plainKeys := false, apart := false, narrowed := true }
def PrefixOldestUptoSaid : Prop := prefixOldestUptoRow.holds Try.pinned (OpenSpec.upto prefixOldestSpec)

/-- 'augurlaw07.PrefixFinds', WHERE WHAT IT READS IS OF BULK AT MOST 1048576: true; the input reads as it did. -/
def prefixFindsUptoRow : OpenClaim := { program := "ytaalinlggjimcaa", sum := "bff400f44744b8567819f27851f8523559a96c1489327574ab520f41bf8be05b", func := "augur/augurlaw07.PrefixFinds", spec := "prefixFinds", unfollowed := true, recurses := true, plainKeys := false, apart := false, narrowed := true }
def PrefixFindsUptoSaid : Prop := prefixFindsUptoRow.holds Try.pinned (OpenSpec.upto prefixFindsSpec)

/-- 'augurlaw07.PrefixShrinks', WHERE WHAT IT READS IS OF BULK AT MOST 1048576: true; the input reads as it did. -/
def prefixShrinksUptoRow : OpenClaim := { program := "ytaalinlggjimcaa", sum := "bff400f44744b8567819f27851f8523559a96c1489327574ab520f41bf8be05b", func := "augur/augurlaw07.PrefixShrinks", spec := "prefixShrinks", unfollowed := true, recurses := true, plainKeys := false, apart := false, narrowed := true }
def PrefixShrinksUptoSaid : Prop := prefixShrinksUptoRow.holds Try.pinned (OpenSpec.upto prefixShrinksSpec)

/-- 'augurlaw07.PrefixLists', WHERE WHAT IT READS IS OF BULK AT MOST 1048576: true; the input reads as it did. -/
def prefixListsUptoRow : OpenClaim := { program := "ytaalinlggjimcaa", sum := "bff400f44744b8567819f27851f8523559a96c1489327574ab520f41bf8be05b", func := "augur/augurlaw07.PrefixLists", spec := "prefixLists", unfollowed := true, recurses := true, plainKeys := false, apart := false, narrowed := true }
def PrefixListsUptoSaid : Prop := prefixListsUptoRow.holds Try.pinned (OpenSpec.upto prefixListsSpec)

/-- 'augurlaw07.PrefixScripts', WHERE WHAT IT READS IS OF BULK AT MOST 1048576: true; the input reads as it did. -/
def prefixScriptsUptoRow : OpenClaim := { program := "ytaalinlggjimcaa", sum := "bff400f44744b8567819f27851f8523559a96c1489327574ab520f41bf8be05b", func := "augur/augurlaw07.PrefixScripts", spec := "prefixScripts", unfollowed := true, recurses := true, plainKeys := false, apart := false, narrowed := true }
def PrefixScriptsUptoSaid : Prop := prefixScriptsUptoRow.holds Try.pinned (OpenSpec.upto prefixScriptsSpec)

end Rows
end Go.Proofs.Ytaalinlggjimcaa
