/-
  NARROWER THAN 'FOR EVERY INPUT', by the rows' own cells (each row's printed sentence says how): PickDraws: laid · PickGreedy: laid · PickMoves: laid · PickSeen: laid · PickNested: laid.
  DERIVED. THE GIVEN ROWS OF THIS SEAT. 5 by the template 'for every input the law returns true; each argument reads behind the call as it read before'; 0 by the template 'total and deterministic' (their statements: YtjjfbpjejhjdiaaDoorTotals.lean).
  GIVEN WITH THE SEED: the statements are not yours to turn. If you find one false, say at which input.
  Laid BY PROGRAM, IN A SANDBOX (cutbox-rows.mjs): the forced cells as the released guide's own fill.sh prints them over the translation 1059c3bba5cc92a9… (all of the seat's roots in one cut). By AI agents, Wed Nov 11 2026. No macro, syntax, notation, axiom, sorry.
-/
import Derived.Test.YtjjfbpjejhjdiaaDoorChecked
import GoSem.Claim
import GoSem.ClaimJoined
import GoSem.ClaimMapViews
import Derived.JoinedTies
import Derived.KernelRfl
namespace Go.Proofs.YtjjfbpjejhjdiaaDoor
/- THE CELL 'sum', in the pinned program and in every row, IS THE sha256 OF THE DUMP (.gsa) THAT YtjjfbpjejhjdiaaDoorProg.lean LOADS. Nothing in Lean hashes anything: it is a label: what it is worth is what the hold of that sum in a sandbox is worth. -/
noncomputable def Tryd.pinned : Pinned := { name := "ytjjfbpjejhjdiaadoor", sum := "1059c3bba5cc92a95752a043040c6deb3660991aca9c028c599f802f7e4132a9", checked := Tryd.checked }
namespace Rows
def none {H : Type} : Left H := { results := [], args := [] }

/- WHAT THE LISTED PACKAGE-LEVEL VARIABLES READ AS WHEN THE CALL BEGINS. Each datum BY PROGRAM (the guide's laid-datum.mjs) off the statement by which the dump's own 'gosem.cut.vars' lays the variable. In a bare row this is a premise. The card (YtjjfbpjejhjdiaaDoorCards.lean) ties it to the program's text. -/
def laid_augur_draw_rounds {H : Type} : DataW H := .agg [.agg [.lit (.int .i64 30), .lit (.int .u64 13787848793156543929)], .agg [.lit (.int .i64 27), .lit (.int .u64 10723151780598845931)], .agg [.lit (.int .i64 31), .lit (.int .u64 1)]]
def laid_augur_fix_expTerms {H : Type} : DataW H := .agg [.lit (.int .i64 35472643), .lit (.int .i64 (-175978408)), .lit (.int .i64 536691957), .lit (.int .i64 (-1073764153)), .lit (.int .i64 1073741824)]

/-- 'augurlaw10.PickDraws': WHATEVER THE INPUT: true; the input reads as it did. -/
def pickDrawsSpec : ChangeSpec := { name := "pickDraws", fn := fun _ => fun
  | [d1, d2, d3, d4, d5] => { results := [.lit (.bool true)], args := [d1, d2, d3, d4, d5] }
  | _ => none }
def pickDrawsRow : OpenClaim := { program := "ytjjfbpjejhjdiaadoor", sum := "1059c3bba5cc92a95752a043040c6deb3660991aca9c028c599f802f7e4132a9", func := "augur/augurlaw10.PickDraws", spec := "pickDraws", unfollowed := true, recurses := true, named := ["augur/fix.expTerms", "augur/draw.rounds"], apart := false, laid := [("augur/draw.rounds", laid_augur_draw_rounds), ("augur/fix.expTerms", laid_augur_fix_expTerms)] }
def PickDrawsSaid : Prop := pickDrawsRow.holds Tryd.pinned (OpenSpec.ofChange pickDrawsSpec)

/-- ITS FALSE NEIGHBOUR: 'it returns false'. Refute it at one input. -/
def pickDrawsWrong : ChangeSpec := { name := "pickDraws", fn := fun _ => fun
  | [d1, d2, d3, d4, d5] => { results := [.lit (.bool false)], args := [d1, d2, d3, d4, d5] }
  | _ => none }
def PickDrawsWrongFalsely : Prop := pickDrawsRow.holds Tryd.pinned (OpenSpec.ofChange pickDrawsWrong)

/-- 'augurlaw10.PickGreedy': WHATEVER THE INPUT: true; the input reads as it did. -/
def pickGreedySpec : ChangeSpec := { name := "pickGreedy", fn := fun _ => fun
  | [d1, d2, d3, d4] => { results := [.lit (.bool true)], args := [d1, d2, d3, d4] }
  | _ => none }
def pickGreedyRow : OpenClaim := { program := "ytjjfbpjejhjdiaadoor", sum := "1059c3bba5cc92a95752a043040c6deb3660991aca9c028c599f802f7e4132a9", func := "augur/augurlaw10.PickGreedy", spec := "pickGreedy", unfollowed := true, recurses := true, named := ["augur/fix.expTerms", "augur/draw.rounds"], apart := false, laid := [("augur/draw.rounds", laid_augur_draw_rounds), ("augur/fix.expTerms", laid_augur_fix_expTerms)] }
def PickGreedySaid : Prop := pickGreedyRow.holds Tryd.pinned (OpenSpec.ofChange pickGreedySpec)

/-- ITS FALSE NEIGHBOUR: 'it returns false'. Refute it at one input. -/
def pickGreedyWrong : ChangeSpec := { name := "pickGreedy", fn := fun _ => fun
  | [d1, d2, d3, d4] => { results := [.lit (.bool false)], args := [d1, d2, d3, d4] }
  | _ => none }
def PickGreedyWrongFalsely : Prop := pickGreedyRow.holds Tryd.pinned (OpenSpec.ofChange pickGreedyWrong)

/-- 'augurlaw10.PickMoves': WHATEVER THE INPUT: true; the input reads as it did. -/
def pickMovesSpec : ChangeSpec := { name := "pickMoves", fn := fun _ => fun
  | [d1, d2, d3, d4, d5] => { results := [.lit (.bool true)], args := [d1, d2, d3, d4, d5] }
  | _ => none }
def pickMovesRow : OpenClaim := { program := "ytjjfbpjejhjdiaadoor", sum := "1059c3bba5cc92a95752a043040c6deb3660991aca9c028c599f802f7e4132a9", func := "augur/augurlaw10.PickMoves", spec := "pickMoves", unfollowed := true, recurses := true, named := ["augur/fix.expTerms", "augur/draw.rounds"], apart := false, laid := [("augur/draw.rounds", laid_augur_draw_rounds), ("augur/fix.expTerms", laid_augur_fix_expTerms)] }
def PickMovesSaid : Prop := pickMovesRow.holds Tryd.pinned (OpenSpec.ofChange pickMovesSpec)

/-- ITS FALSE NEIGHBOUR: 'it returns false'. Refute it at one input. -/
def pickMovesWrong : ChangeSpec := { name := "pickMoves", fn := fun _ => fun
  | [d1, d2, d3, d4, d5] => { results := [.lit (.bool false)], args := [d1, d2, d3, d4, d5] }
  | _ => none }
def PickMovesWrongFalsely : Prop := pickMovesRow.holds Tryd.pinned (OpenSpec.ofChange pickMovesWrong)

/-- 'augurlaw10.PickSeen': WHATEVER THE INPUT: true; the input reads as it did. -/
def pickSeenSpec : ChangeSpec := { name := "pickSeen", fn := fun _ => fun
  | [d1, d2, d3, d4] => { results := [.lit (.bool true)], args := [d1, d2, d3, d4] }
  | _ => none }
def pickSeenRow : OpenClaim := { program := "ytjjfbpjejhjdiaadoor", sum := "1059c3bba5cc92a95752a043040c6deb3660991aca9c028c599f802f7e4132a9", func := "augur/augurlaw10.PickSeen", spec := "pickSeen", unfollowed := true, recurses := true, named := ["augur/fix.expTerms", "augur/draw.rounds"], apart := false, laid := [("augur/draw.rounds", laid_augur_draw_rounds), ("augur/fix.expTerms", laid_augur_fix_expTerms)] }
def PickSeenSaid : Prop := pickSeenRow.holds Tryd.pinned (OpenSpec.ofChange pickSeenSpec)

/-- ITS FALSE NEIGHBOUR: 'it returns false'. Refute it at one input. -/
def pickSeenWrong : ChangeSpec := { name := "pickSeen", fn := fun _ => fun
  | [d1, d2, d3, d4] => { results := [.lit (.bool false)], args := [d1, d2, d3, d4] }
  | _ => none }
def PickSeenWrongFalsely : Prop := pickSeenRow.holds Tryd.pinned (OpenSpec.ofChange pickSeenWrong)

/-- 'augurlaw10.PickNested': WHATEVER THE INPUT: true; the input reads as it did. -/
def pickNestedSpec : ChangeSpec := { name := "pickNested", fn := fun _ => fun
  | [d1, d2, d3, d4, d5, d6] => { results := [.lit (.bool true)], args := [d1, d2, d3, d4, d5, d6] }
  | _ => none }
def pickNestedRow : OpenClaim := { program := "ytjjfbpjejhjdiaadoor", sum := "1059c3bba5cc92a95752a043040c6deb3660991aca9c028c599f802f7e4132a9", func := "augur/augurlaw10.PickNested", spec := "pickNested", unfollowed := true, recurses := true, named := ["augur/fix.expTerms", "augur/draw.rounds"], apart := false, laid := [("augur/draw.rounds", laid_augur_draw_rounds), ("augur/fix.expTerms", laid_augur_fix_expTerms)] }
def PickNestedSaid : Prop := pickNestedRow.holds Tryd.pinned (OpenSpec.ofChange pickNestedSpec)

/-- ITS FALSE NEIGHBOUR: 'it returns false'. Refute it at one input. -/
def pickNestedWrong : ChangeSpec := { name := "pickNested", fn := fun _ => fun
  | [d1, d2, d3, d4, d5, d6] => { results := [.lit (.bool false)], args := [d1, d2, d3, d4, d5, d6] }
  | _ => none }
def PickNestedWrongFalsely : Prop := pickNestedRow.holds Tryd.pinned (OpenSpec.ofChange pickNestedWrong)

/- THE SECOND FORM. 'bulk': how many values and letters a reading holds, each counted each time it is reached (what is shared counts as often as it is met; a slice's spare places count too). A statement '..UptoSaid' is the law's where the arguments, and the package variables that the reading takes, are together of bulk at most 1048576: NARROWER than '..Said'. Prove '..Said' where nothing that the law and all that it calls make is longer than what came in: it says more and counts as full. Else prove '..UptoSaid'. A law counts once. -/
mutual
def uptoBulk {H : Type} : DataW H → Nat
  | .lit (.string bytes) => bytes.length + 1
  | .lit _ => 1
  | .nil => 1
  | .ptr d => uptoBulk d + 1
  | .slice elems spare => uptoBulkAll elems + uptoBulkAll spare + 1
  | .agg parts => uptoBulkAll parts + 1
  | .iface _ d => uptoBulk d + 1
  | .map entries => uptoBulkEntries entries + 1
  | .held _ => 1
def uptoBulkAll {H : Type} : List (DataW H) → Nat
  | [] => 0
  | d :: r => uptoBulk d + uptoBulkAll r
def uptoBulkEntries {H : Type} : List (Lit × DataW H) → Nat
  | [] => 0
  | x :: r => uptoBulkEntry x + uptoBulkEntries r
def uptoBulkEntry {H : Type} : Lit × DataW H → Nat
  | (.string bytes, d) => bytes.length + uptoBulk d + 1
  | (_, d) => uptoBulk d + 1
 end
def uptoSmall : (H : Type) → List (DataW H) → Bool := fun _ ds => decide (uptoBulkAll ds ≤ 1048576)
def OpenSpec.upto (s : _root_.Go.ChangeSpec) : _root_.Go.OpenSpec := { _root_.Go.OpenSpec.ofChange s with cond := some uptoSmall }

/-- 'augurlaw10.PickDraws', WHERE WHAT IT READS IS OF BULK AT MOST 1048576: true; the input reads as it did. -/
def pickDrawsUptoRow : OpenClaim := { program := "ytjjfbpjejhjdiaadoor", sum := "1059c3bba5cc92a95752a043040c6deb3660991aca9c028c599f802f7e4132a9", func := "augur/augurlaw10.PickDraws", spec := "pickDraws", unfollowed := true, recurses := true, named := ["augur/fix.expTerms", "augur/draw.rounds"], apart := false, laid := [("augur/draw.rounds", laid_augur_draw_rounds), ("augur/fix.expTerms", laid_augur_fix_expTerms)], narrowed := true }
def PickDrawsUptoSaid : Prop := pickDrawsUptoRow.holds Tryd.pinned (OpenSpec.upto pickDrawsSpec)

/-- 'augurlaw10.PickGreedy', WHERE WHAT IT READS IS OF BULK AT MOST 1048576: true; the input reads as it did. -/
def pickGreedyUptoRow : OpenClaim := { program := "ytjjfbpjejhjdiaadoor", sum := "1059c3bba5cc92a95752a043040c6deb3660991aca9c028c599f802f7e4132a9", func := "augur/augurlaw10.PickGreedy", spec := "pickGreedy", unfollowed := true, recurses := true, named := ["augur/fix.expTerms", "augur/draw.rounds"], apart := false, laid := [("augur/draw.rounds", laid_augur_draw_rounds), ("augur/fix.expTerms", laid_augur_fix_expTerms)], narrowed := true }
def PickGreedyUptoSaid : Prop := pickGreedyUptoRow.holds Tryd.pinned (OpenSpec.upto pickGreedySpec)

/-- 'augurlaw10.PickMoves', WHERE WHAT IT READS IS OF BULK AT MOST 1048576: true; the input reads as it did. -/
def pickMovesUptoRow : OpenClaim := { program := "ytjjfbpjejhjdiaadoor", sum := "1059c3bba5cc92a95752a043040c6deb3660991aca9c028c599f802f7e4132a9", func := "augur/augurlaw10.PickMoves", spec := "pickMoves", unfollowed := true, recurses := true, named := ["augur/fix.expTerms", "augur/draw.rounds"], apart := false, laid := [("augur/draw.rounds", laid_augur_draw_rounds), ("augur/fix.expTerms", laid_augur_fix_expTerms)], narrowed := true }
def PickMovesUptoSaid : Prop := pickMovesUptoRow.holds Tryd.pinned (OpenSpec.upto pickMovesSpec)

/-- 'augurlaw10.PickSeen', WHERE WHAT IT READS IS OF BULK AT MOST 1048576: true; the input reads as it did. -/
def pickSeenUptoRow : OpenClaim := { program := "ytjjfbpjejhjdiaadoor", sum := "1059c3bba5cc92a95752a043040c6deb3660991aca9c028c599f802f7e4132a9", func := "augur/augurlaw10.PickSeen", spec := "pickSeen", unfollowed := true, recurses := true, named := ["augur/fix.expTerms", "augur/draw.rounds"], apart := false, laid := [("augur/draw.rounds", laid_augur_draw_rounds), ("augur/fix.expTerms", laid_augur_fix_expTerms)], narrowed := true }
def PickSeenUptoSaid : Prop := pickSeenUptoRow.holds Tryd.pinned (OpenSpec.upto pickSeenSpec)

/-- 'augurlaw10.PickNested', WHERE WHAT IT READS IS OF BULK AT MOST 1048576: true; the input reads as it did. -/
def pickNestedUptoRow : OpenClaim := { program := "ytjjfbpjejhjdiaadoor", sum := "1059c3bba5cc92a95752a043040c6deb3660991aca9c028c599f802f7e4132a9", func := "augur/augurlaw10.PickNested", spec := "pickNested", unfollowed := true, recurses := true, named := ["augur/fix.expTerms", "augur/draw.rounds"], apart := false, laid := [("augur/draw.rounds", laid_augur_draw_rounds), ("augur/fix.expTerms", laid_augur_fix_expTerms)], narrowed := true }
def PickNestedUptoSaid : Prop := pickNestedUptoRow.holds Tryd.pinned (OpenSpec.upto pickNestedSpec)

end Rows
end Go.Proofs.YtjjfbpjejhjdiaaDoor
