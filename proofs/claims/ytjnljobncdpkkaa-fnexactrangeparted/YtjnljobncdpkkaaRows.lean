/-
  No cell of these rows narrows 'for every input' (looked for: loops, veiled, ifaces, maps, wideKeys, modest, calm, conditions, laid).
  DERIVED. THE GIVEN ROWS OF THIS SEAT. 12 by the template 'for every input the law returns true; each argument reads behind the call as it read before'; 0 by the template 'total and deterministic' (their statements: YtjnljobncdpkkaaTotals.lean).
  GIVEN WITH THE SEED: the statements are not yours to turn. If you find one false, say at which input.
  Laid BY PROGRAM, IN A SANDBOX (cutbox-rows.mjs): the forced cells as the released guide's own fill.sh prints them over the translation b3b14250e67032b9… (all of the seat's roots in one cut). By AI agents, Wed Nov 11 2026. No macro, syntax, notation, axiom, sorry.
-/
import Derived.Test.YtjnljobncdpkkaaChecked
import GoSem.Claim
import GoSem.ClaimJoined
import GoSem.ClaimMapViews
import Derived.JoinedTies
import Derived.KernelRfl
namespace Go.Proofs.Ytjnljobncdpkkaa
/- THE CELL 'sum', in the pinned program and in every row, IS THE sha256 OF THE DUMP (.gsa) THAT YtjnljobncdpkkaaProg.lean LOADS. Nothing in Lean hashes anything: it is a label: what it is worth is what the hold of that sum in a sandbox is worth. -/
noncomputable def Try.pinned : Pinned := { name := "ytjnljobncdpkkaa", sum := "b3b14250e67032b90189702cd08a7e7fce03f688e38a695f12571d98e99d124c", checked := Try.checked }
namespace Rows
def none {H : Type} : Left H := { results := [], args := [] }

/-- 'laws.FnExactSortedOk': WHATEVER THE INPUT: true; the input reads as it did. -/
def fnExactSortedOkSpec : ChangeSpec := { name := "fnExactSortedOk", fn := fun _ => fun
  | [d] => { results := [.lit (.bool true)], args := [d] }
  | _ => none }
def fnExactSortedOkRow : OpenClaim := { program := "ytjnljobncdpkkaa", sum := "b3b14250e67032b90189702cd08a7e7fce03f688e38a695f12571d98e99d124c", func := "loop.example/g00630/laws.FnExactSortedOk", spec := "fnExactSortedOk", unfollowed := true, recurses := true, apart := false }
def FnExactSortedOkSaid : Prop := fnExactSortedOkRow.holds Try.pinned (OpenSpec.ofChange fnExactSortedOkSpec)

/-- ITS FALSE NEIGHBOUR: 'it returns false'. Refute it at one input. -/
def fnExactSortedOkWrong : ChangeSpec := { name := "fnExactSortedOk", fn := fun _ => fun
  | [d] => { results := [.lit (.bool false)], args := [d] }
  | _ => none }
def FnExactSortedOkWrongFalsely : Prop := fnExactSortedOkRow.holds Try.pinned (OpenSpec.ofChange fnExactSortedOkWrong)

/-- 'laws.FnExactSorted': WHATEVER THE INPUT: true; the input reads as it did. -/
def fnExactSortedSpec : ChangeSpec := { name := "fnExactSorted", fn := fun _ => fun
  | [d] => { results := [.lit (.bool true)], args := [d] }
  | _ => none }
def fnExactSortedRow : OpenClaim := { program := "ytjnljobncdpkkaa", sum := "b3b14250e67032b90189702cd08a7e7fce03f688e38a695f12571d98e99d124c", func := "loop.example/g00630/laws.FnExactSorted", spec := "fnExactSorted", unfollowed := true, recurses := true, apart := false }
def FnExactSortedSaid : Prop := fnExactSortedRow.holds Try.pinned (OpenSpec.ofChange fnExactSortedSpec)

/-- ITS FALSE NEIGHBOUR: 'it returns false'. Refute it at one input. -/
def fnExactSortedWrong : ChangeSpec := { name := "fnExactSorted", fn := fun _ => fun
  | [d] => { results := [.lit (.bool false)], args := [d] }
  | _ => none }
def FnExactSortedWrongFalsely : Prop := fnExactSortedRow.holds Try.pinned (OpenSpec.ofChange fnExactSortedWrong)

/-- 'laws.FnExactCutsOf': WHATEVER THE INPUT: true; the input reads as it did. -/
def fnExactCutsOfSpec : ChangeSpec := { name := "fnExactCutsOf", fn := fun _ => fun
  | [d1, d2] => { results := [.lit (.bool true)], args := [d1, d2] }
  | _ => none }
def fnExactCutsOfRow : OpenClaim := { program := "ytjnljobncdpkkaa", sum := "b3b14250e67032b90189702cd08a7e7fce03f688e38a695f12571d98e99d124c", func := "loop.example/g00630/laws.FnExactCutsOf", spec := "fnExactCutsOf", unfollowed := true, recurses := true, apart := false }
def FnExactCutsOfSaid : Prop := fnExactCutsOfRow.holds Try.pinned (OpenSpec.ofChange fnExactCutsOfSpec)

/-- ITS FALSE NEIGHBOUR: 'it returns false'. Refute it at one input. -/
def fnExactCutsOfWrong : ChangeSpec := { name := "fnExactCutsOf", fn := fun _ => fun
  | [d1, d2] => { results := [.lit (.bool false)], args := [d1, d2] }
  | _ => none }
def FnExactCutsOfWrongFalsely : Prop := fnExactCutsOfRow.holds Try.pinned (OpenSpec.ofChange fnExactCutsOfWrong)

/-- 'laws.FnExactTagged': WHATEVER THE INPUT: true; the input reads as it did. -/
def fnExactTaggedSpec : ChangeSpec := { name := "fnExactTagged", fn := fun _ => fun
  | [d1, d2] => { results := [.lit (.bool true)], args := [d1, d2] }
  | _ => none }
def fnExactTaggedRow : OpenClaim := { program := "ytjnljobncdpkkaa", sum := "b3b14250e67032b90189702cd08a7e7fce03f688e38a695f12571d98e99d124c", func := "loop.example/g00630/laws.FnExactTagged", spec := "fnExactTagged", unfollowed := true, recurses := true, apart := false }
def FnExactTaggedSaid : Prop := fnExactTaggedRow.holds Try.pinned (OpenSpec.ofChange fnExactTaggedSpec)

/-- ITS FALSE NEIGHBOUR: 'it returns false'. Refute it at one input. -/
def fnExactTaggedWrong : ChangeSpec := { name := "fnExactTagged", fn := fun _ => fun
  | [d1, d2] => { results := [.lit (.bool false)], args := [d1, d2] }
  | _ => none }
def FnExactTaggedWrongFalsely : Prop := fnExactTaggedRow.holds Try.pinned (OpenSpec.ofChange fnExactTaggedWrong)

/-- 'laws.FnExactRunsOf': WHATEVER THE INPUT: true; the input reads as it did. -/
def fnExactRunsOfSpec : ChangeSpec := { name := "fnExactRunsOf", fn := fun _ => fun
  | [d1, d2] => { results := [.lit (.bool true)], args := [d1, d2] }
  | _ => none }
def fnExactRunsOfRow : OpenClaim := { program := "ytjnljobncdpkkaa", sum := "b3b14250e67032b90189702cd08a7e7fce03f688e38a695f12571d98e99d124c", func := "loop.example/g00630/laws.FnExactRunsOf", spec := "fnExactRunsOf", unfollowed := true, recurses := true, apart := false }
def FnExactRunsOfSaid : Prop := fnExactRunsOfRow.holds Try.pinned (OpenSpec.ofChange fnExactRunsOfSpec)

/-- ITS FALSE NEIGHBOUR: 'it returns false'. Refute it at one input. -/
def fnExactRunsOfWrong : ChangeSpec := { name := "fnExactRunsOf", fn := fun _ => fun
  | [d1, d2] => { results := [.lit (.bool false)], args := [d1, d2] }
  | _ => none }
def FnExactRunsOfWrongFalsely : Prop := fnExactRunsOfRow.holds Try.pinned (OpenSpec.ofChange fnExactRunsOfWrong)

/-- 'laws.FnExactMergedRuns': WHATEVER THE INPUT: true; the input reads as it did. -/
def fnExactMergedRunsSpec : ChangeSpec := { name := "fnExactMergedRuns", fn := fun _ => fun
  | [d] => { results := [.lit (.bool true)], args := [d] }
  | _ => none }
def fnExactMergedRunsRow : OpenClaim := { program := "ytjnljobncdpkkaa", sum := "b3b14250e67032b90189702cd08a7e7fce03f688e38a695f12571d98e99d124c", func := "loop.example/g00630/laws.FnExactMergedRuns", spec := "fnExactMergedRuns", unfollowed := true, recurses := true, apart := false }
def FnExactMergedRunsSaid : Prop := fnExactMergedRunsRow.holds Try.pinned (OpenSpec.ofChange fnExactMergedRunsSpec)

/-- ITS FALSE NEIGHBOUR: 'it returns false'. Refute it at one input. -/
def fnExactMergedRunsWrong : ChangeSpec := { name := "fnExactMergedRuns", fn := fun _ => fun
  | [d] => { results := [.lit (.bool false)], args := [d] }
  | _ => none }
def FnExactMergedRunsWrongFalsely : Prop := fnExactMergedRunsRow.holds Try.pinned (OpenSpec.ofChange fnExactMergedRunsWrong)

/-- 'laws.FnExactFewerRuns': WHATEVER THE INPUT: true; the input reads as it did. -/
def fnExactFewerRunsSpec : ChangeSpec := { name := "fnExactFewerRuns", fn := fun _ => fun
  | [d1, d2] => { results := [.lit (.bool true)], args := [d1, d2] }
  | _ => none }
def fnExactFewerRunsRow : OpenClaim := { program := "ytjnljobncdpkkaa", sum := "b3b14250e67032b90189702cd08a7e7fce03f688e38a695f12571d98e99d124c", func := "loop.example/g00630/laws.FnExactFewerRuns", spec := "fnExactFewerRuns", unfollowed := true, recurses := true, apart := false }
def FnExactFewerRunsSaid : Prop := fnExactFewerRunsRow.holds Try.pinned (OpenSpec.ofChange fnExactFewerRunsSpec)

/-- ITS FALSE NEIGHBOUR: 'it returns false'. Refute it at one input. -/
def fnExactFewerRunsWrong : ChangeSpec := { name := "fnExactFewerRuns", fn := fun _ => fun
  | [d1, d2] => { results := [.lit (.bool false)], args := [d1, d2] }
  | _ => none }
def FnExactFewerRunsWrongFalsely : Prop := fnExactFewerRunsRow.holds Try.pinned (OpenSpec.ofChange fnExactFewerRunsWrong)

/-- 'laws.FnExactParted': WHATEVER THE INPUT: true; the input reads as it did. -/
def fnExactPartedSpec : ChangeSpec := { name := "fnExactParted", fn := fun _ => fun
  | [d1, d2] => { results := [.lit (.bool true)], args := [d1, d2] }
  | _ => none }
def fnExactPartedRow : OpenClaim := { program := "ytjnljobncdpkkaa", sum := "b3b14250e67032b90189702cd08a7e7fce03f688e38a695f12571d98e99d124c", func := "loop.example/g00630/laws.FnExactParted", spec := "fnExactParted", unfollowed := true, recurses := true, apart := false }
def FnExactPartedSaid : Prop := fnExactPartedRow.holds Try.pinned (OpenSpec.ofChange fnExactPartedSpec)

/-- ITS FALSE NEIGHBOUR: 'it returns false'. Refute it at one input. -/
def fnExactPartedWrong : ChangeSpec := { name := "fnExactParted", fn := fun _ => fun
  | [d1, d2] => { results := [.lit (.bool false)], args := [d1, d2] }
  | _ => none }
def FnExactPartedWrongFalsely : Prop := fnExactPartedRow.holds Try.pinned (OpenSpec.ofChange fnExactPartedWrong)

/-- 'laws.FnExactRangeParted': WHATEVER THE INPUT: true; the input reads as it did. -/
def fnExactRangePartedSpec : ChangeSpec := { name := "fnExactRangeParted", fn := fun _ => fun
  | [d1, d2] => { results := [.lit (.bool true)], args := [d1, d2] }
  | _ => none }
def fnExactRangePartedRow : OpenClaim := { program := "ytjnljobncdpkkaa", sum := "b3b14250e67032b90189702cd08a7e7fce03f688e38a695f12571d98e99d124c", func := "loop.example/g00630/laws.FnExactRangeParted", spec := "fnExactRangeParted", unfollowed := true, recurses := true, apart := false }
def FnExactRangePartedSaid : Prop := fnExactRangePartedRow.holds Try.pinned (OpenSpec.ofChange fnExactRangePartedSpec)

/-- ITS FALSE NEIGHBOUR: 'it returns false'. Refute it at one input. -/
def fnExactRangePartedWrong : ChangeSpec := { name := "fnExactRangeParted", fn := fun _ => fun
  | [d1, d2] => { results := [.lit (.bool false)], args := [d1, d2] }
  | _ => none }
def FnExactRangePartedWrongFalsely : Prop := fnExactRangePartedRow.holds Try.pinned (OpenSpec.ofChange fnExactRangePartedWrong)

/-- 'laws.FnExactGroupsOf': WHATEVER THE INPUT: true; the input reads as it did. -/
def fnExactGroupsOfSpec : ChangeSpec := { name := "fnExactGroupsOf", fn := fun _ => fun
  | [d] => { results := [.lit (.bool true)], args := [d] }
  | _ => none }
def fnExactGroupsOfRow : OpenClaim := { program := "ytjnljobncdpkkaa", sum := "b3b14250e67032b90189702cd08a7e7fce03f688e38a695f12571d98e99d124c", func := "loop.example/g00630/laws.FnExactGroupsOf", spec := "fnExactGroupsOf", unfollowed := true, recurses := true, apart := false }
def FnExactGroupsOfSaid : Prop := fnExactGroupsOfRow.holds Try.pinned (OpenSpec.ofChange fnExactGroupsOfSpec)

/-- ITS FALSE NEIGHBOUR: 'it returns false'. Refute it at one input. -/
def fnExactGroupsOfWrong : ChangeSpec := { name := "fnExactGroupsOf", fn := fun _ => fun
  | [d] => { results := [.lit (.bool false)], args := [d] }
  | _ => none }
def FnExactGroupsOfWrongFalsely : Prop := fnExactGroupsOfRow.holds Try.pinned (OpenSpec.ofChange fnExactGroupsOfWrong)

/-- 'laws.FnExactUngrouped': WHATEVER THE INPUT: true; the input reads as it did. -/
def fnExactUngroupedSpec : ChangeSpec := { name := "fnExactUngrouped", fn := fun _ => fun
  | [d] => { results := [.lit (.bool true)], args := [d] }
  | _ => none }
def fnExactUngroupedRow : OpenClaim := { program := "ytjnljobncdpkkaa", sum := "b3b14250e67032b90189702cd08a7e7fce03f688e38a695f12571d98e99d124c", func := "loop.example/g00630/laws.FnExactUngrouped", spec := "fnExactUngrouped", unfollowed := true, recurses := true, apart := false }
def FnExactUngroupedSaid : Prop := fnExactUngroupedRow.holds Try.pinned (OpenSpec.ofChange fnExactUngroupedSpec)

/-- ITS FALSE NEIGHBOUR: 'it returns false'. Refute it at one input. -/
def fnExactUngroupedWrong : ChangeSpec := { name := "fnExactUngrouped", fn := fun _ => fun
  | [d] => { results := [.lit (.bool false)], args := [d] }
  | _ => none }
def FnExactUngroupedWrongFalsely : Prop := fnExactUngroupedRow.holds Try.pinned (OpenSpec.ofChange fnExactUngroupedWrong)

/-- 'laws.FnExactFirstOf': WHATEVER THE INPUT: true; the input reads as it did. -/
def fnExactFirstOfSpec : ChangeSpec := { name := "fnExactFirstOf", fn := fun _ => fun
  | [d1, d2] => { results := [.lit (.bool true)], args := [d1, d2] }
  | _ => none }
def fnExactFirstOfRow : OpenClaim := { program := "ytjnljobncdpkkaa", sum := "b3b14250e67032b90189702cd08a7e7fce03f688e38a695f12571d98e99d124c", func := "loop.example/g00630/laws.FnExactFirstOf", spec := "fnExactFirstOf", unfollowed := true, recurses := true, apart := false }
def FnExactFirstOfSaid : Prop := fnExactFirstOfRow.holds Try.pinned (OpenSpec.ofChange fnExactFirstOfSpec)

/-- ITS FALSE NEIGHBOUR: 'it returns false'. Refute it at one input. -/
def fnExactFirstOfWrong : ChangeSpec := { name := "fnExactFirstOf", fn := fun _ => fun
  | [d1, d2] => { results := [.lit (.bool false)], args := [d1, d2] }
  | _ => none }
def FnExactFirstOfWrongFalsely : Prop := fnExactFirstOfRow.holds Try.pinned (OpenSpec.ofChange fnExactFirstOfWrong)

/- THE SECOND FORM. 'bulk': how many values and letters a reading holds, each counted each time it is reached (what is shared counts as often as it is met; a slice's spare places count too). A statement '..UptoSaid' is the law's where the arguments, and the package variables that the reading takes, are together of bulk at most 1048576: NARROWER than '..Said'. Prove '..Said' where nothing that the law and all that it calls make is longer than what came in: it says more and counts as full. Else prove '..UptoSaid'. A law counts once. -/
mutual
def uptoBulk {H : Type} : DataW H → Nat
  | .lit (.string bytes) => bytes.length + 1
  | .lit _ => 1
  | .nil => 1
  | .ptr d => uptoBulk d + 1
  | .slice elems spare => uptoBulkAll elems + uptoBulkAll spare + 1
  | .agg parts => uptoBulkAll parts + 1
  | .iface _ d => uptoBulk d + 1
  | .map entries => uptoBulkEntries entries + 1
  | .held _ => 1
def uptoBulkAll {H : Type} : List (DataW H) → Nat
  | [] => 0
  | d :: r => uptoBulk d + uptoBulkAll r
def uptoBulkEntries {H : Type} : List (Lit × DataW H) → Nat
  | [] => 0
  | x :: r => uptoBulkEntry x + uptoBulkEntries r
def uptoBulkEntry {H : Type} : Lit × DataW H → Nat
  | (.string bytes, d) => bytes.length + uptoBulk d + 1
  | (_, d) => uptoBulk d + 1
 end
def uptoSmall : (H : Type) → List (DataW H) → Bool := fun _ ds => decide (uptoBulkAll ds ≤ 1048576)
def OpenSpec.upto (s : _root_.Go.ChangeSpec) : _root_.Go.OpenSpec := { _root_.Go.OpenSpec.ofChange s with cond := some uptoSmall }

/-- 'laws.FnExactSortedOk', WHERE WHAT IT READS IS OF BULK AT MOST 1048576: true; the input reads as it did. -/
def fnExactSortedOkUptoRow : OpenClaim := { program := "ytjnljobncdpkkaa", sum := "b3b14250e67032b90189702cd08a7e7fce03f688e38a695f12571d98e99d124c", func := "loop.example/g00630/laws.FnExactSortedOk", spec := "fnExactSortedOk", unfollowed := true, recurses := true, apart := false, narrowed := true }
def FnExactSortedOkUptoSaid : Prop := fnExactSortedOkUptoRow.holds Try.pinned (OpenSpec.upto fnExactSortedOkSpec)

/-- 'laws.FnExactSorted', WHERE WHAT IT READS IS OF BULK AT MOST 1048576: true; the input reads as it did. -/
def fnExactSortedUptoRow : OpenClaim := { program := "ytjnljobncdpkkaa", sum := "b3b14250e67032b90189702cd08a7e7fce03f688e38a695f12571d98e99d124c", func := "loop.example/g00630/laws.FnExactSorted", spec := "fnExactSorted", unfollowed := true, recurses := true, apart := false, narrowed := true }
def FnExactSortedUptoSaid : Prop := fnExactSortedUptoRow.holds Try.pinned (OpenSpec.upto fnExactSortedSpec)

/-- 'laws.FnExactCutsOf', WHERE WHAT IT READS IS OF BULK AT MOST 1048576: true; the input reads as it did. -/
def fnExactCutsOfUptoRow : OpenClaim := { program := "ytjnljobncdpkkaa", sum := "b3b14250e67032b90189702cd08a7e7fce03f688e38a695f12571d98e99d124c", func := "loop.example/g00630/laws.FnExactCutsOf", spec := "fnExactCutsOf", unfollowed := true, recurses := true, apart := false, narrowed := true }
def FnExactCutsOfUptoSaid : Prop := fnExactCutsOfUptoRow.holds Try.pinned (OpenSpec.upto fnExactCutsOfSpec)

/-- 'laws.FnExactTagged', WHERE WHAT IT READS IS OF BULK AT MOST 1048576: true; the input reads as it did. -/
def fnExactTaggedUptoRow : OpenClaim := { program := "ytjnljobncdpkkaa", sum := "b3b14250e67032b90189702cd08a7e7fce03f688e38a695f12571d98e99d124c", func := "loop.example/g00630/laws.FnExactTagged", spec := "fnExactTagged", unfollowed := true, recurses := true, apart := false, narrowed := true }
def FnExactTaggedUptoSaid : Prop := fnExactTaggedUptoRow.holds Try.pinned (OpenSpec.upto fnExactTaggedSpec)

/-- 'laws.FnExactRunsOf', WHERE WHAT IT READS IS OF BULK AT MOST 1048576: true; the input reads as it did. -/
def fnExactRunsOfUptoRow : OpenClaim := { program := "ytjnljobncdpkkaa", sum := "b3b14250e67032b90189702cd08a7e7fce03f688e38a695f12571d98e99d124c", func := "loop.example/g00630/laws.FnExactRunsOf", spec := "fnExactRunsOf", unfollowed := true, recurses := true, apart := false, narrowed := true }
def FnExactRunsOfUptoSaid : Prop := fnExactRunsOfUptoRow.holds Try.pinned (OpenSpec.upto fnExactRunsOfSpec)

/-- 'laws.FnExactMergedRuns', WHERE WHAT IT READS IS OF BULK AT MOST 1048576: true; the input reads as it did. -/
def fnExactMergedRunsUptoRow : OpenClaim := { program := "ytjnljobncdpkkaa", sum := "b3b14250e67032b90189702cd08a7e7fce03f688e38a695f12571d98e99d124c", func := "loop.example/g00630/laws.FnExactMergedRuns", spec := "fnExactMergedRuns", unfollowed := true, recurses := true, apart := false, narrowed := true }
def FnExactMergedRunsUptoSaid : Prop := fnExactMergedRunsUptoRow.holds Try.pinned (OpenSpec.upto fnExactMergedRunsSpec)

/-- 'laws.FnExactFewerRuns', WHERE WHAT IT READS IS OF BULK AT MOST 1048576: true; the input reads as it did. -/
def fnExactFewerRunsUptoRow : OpenClaim := { program := "ytjnljobncdpkkaa", sum := "b3b14250e67032b90189702cd08a7e7fce03f688e38a695f12571d98e99d124c", func := "loop.example/g00630/laws.FnExactFewerRuns", spec := "fnExactFewerRuns", unfollowed := true, recurses := true, apart := false, narrowed := true }
def FnExactFewerRunsUptoSaid : Prop := fnExactFewerRunsUptoRow.holds Try.pinned (OpenSpec.upto fnExactFewerRunsSpec)

/-- 'laws.FnExactParted', WHERE WHAT IT READS IS OF BULK AT MOST 1048576: true; the input reads as it did. -/
def fnExactPartedUptoRow : OpenClaim := { program := "ytjnljobncdpkkaa", sum := "b3b14250e67032b90189702cd08a7e7fce03f688e38a695f12571d98e99d124c", func := "loop.example/g00630/laws.FnExactParted", spec := "fnExactParted", unfollowed := true, recurses := true, apart := false, narrowed := true }
def FnExactPartedUptoSaid : Prop := fnExactPartedUptoRow.holds Try.pinned (OpenSpec.upto fnExactPartedSpec)

/-- 'laws.FnExactRangeParted', WHERE WHAT IT READS IS OF BULK AT MOST 1048576: true; the input reads as it did. -/
def fnExactRangePartedUptoRow : OpenClaim := { program := "ytjnljobncdpkkaa", sum := "b3b14250e67032b90189702cd08a7e7fce03f688e38a695f12571d98e99d124c", func := "loop.example/g00630/laws.FnExactRangeParted", spec := "fnExactRangeParted", unfollowed := true, recurses := true, apart := false, narrowed := true }
def FnExactRangePartedUptoSaid : Prop := fnExactRangePartedUptoRow.holds Try.pinned (OpenSpec.upto fnExactRangePartedSpec)

/-- 'laws.FnExactGroupsOf', WHERE WHAT IT READS IS OF BULK AT MOST 1048576: true; the input reads as it did. -/
def fnExactGroupsOfUptoRow : OpenClaim := { program := "ytjnljobncdpkkaa", sum := "b3b14250e67032b90189702cd08a7e7fce03f688e38a695f12571d98e99d124c", func := "loop.example/g00630/laws.FnExactGroupsOf", spec := "fnExactGroupsOf", unfollowed := true, recurses := true, apart := false, narrowed := true }
def FnExactGroupsOfUptoSaid : Prop := fnExactGroupsOfUptoRow.holds Try.pinned (OpenSpec.upto fnExactGroupsOfSpec)

/-- 'laws.FnExactUngrouped', WHERE WHAT IT READS IS OF BULK AT MOST 1048576: true; the input reads as it did. -/
def fnExactUngroupedUptoRow : OpenClaim := { program := "ytjnljobncdpkkaa", sum := "b3b14250e67032b90189702cd08a7e7fce03f688e38a695f12571d98e99d124c", func := "loop.example/g00630/laws.FnExactUngrouped", spec := "fnExactUngrouped", unfollowed := true, recurses := true, apart := false, narrowed := true }
def FnExactUngroupedUptoSaid : Prop := fnExactUngroupedUptoRow.holds Try.pinned (OpenSpec.upto fnExactUngroupedSpec)

/-- 'laws.FnExactFirstOf', WHERE WHAT IT READS IS OF BULK AT MOST 1048576: true; the input reads as it did. -/
def fnExactFirstOfUptoRow : OpenClaim := { program := "ytjnljobncdpkkaa", sum := "b3b14250e67032b90189702cd08a7e7fce03f688e38a695f12571d98e99d124c", func := "loop.example/g00630/laws.FnExactFirstOf", spec := "fnExactFirstOf", unfollowed := true, recurses := true, apart := false, narrowed := true }
def FnExactFirstOfUptoSaid : Prop := fnExactFirstOfUptoRow.holds Try.pinned (OpenSpec.upto fnExactFirstOfSpec)

end Rows
end Go.Proofs.Ytjnljobncdpkkaa
