/-
  No cell of these rows narrows 'for every input' (looked for: loops, veiled, ifaces, maps, wideKeys, modest, calm, conditions, laid).
  DERIVED. THE GIVEN ROWS OF THIS SEAT. 12 by the template 'for every input the law returns true; each argument reads behind the call as it read before'; 0 by the template 'total and deterministic' (their statements: YtgdbpckobngmjaaTotals.lean).
  GIVEN WITH THE SEED: the statements are not yours to turn. If you find one false, say at which input.
  Laid BY PROGRAM, IN A SANDBOX (cutbox-rows.mjs): the forced cells as the released guide's own fill.sh prints them over the translation 9f6a553eb8e75dab… (all of the seat's roots in one cut). By AI agents, Wed Nov 11 2026. No macro, syntax, notation, axiom, sorry.
-/
import Derived.Test.YtgdbpckobngmjaaChecked
import GoSem.Claim
import GoSem.ClaimJoined
import GoSem.ClaimMapViews
import Derived.JoinedTies
import Derived.KernelRfl
namespace Go.Proofs.Ytgdbpckobngmjaa
/- THE CELL 'sum', in the pinned program and in every row, IS THE sha256 OF THE DUMP (.gsa) THAT YtgdbpckobngmjaaProg.lean LOADS. Nothing in Lean hashes anything: it is a label: what it is worth is what the hold of that sum in a sandbox is worth. -/
noncomputable def Try.pinned : Pinned := { name := "ytgdbpckobngmjaa", sum := "9f6a553eb8e75dab1bbdc62ebe5bb263fd033e42ec90ecab56fe83da50f41b49", checked := Try.checked }
namespace Rows
def none {H : Type} : Left H := { results := [], args := [] }

/-- 'laws.FnExactRunsOf': WHATEVER THE INPUT: true; the input reads as it did. -/
def fnExactRunsOfSpec : ChangeSpec := { name := "fnExactRunsOf", fn := fun _ => fun
  | [d1, d2] => { results := [.lit (.bool true)], args := [d1, d2] }
  | _ => none }
def fnExactRunsOfRow : OpenClaim := { program := "ytgdbpckobngmjaa", sum := "9f6a553eb8e75dab1bbdc62ebe5bb263fd033e42ec90ecab56fe83da50f41b49", func := "loop.example/g00630/laws.FnExactRunsOf", spec := "fnExactRunsOf", unfollowed := true, recurses := true, apart := false }
def FnExactRunsOfSaid : Prop := fnExactRunsOfRow.holds Try.pinned (OpenSpec.ofChange fnExactRunsOfSpec)

/-- ITS FALSE NEIGHBOUR: 'it returns false'. Refute it at one input. -/
def fnExactRunsOfWrong : ChangeSpec := { name := "fnExactRunsOf", fn := fun _ => fun
  | [d1, d2] => { results := [.lit (.bool false)], args := [d1, d2] }
  | _ => none }
def FnExactRunsOfWrongFalsely : Prop := fnExactRunsOfRow.holds Try.pinned (OpenSpec.ofChange fnExactRunsOfWrong)

/-- 'laws.FnExactMergedRuns': WHATEVER THE INPUT: true; the input reads as it did. -/
def fnExactMergedRunsSpec : ChangeSpec := { name := "fnExactMergedRuns", fn := fun _ => fun
  | [d] => { results := [.lit (.bool true)], args := [d] }
  | _ => none }
def fnExactMergedRunsRow : OpenClaim := { program := "ytgdbpckobngmjaa", sum := "9f6a553eb8e75dab1bbdc62ebe5bb263fd033e42ec90ecab56fe83da50f41b49", func := "loop.example/g00630/laws.FnExactMergedRuns", spec := "fnExactMergedRuns", unfollowed := true, recurses := true, apart := false }
def FnExactMergedRunsSaid : Prop := fnExactMergedRunsRow.holds Try.pinned (OpenSpec.ofChange fnExactMergedRunsSpec)

/-- ITS FALSE NEIGHBOUR: 'it returns false'. Refute it at one input. -/
def fnExactMergedRunsWrong : ChangeSpec := { name := "fnExactMergedRuns", fn := fun _ => fun
  | [d] => { results := [.lit (.bool false)], args := [d] }
  | _ => none }
def FnExactMergedRunsWrongFalsely : Prop := fnExactMergedRunsRow.holds Try.pinned (OpenSpec.ofChange fnExactMergedRunsWrong)

/-- 'laws.FnExactFewerRuns': WHATEVER THE INPUT: true; the input reads as it did. -/
def fnExactFewerRunsSpec : ChangeSpec := { name := "fnExactFewerRuns", fn := fun _ => fun
  | [d1, d2] => { results := [.lit (.bool true)], args := [d1, d2] }
  | _ => none }
def fnExactFewerRunsRow : OpenClaim := { program := "ytgdbpckobngmjaa", sum := "9f6a553eb8e75dab1bbdc62ebe5bb263fd033e42ec90ecab56fe83da50f41b49", func := "loop.example/g00630/laws.FnExactFewerRuns", spec := "fnExactFewerRuns", unfollowed := true, recurses := true, apart := false }
def FnExactFewerRunsSaid : Prop := fnExactFewerRunsRow.holds Try.pinned (OpenSpec.ofChange fnExactFewerRunsSpec)

/-- ITS FALSE NEIGHBOUR: 'it returns false'. Refute it at one input. -/
def fnExactFewerRunsWrong : ChangeSpec := { name := "fnExactFewerRuns", fn := fun _ => fun
  | [d1, d2] => { results := [.lit (.bool false)], args := [d1, d2] }
  | _ => none }
def FnExactFewerRunsWrongFalsely : Prop := fnExactFewerRunsRow.holds Try.pinned (OpenSpec.ofChange fnExactFewerRunsWrong)

/-- 'laws.FnRuns': WHATEVER THE INPUT: true; the input reads as it did. -/
def fnRunsSpec : ChangeSpec := { name := "fnRuns", fn := fun _ => fun
  | [d] => { results := [.lit (.bool true)], args := [d] }
  | _ => none }
def fnRunsRow : OpenClaim := { program := "ytgdbpckobngmjaa", sum := "9f6a553eb8e75dab1bbdc62ebe5bb263fd033e42ec90ecab56fe83da50f41b49", func := "loop.example/g00630/laws.FnRuns", spec := "fnRuns", unfollowed := true, recurses := true, apart := false }
def FnRunsSaid : Prop := fnRunsRow.holds Try.pinned (OpenSpec.ofChange fnRunsSpec)

/-- ITS FALSE NEIGHBOUR: 'it returns false'. Refute it at one input. -/
def fnRunsWrong : ChangeSpec := { name := "fnRuns", fn := fun _ => fun
  | [d] => { results := [.lit (.bool false)], args := [d] }
  | _ => none }
def FnRunsWrongFalsely : Prop := fnRunsRow.holds Try.pinned (OpenSpec.ofChange fnRunsWrong)

/-- 'laws.FnFewer': WHATEVER THE INPUT: true; the input reads as it did. -/
def fnFewerSpec : ChangeSpec := { name := "fnFewer", fn := fun _ => fun
  | [d] => { results := [.lit (.bool true)], args := [d] }
  | _ => none }
def fnFewerRow : OpenClaim := { program := "ytgdbpckobngmjaa", sum := "9f6a553eb8e75dab1bbdc62ebe5bb263fd033e42ec90ecab56fe83da50f41b49", func := "loop.example/g00630/laws.FnFewer", spec := "fnFewer", unfollowed := true, recurses := true, apart := false }
def FnFewerSaid : Prop := fnFewerRow.holds Try.pinned (OpenSpec.ofChange fnFewerSpec)

/-- ITS FALSE NEIGHBOUR: 'it returns false'. Refute it at one input. -/
def fnFewerWrong : ChangeSpec := { name := "fnFewer", fn := fun _ => fun
  | [d] => { results := [.lit (.bool false)], args := [d] }
  | _ => none }
def FnFewerWrongFalsely : Prop := fnFewerRow.holds Try.pinned (OpenSpec.ofChange fnFewerWrong)

/-- 'laws.FnFewerOne': WHATEVER THE INPUT: true; the input reads as it did. -/
def fnFewerOneSpec : ChangeSpec := { name := "fnFewerOne", fn := fun _ => fun
  | [d] => { results := [.lit (.bool true)], args := [d] }
  | _ => none }
def fnFewerOneRow : OpenClaim := { program := "ytgdbpckobngmjaa", sum := "9f6a553eb8e75dab1bbdc62ebe5bb263fd033e42ec90ecab56fe83da50f41b49", func := "loop.example/g00630/laws.FnFewerOne", spec := "fnFewerOne", unfollowed := true, recurses := true, apart := false }
def FnFewerOneSaid : Prop := fnFewerOneRow.holds Try.pinned (OpenSpec.ofChange fnFewerOneSpec)

/-- ITS FALSE NEIGHBOUR: 'it returns false'. Refute it at one input. -/
def fnFewerOneWrong : ChangeSpec := { name := "fnFewerOne", fn := fun _ => fun
  | [d] => { results := [.lit (.bool false)], args := [d] }
  | _ => none }
def FnFewerOneWrongFalsely : Prop := fnFewerOneRow.holds Try.pinned (OpenSpec.ofChange fnFewerOneWrong)

/-- 'laws.FnExactUngrouped': WHATEVER THE INPUT: true; the input reads as it did. -/
def fnExactUngroupedSpec : ChangeSpec := { name := "fnExactUngrouped", fn := fun _ => fun
  | [d] => { results := [.lit (.bool true)], args := [d] }
  | _ => none }
def fnExactUngroupedRow : OpenClaim := { program := "ytgdbpckobngmjaa", sum := "9f6a553eb8e75dab1bbdc62ebe5bb263fd033e42ec90ecab56fe83da50f41b49", func := "loop.example/g00630/laws.FnExactUngrouped", spec := "fnExactUngrouped", unfollowed := true, recurses := true, apart := false }
def FnExactUngroupedSaid : Prop := fnExactUngroupedRow.holds Try.pinned (OpenSpec.ofChange fnExactUngroupedSpec)

/-- ITS FALSE NEIGHBOUR: 'it returns false'. Refute it at one input. -/
def fnExactUngroupedWrong : ChangeSpec := { name := "fnExactUngrouped", fn := fun _ => fun
  | [d] => { results := [.lit (.bool false)], args := [d] }
  | _ => none }
def FnExactUngroupedWrongFalsely : Prop := fnExactUngroupedRow.holds Try.pinned (OpenSpec.ofChange fnExactUngroupedWrong)

/-- 'laws.FnGroups': WHATEVER THE INPUT: true; the input reads as it did. -/
def fnGroupsSpec : ChangeSpec := { name := "fnGroups", fn := fun _ => fun
  | [d] => { results := [.lit (.bool true)], args := [d] }
  | _ => none }
def fnGroupsRow : OpenClaim := { program := "ytgdbpckobngmjaa", sum := "9f6a553eb8e75dab1bbdc62ebe5bb263fd033e42ec90ecab56fe83da50f41b49", func := "loop.example/g00630/laws.FnGroups", spec := "fnGroups", unfollowed := true, recurses := true, apart := false }
def FnGroupsSaid : Prop := fnGroupsRow.holds Try.pinned (OpenSpec.ofChange fnGroupsSpec)

/-- ITS FALSE NEIGHBOUR: 'it returns false'. Refute it at one input. -/
def fnGroupsWrong : ChangeSpec := { name := "fnGroups", fn := fun _ => fun
  | [d] => { results := [.lit (.bool false)], args := [d] }
  | _ => none }
def FnGroupsWrongFalsely : Prop := fnGroupsRow.holds Try.pinned (OpenSpec.ofChange fnGroupsWrong)

/-- 'laws.FnExactGroupsOf': WHATEVER THE INPUT: true; the input reads as it did. -/
def fnExactGroupsOfSpec : ChangeSpec := { name := "fnExactGroupsOf", fn := fun _ => fun
  | [d] => { results := [.lit (.bool true)], args := [d] }
  | _ => none }
def fnExactGroupsOfRow : OpenClaim := { program := "ytgdbpckobngmjaa", sum := "9f6a553eb8e75dab1bbdc62ebe5bb263fd033e42ec90ecab56fe83da50f41b49", func := "loop.example/g00630/laws.FnExactGroupsOf", spec := "fnExactGroupsOf", unfollowed := true, recurses := true, apart := false }
def FnExactGroupsOfSaid : Prop := fnExactGroupsOfRow.holds Try.pinned (OpenSpec.ofChange fnExactGroupsOfSpec)

/-- ITS FALSE NEIGHBOUR: 'it returns false'. Refute it at one input. -/
def fnExactGroupsOfWrong : ChangeSpec := { name := "fnExactGroupsOf", fn := fun _ => fun
  | [d] => { results := [.lit (.bool false)], args := [d] }
  | _ => none }
def FnExactGroupsOfWrongFalsely : Prop := fnExactGroupsOfRow.holds Try.pinned (OpenSpec.ofChange fnExactGroupsOfWrong)

/-- 'laws.FnExactSkewJoin': WHATEVER THE INPUT: true; the input reads as it did. -/
def fnExactSkewJoinSpec : ChangeSpec := { name := "fnExactSkewJoin", fn := fun _ => fun
  | [d1, d2, d3] => { results := [.lit (.bool true)], args := [d1, d2, d3] }
  | _ => none }
def fnExactSkewJoinRow : OpenClaim := { program := "ytgdbpckobngmjaa", sum := "9f6a553eb8e75dab1bbdc62ebe5bb263fd033e42ec90ecab56fe83da50f41b49", func := "loop.example/g00630/laws.FnExactSkewJoin", spec := "fnExactSkewJoin", unfollowed := true, recurses := true, apart := false }
def FnExactSkewJoinSaid : Prop := fnExactSkewJoinRow.holds Try.pinned (OpenSpec.ofChange fnExactSkewJoinSpec)

/-- ITS FALSE NEIGHBOUR: 'it returns false'. Refute it at one input. -/
def fnExactSkewJoinWrong : ChangeSpec := { name := "fnExactSkewJoin", fn := fun _ => fun
  | [d1, d2, d3] => { results := [.lit (.bool false)], args := [d1, d2, d3] }
  | _ => none }
def FnExactSkewJoinWrongFalsely : Prop := fnExactSkewJoinRow.holds Try.pinned (OpenSpec.ofChange fnExactSkewJoinWrong)

/-- 'laws.FnExactCogrouped': WHATEVER THE INPUT: true; the input reads as it did. -/
def fnExactCogroupedSpec : ChangeSpec := { name := "fnExactCogrouped", fn := fun _ => fun
  | [d1, d2, d3] => { results := [.lit (.bool true)], args := [d1, d2, d3] }
  | _ => none }
def fnExactCogroupedRow : OpenClaim := { program := "ytgdbpckobngmjaa", sum := "9f6a553eb8e75dab1bbdc62ebe5bb263fd033e42ec90ecab56fe83da50f41b49", func := "loop.example/g00630/laws.FnExactCogrouped", spec := "fnExactCogrouped", unfollowed := true, recurses := true, apart := false }
def FnExactCogroupedSaid : Prop := fnExactCogroupedRow.holds Try.pinned (OpenSpec.ofChange fnExactCogroupedSpec)

/-- ITS FALSE NEIGHBOUR: 'it returns false'. Refute it at one input. -/
def fnExactCogroupedWrong : ChangeSpec := { name := "fnExactCogrouped", fn := fun _ => fun
  | [d1, d2, d3] => { results := [.lit (.bool false)], args := [d1, d2, d3] }
  | _ => none }
def FnExactCogroupedWrongFalsely : Prop := fnExactCogroupedRow.holds Try.pinned (OpenSpec.ofChange fnExactCogroupedWrong)

/-- 'laws.FnCoTwo': WHATEVER THE INPUT: true; the input reads as it did. -/
def fnCoTwoSpec : ChangeSpec := { name := "fnCoTwo", fn := fun _ => fun
  | [d] => { results := [.lit (.bool true)], args := [d] }
  | _ => none }
def fnCoTwoRow : OpenClaim := { program := "ytgdbpckobngmjaa", sum := "9f6a553eb8e75dab1bbdc62ebe5bb263fd033e42ec90ecab56fe83da50f41b49", func := "loop.example/g00630/laws.FnCoTwo", spec := "fnCoTwo", unfollowed := true, recurses := true, apart := false }
def FnCoTwoSaid : Prop := fnCoTwoRow.holds Try.pinned (OpenSpec.ofChange fnCoTwoSpec)

/-- ITS FALSE NEIGHBOUR: 'it returns false'. Refute it at one input. -/
def fnCoTwoWrong : ChangeSpec := { name := "fnCoTwo", fn := fun _ => fun
  | [d] => { results := [.lit (.bool false)], args := [d] }
  | _ => none }
def FnCoTwoWrongFalsely : Prop := fnCoTwoRow.holds Try.pinned (OpenSpec.ofChange fnCoTwoWrong)

/- THE SECOND FORM. 'bulk': how many values and letters a reading holds, each counted each time it is reached (what is shared counts as often as it is met; a slice's spare places count too). A statement '..UptoSaid' is the law's where the arguments, and the package variables that the reading takes, are together of bulk at most 1048576: NARROWER than '..Said'. Prove '..Said' where nothing that the law and all that it calls make is longer than what came in: it says more and counts as full. Else prove '..UptoSaid'. A law counts once. -/
mutual
def uptoBulk {H : Type} : DataW H → Nat
  | .lit (.string bytes) => bytes.length + 1
  | .lit _ => 1
  | .nil => 1
  | .ptr d => uptoBulk d + 1
  | .slice elems spare => uptoBulkAll elems + uptoBulkAll spare + 1
  | .agg parts => uptoBulkAll parts + 1
  | .iface _ d => uptoBulk d + 1
  | .map entries => uptoBulkEntries entries + 1
  | .held _ => 1
def uptoBulkAll {H : Type} : List (DataW H) → Nat
  | [] => 0
  | d :: r => uptoBulk d + uptoBulkAll r
def uptoBulkEntries {H : Type} : List (Lit × DataW H) → Nat
  | [] => 0
  | x :: r => uptoBulkEntry x + uptoBulkEntries r
def uptoBulkEntry {H : Type} : Lit × DataW H → Nat
  | (.string bytes, d) => bytes.length + uptoBulk d + 1
  | (_, d) => uptoBulk d + 1
 end
def uptoSmall : (H : Type) → List (DataW H) → Bool := fun _ ds => decide (uptoBulkAll ds ≤ 1048576)
def OpenSpec.upto (s : _root_.Go.ChangeSpec) : _root_.Go.OpenSpec := { _root_.Go.OpenSpec.ofChange s with cond := some uptoSmall }

/-- 'laws.FnExactRunsOf', WHERE WHAT IT READS IS OF BULK AT MOST 1048576: true; the input reads as it did. -/
def fnExactRunsOfUptoRow : OpenClaim := { program := "ytgdbpckobngmjaa", sum := "9f6a553eb8e75dab1bbdc62ebe5bb263fd033e42ec90ecab56fe83da50f41b49", func := "loop.example/g00630/laws.FnExactRunsOf", spec := "fnExactRunsOf", unfollowed := true, recurses := true, apart := false, narrowed := true }
def FnExactRunsOfUptoSaid : Prop := fnExactRunsOfUptoRow.holds Try.pinned (OpenSpec.upto fnExactRunsOfSpec)

/-- 'laws.FnExactMergedRuns', WHERE WHAT IT READS IS OF BULK AT MOST 1048576: true; the input reads as it did. -/
def fnExactMergedRunsUptoRow : OpenClaim := { program := "ytgdbpckobngmjaa", sum := "9f6a553eb8e75dab1bbdc62ebe5bb263fd033e42ec90ecab56fe83da50f41b49", func := "loop.example/g00630/laws.FnExactMergedRuns", spec := "fnExactMergedRuns", unfollowed := true, recurses := true, apart := false, narrowed := true }
def FnExactMergedRunsUptoSaid : Prop := fnExactMergedRunsUptoRow.holds Try.pinned (OpenSpec.upto fnExactMergedRunsSpec)

/-- 'laws.FnExactFewerRuns', WHERE WHAT IT READS IS OF BULK AT MOST 1048576: true; the input reads as it did. -/
def fnExactFewerRunsUptoRow : OpenClaim := { program := "ytgdbpckobngmjaa", sum := "9f6a553eb8e75dab1bbdc62ebe5bb263fd033e42ec90ecab56fe83da50f41b49", func := "loop.example/g00630/laws.FnExactFewerRuns", spec := "fnExactFewerRuns", unfollowed := true, recurses := true, apart := false, narrowed := true }
def FnExactFewerRunsUptoSaid : Prop := fnExactFewerRunsUptoRow.holds Try.pinned (OpenSpec.upto fnExactFewerRunsSpec)

/-- 'laws.FnRuns', WHERE WHAT IT READS IS OF BULK AT MOST 1048576: true; the input reads as it did. -/
def fnRunsUptoRow : OpenClaim := { program := "ytgdbpckobngmjaa", sum := "9f6a553eb8e75dab1bbdc62ebe5bb263fd033e42ec90ecab56fe83da50f41b49", func := "loop.example/g00630/laws.FnRuns", spec := "fnRuns", unfollowed := true, recurses := true, apart := false, narrowed := true }
def FnRunsUptoSaid : Prop := fnRunsUptoRow.holds Try.pinned (OpenSpec.upto fnRunsSpec)

/-- 'laws.FnFewer', WHERE WHAT IT READS IS OF BULK AT MOST 1048576: true; the input reads as it did. -/
def fnFewerUptoRow : OpenClaim := { program := "ytgdbpckobngmjaa", sum := "9f6a553eb8e75dab1bbdc62ebe5bb263fd033e42ec90ecab56fe83da50f41b49", func := "loop.example/g00630/laws.FnFewer", spec := "fnFewer", unfollowed := true, recurses := true, apart := false, narrowed := true }
def FnFewerUptoSaid : Prop := fnFewerUptoRow.holds Try.pinned (OpenSpec.upto fnFewerSpec)

/-- 'laws.FnFewerOne', WHERE WHAT IT READS IS OF BULK AT MOST 1048576: true; the input reads as it did. -/
def fnFewerOneUptoRow : OpenClaim := { program := "ytgdbpckobngmjaa", sum := "9f6a553eb8e75dab1bbdc62ebe5bb263fd033e42ec90ecab56fe83da50f41b49", func := "loop.example/g00630/laws.FnFewerOne", spec := "fnFewerOne", unfollowed := true, recurses := true, apart := false, narrowed := true }
def FnFewerOneUptoSaid : Prop := fnFewerOneUptoRow.holds Try.pinned (OpenSpec.upto fnFewerOneSpec)

/-- 'laws.FnExactUngrouped', WHERE WHAT IT READS IS OF BULK AT MOST 1048576: true; the input reads as it did. -/
def fnExactUngroupedUptoRow : OpenClaim := { program := "ytgdbpckobngmjaa", sum := "9f6a553eb8e75dab1bbdc62ebe5bb263fd033e42ec90ecab56fe83da50f41b49", func := "loop.example/g00630/laws.FnExactUngrouped", spec := "fnExactUngrouped", unfollowed := true, recurses := true, apart := false, narrowed := true }
def FnExactUngroupedUptoSaid : Prop := fnExactUngroupedUptoRow.holds Try.pinned (OpenSpec.upto fnExactUngroupedSpec)

/-- 'laws.FnGroups', WHERE WHAT IT READS IS OF BULK AT MOST 1048576: true; the input reads as it did. -/
def fnGroupsUptoRow : OpenClaim := { program := "ytgdbpckobngmjaa", sum := "9f6a553eb8e75dab1bbdc62ebe5bb263fd033e42ec90ecab56fe83da50f41b49", func := "loop.example/g00630/laws.FnGroups", spec := "fnGroups", unfollowed := true, recurses := true, apart := false, narrowed := true }
def FnGroupsUptoSaid : Prop := fnGroupsUptoRow.holds Try.pinned (OpenSpec.upto fnGroupsSpec)

/-- 'laws.FnExactGroupsOf', WHERE WHAT IT READS IS OF BULK AT MOST 1048576: true; the input reads as it did. -/
def fnExactGroupsOfUptoRow : OpenClaim := { program := "ytgdbpckobngmjaa", sum := "9f6a553eb8e75dab1bbdc62ebe5bb263fd033e42ec90ecab56fe83da50f41b49", func := "loop.example/g00630/laws.FnExactGroupsOf", spec := "fnExactGroupsOf", unfollowed := true, recurses := true, apart := false, narrowed := true }
def FnExactGroupsOfUptoSaid : Prop := fnExactGroupsOfUptoRow.holds Try.pinned (OpenSpec.upto fnExactGroupsOfSpec)

/-- 'laws.FnExactSkewJoin', WHERE WHAT IT READS IS OF BULK AT MOST 1048576: true; the input reads as it did. -/
def fnExactSkewJoinUptoRow : OpenClaim := { program := "ytgdbpckobngmjaa", sum := "9f6a553eb8e75dab1bbdc62ebe5bb263fd033e42ec90ecab56fe83da50f41b49", func := "loop.example/g00630/laws.FnExactSkewJoin", spec := "fnExactSkewJoin", unfollowed := true, recurses := true, apart := false, narrowed := true }
def FnExactSkewJoinUptoSaid : Prop := fnExactSkewJoinUptoRow.holds Try.pinned (OpenSpec.upto fnExactSkewJoinSpec)

/-- 'laws.FnExactCogrouped', WHERE WHAT IT READS IS OF BULK AT MOST 1048576: true; the input reads as it did. -/
def fnExactCogroupedUptoRow : OpenClaim := { program := "ytgdbpckobngmjaa", sum := "9f6a553eb8e75dab1bbdc62ebe5bb263fd033e42ec90ecab56fe83da50f41b49", func := "loop.example/g00630/laws.FnExactCogrouped", spec := "fnExactCogrouped", unfollowed := true, recurses := true, apart := false, narrowed := true }
def FnExactCogroupedUptoSaid : Prop := fnExactCogroupedUptoRow.holds Try.pinned (OpenSpec.upto fnExactCogroupedSpec)

/-- 'laws.FnCoTwo', WHERE WHAT IT READS IS OF BULK AT MOST 1048576: true; the input reads as it did. -/
def fnCoTwoUptoRow : OpenClaim := { program := "ytgdbpckobngmjaa", sum := "9f6a553eb8e75dab1bbdc62ebe5bb263fd033e42ec90ecab56fe83da50f41b49", func := "loop.example/g00630/laws.FnCoTwo", spec := "fnCoTwo", unfollowed := true, recurses := true, apart := false, narrowed := true }
def FnCoTwoUptoSaid : Prop := fnCoTwoUptoRow.holds Try.pinned (OpenSpec.upto fnCoTwoSpec)

end Rows
end Go.Proofs.Ytgdbpckobngmjaa
