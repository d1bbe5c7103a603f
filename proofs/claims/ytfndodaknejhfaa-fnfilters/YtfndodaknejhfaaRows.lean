/-
  No cell of these rows narrows 'for every input' (looked for: loops, veiled, ifaces, maps, wideKeys, modest, calm, conditions, laid).
  DERIVED. THE GIVEN ROWS OF THIS SEAT. 12 by the template 'for every input the law returns true; each argument reads behind the call as it read before'; 0 by the template 'total and deterministic' (their statements: YtfndodaknejhfaaTotals.lean).
  GIVEN WITH THE SEED: the statements are not yours to turn. If you find one false, say at which input.
  Laid BY PROGRAM, IN A SANDBOX (cutbox-rows.mjs): the forced cells as the released guide's own fill.sh prints them over the translation 4761c40addee964d… (all of the seat's roots in one cut). By AI agents, Wed Nov 11 2026. No macro, syntax, notation, axiom, sorry.
-/
import Derived.Test.YtfndodaknejhfaaChecked
import GoSem.Claim
import GoSem.ClaimJoined
import GoSem.ClaimMapViews
import Derived.JoinedTies
import Derived.KernelRfl
namespace Go.Proofs.Ytfndodaknejhfaa
/- THE CELL 'sum', in the pinned program and in every row, IS THE sha256 OF THE DUMP (.gsa) THAT YtfndodaknejhfaaProg.lean LOADS. Nothing in Lean hashes anything: it is a label: what it is worth is what the hold of that sum in a sandbox is worth. -/
noncomputable def Try.pinned : Pinned := { name := "ytfndodaknejhfaa", sum := "4761c40addee964da4ef8b92a1c1dd1175c927249d00be18141c647359900530", checked := Try.checked }
namespace Rows
def none {H : Type} : Left H := { results := [], args := [] }

/-- 'laws.FnInner': WHATEVER THE INPUT: true; the input reads as it did. -/
def fnInnerSpec : ChangeSpec := { name := "fnInner", fn := fun _ => fun
  | [d] => { results := [.lit (.bool true)], args := [d] }
  | _ => none }
def fnInnerRow : OpenClaim := { program := "ytfndodaknejhfaa", sum := "4761c40addee964da4ef8b92a1c1dd1175c927249d00be18141c647359900530", func := "loop.example/g00630/laws.FnInner", spec := "fnInner", unfollowed := true, recurses := true, apart := false }
def FnInnerSaid : Prop := fnInnerRow.holds Try.pinned (OpenSpec.ofChange fnInnerSpec)

/-- ITS FALSE NEIGHBOUR: 'it returns false'. Refute it at one input. -/
def fnInnerWrong : ChangeSpec := { name := "fnInner", fn := fun _ => fun
  | [d] => { results := [.lit (.bool false)], args := [d] }
  | _ => none }
def FnInnerWrongFalsely : Prop := fnInnerRow.holds Try.pinned (OpenSpec.ofChange fnInnerWrong)

/-- 'laws.FnFilters': WHATEVER THE INPUT: true; the input reads as it did. -/
def fnFiltersSpec : ChangeSpec := { name := "fnFilters", fn := fun _ => fun
  | [d] => { results := [.lit (.bool true)], args := [d] }
  | _ => none }
def fnFiltersRow : OpenClaim := { program := "ytfndodaknejhfaa", sum := "4761c40addee964da4ef8b92a1c1dd1175c927249d00be18141c647359900530", func := "loop.example/g00630/laws.FnFilters", spec := "fnFilters", apart := false }
def FnFiltersSaid : Prop := fnFiltersRow.holds Try.pinned (OpenSpec.ofChange fnFiltersSpec)

/-- ITS FALSE NEIGHBOUR: 'it returns false'. Refute it at one input. -/
def fnFiltersWrong : ChangeSpec := { name := "fnFilters", fn := fun _ => fun
  | [d] => { results := [.lit (.bool false)], args := [d] }
  | _ => none }
def FnFiltersWrongFalsely : Prop := fnFiltersRow.holds Try.pinned (OpenSpec.ofChange fnFiltersWrong)

/-- 'laws.FnExactRunsOf': WHATEVER THE INPUT: true; the input reads as it did. -/
def fnExactRunsOfSpec : ChangeSpec := { name := "fnExactRunsOf", fn := fun _ => fun
  | [d1, d2] => { results := [.lit (.bool true)], args := [d1, d2] }
  | _ => none }
def fnExactRunsOfRow : OpenClaim := { program := "ytfndodaknejhfaa", sum := "4761c40addee964da4ef8b92a1c1dd1175c927249d00be18141c647359900530", func := "loop.example/g00630/laws.FnExactRunsOf", spec := "fnExactRunsOf", unfollowed := true, recurses := true, apart := false }
def FnExactRunsOfSaid : Prop := fnExactRunsOfRow.holds Try.pinned (OpenSpec.ofChange fnExactRunsOfSpec)

/-- ITS FALSE NEIGHBOUR: 'it returns false'. Refute it at one input. -/
def fnExactRunsOfWrong : ChangeSpec := { name := "fnExactRunsOf", fn := fun _ => fun
  | [d1, d2] => { results := [.lit (.bool false)], args := [d1, d2] }
  | _ => none }
def FnExactRunsOfWrongFalsely : Prop := fnExactRunsOfRow.holds Try.pinned (OpenSpec.ofChange fnExactRunsOfWrong)

/-- 'laws.FnExactMergedRuns': WHATEVER THE INPUT: true; the input reads as it did. -/
def fnExactMergedRunsSpec : ChangeSpec := { name := "fnExactMergedRuns", fn := fun _ => fun
  | [d] => { results := [.lit (.bool true)], args := [d] }
  | _ => none }
def fnExactMergedRunsRow : OpenClaim := { program := "ytfndodaknejhfaa", sum := "4761c40addee964da4ef8b92a1c1dd1175c927249d00be18141c647359900530", func := "loop.example/g00630/laws.FnExactMergedRuns", spec := "fnExactMergedRuns", unfollowed := true, recurses := true, apart := false }
def FnExactMergedRunsSaid : Prop := fnExactMergedRunsRow.holds Try.pinned (OpenSpec.ofChange fnExactMergedRunsSpec)

/-- ITS FALSE NEIGHBOUR: 'it returns false'. Refute it at one input. -/
def fnExactMergedRunsWrong : ChangeSpec := { name := "fnExactMergedRuns", fn := fun _ => fun
  | [d] => { results := [.lit (.bool false)], args := [d] }
  | _ => none }
def FnExactMergedRunsWrongFalsely : Prop := fnExactMergedRunsRow.holds Try.pinned (OpenSpec.ofChange fnExactMergedRunsWrong)

/-- 'laws.FnExactFewerRuns': WHATEVER THE INPUT: true; the input reads as it did. -/
def fnExactFewerRunsSpec : ChangeSpec := { name := "fnExactFewerRuns", fn := fun _ => fun
  | [d1, d2] => { results := [.lit (.bool true)], args := [d1, d2] }
  | _ => none }
def fnExactFewerRunsRow : OpenClaim := { program := "ytfndodaknejhfaa", sum := "4761c40addee964da4ef8b92a1c1dd1175c927249d00be18141c647359900530", func := "loop.example/g00630/laws.FnExactFewerRuns", spec := "fnExactFewerRuns", unfollowed := true, recurses := true, apart := false }
def FnExactFewerRunsSaid : Prop := fnExactFewerRunsRow.holds Try.pinned (OpenSpec.ofChange fnExactFewerRunsSpec)

/-- ITS FALSE NEIGHBOUR: 'it returns false'. Refute it at one input. -/
def fnExactFewerRunsWrong : ChangeSpec := { name := "fnExactFewerRuns", fn := fun _ => fun
  | [d1, d2] => { results := [.lit (.bool false)], args := [d1, d2] }
  | _ => none }
def FnExactFewerRunsWrongFalsely : Prop := fnExactFewerRunsRow.holds Try.pinned (OpenSpec.ofChange fnExactFewerRunsWrong)

/-- 'laws.FnExactGroupsOf': WHATEVER THE INPUT: true; the input reads as it did. -/
def fnExactGroupsOfSpec : ChangeSpec := { name := "fnExactGroupsOf", fn := fun _ => fun
  | [d] => { results := [.lit (.bool true)], args := [d] }
  | _ => none }
def fnExactGroupsOfRow : OpenClaim := { program := "ytfndodaknejhfaa", sum := "4761c40addee964da4ef8b92a1c1dd1175c927249d00be18141c647359900530", func := "loop.example/g00630/laws.FnExactGroupsOf", spec := "fnExactGroupsOf", unfollowed := true, recurses := true, apart := false }
def FnExactGroupsOfSaid : Prop := fnExactGroupsOfRow.holds Try.pinned (OpenSpec.ofChange fnExactGroupsOfSpec)

/-- ITS FALSE NEIGHBOUR: 'it returns false'. Refute it at one input. -/
def fnExactGroupsOfWrong : ChangeSpec := { name := "fnExactGroupsOf", fn := fun _ => fun
  | [d] => { results := [.lit (.bool false)], args := [d] }
  | _ => none }
def FnExactGroupsOfWrongFalsely : Prop := fnExactGroupsOfRow.holds Try.pinned (OpenSpec.ofChange fnExactGroupsOfWrong)

/-- 'laws.FnExactUngrouped': WHATEVER THE INPUT: true; the input reads as it did. -/
def fnExactUngroupedSpec : ChangeSpec := { name := "fnExactUngrouped", fn := fun _ => fun
  | [d] => { results := [.lit (.bool true)], args := [d] }
  | _ => none }
def fnExactUngroupedRow : OpenClaim := { program := "ytfndodaknejhfaa", sum := "4761c40addee964da4ef8b92a1c1dd1175c927249d00be18141c647359900530", func := "loop.example/g00630/laws.FnExactUngrouped", spec := "fnExactUngrouped", unfollowed := true, recurses := true, apart := false }
def FnExactUngroupedSaid : Prop := fnExactUngroupedRow.holds Try.pinned (OpenSpec.ofChange fnExactUngroupedSpec)

/-- ITS FALSE NEIGHBOUR: 'it returns false'. Refute it at one input. -/
def fnExactUngroupedWrong : ChangeSpec := { name := "fnExactUngrouped", fn := fun _ => fun
  | [d] => { results := [.lit (.bool false)], args := [d] }
  | _ => none }
def FnExactUngroupedWrongFalsely : Prop := fnExactUngroupedRow.holds Try.pinned (OpenSpec.ofChange fnExactUngroupedWrong)

/-- 'laws.FnExactFirstOf': WHATEVER THE INPUT: true; the input reads as it did. -/
def fnExactFirstOfSpec : ChangeSpec := { name := "fnExactFirstOf", fn := fun _ => fun
  | [d1, d2] => { results := [.lit (.bool true)], args := [d1, d2] }
  | _ => none }
def fnExactFirstOfRow : OpenClaim := { program := "ytfndodaknejhfaa", sum := "4761c40addee964da4ef8b92a1c1dd1175c927249d00be18141c647359900530", func := "loop.example/g00630/laws.FnExactFirstOf", spec := "fnExactFirstOf", unfollowed := true, recurses := true, apart := false }
def FnExactFirstOfSaid : Prop := fnExactFirstOfRow.holds Try.pinned (OpenSpec.ofChange fnExactFirstOfSpec)

/-- ITS FALSE NEIGHBOUR: 'it returns false'. Refute it at one input. -/
def fnExactFirstOfWrong : ChangeSpec := { name := "fnExactFirstOf", fn := fun _ => fun
  | [d1, d2] => { results := [.lit (.bool false)], args := [d1, d2] }
  | _ => none }
def FnExactFirstOfWrongFalsely : Prop := fnExactFirstOfRow.holds Try.pinned (OpenSpec.ofChange fnExactFirstOfWrong)

/-- 'laws.FnExactJoinOf': WHATEVER THE INPUT: true; the input reads as it did. -/
def fnExactJoinOfSpec : ChangeSpec := { name := "fnExactJoinOf", fn := fun _ => fun
  | [d1, d2, d3] => { results := [.lit (.bool true)], args := [d1, d2, d3] }
  | _ => none }
def fnExactJoinOfRow : OpenClaim := { program := "ytfndodaknejhfaa", sum := "4761c40addee964da4ef8b92a1c1dd1175c927249d00be18141c647359900530", func := "loop.example/g00630/laws.FnExactJoinOf", spec := "fnExactJoinOf", unfollowed := true, recurses := true, apart := false }
def FnExactJoinOfSaid : Prop := fnExactJoinOfRow.holds Try.pinned (OpenSpec.ofChange fnExactJoinOfSpec)

/-- ITS FALSE NEIGHBOUR: 'it returns false'. Refute it at one input. -/
def fnExactJoinOfWrong : ChangeSpec := { name := "fnExactJoinOf", fn := fun _ => fun
  | [d1, d2, d3] => { results := [.lit (.bool false)], args := [d1, d2, d3] }
  | _ => none }
def FnExactJoinOfWrongFalsely : Prop := fnExactJoinOfRow.holds Try.pinned (OpenSpec.ofChange fnExactJoinOfWrong)

/-- 'laws.FnExactMergeJoin': WHATEVER THE INPUT: true; the input reads as it did. -/
def fnExactMergeJoinSpec : ChangeSpec := { name := "fnExactMergeJoin", fn := fun _ => fun
  | [d1, d2, d3] => { results := [.lit (.bool true)], args := [d1, d2, d3] }
  | _ => none }
def fnExactMergeJoinRow : OpenClaim := { program := "ytfndodaknejhfaa", sum := "4761c40addee964da4ef8b92a1c1dd1175c927249d00be18141c647359900530", func := "loop.example/g00630/laws.FnExactMergeJoin", spec := "fnExactMergeJoin", unfollowed := true, recurses := true, apart := false }
def FnExactMergeJoinSaid : Prop := fnExactMergeJoinRow.holds Try.pinned (OpenSpec.ofChange fnExactMergeJoinSpec)

/-- ITS FALSE NEIGHBOUR: 'it returns false'. Refute it at one input. -/
def fnExactMergeJoinWrong : ChangeSpec := { name := "fnExactMergeJoin", fn := fun _ => fun
  | [d1, d2, d3] => { results := [.lit (.bool false)], args := [d1, d2, d3] }
  | _ => none }
def FnExactMergeJoinWrongFalsely : Prop := fnExactMergeJoinRow.holds Try.pinned (OpenSpec.ofChange fnExactMergeJoinWrong)

/-- 'laws.FnExactTotalsOk': WHATEVER THE INPUT: true; the input reads as it did. -/
def fnExactTotalsOkSpec : ChangeSpec := { name := "fnExactTotalsOk", fn := fun _ => fun
  | [d] => { results := [.lit (.bool true)], args := [d] }
  | _ => none }
def fnExactTotalsOkRow : OpenClaim := { program := "ytfndodaknejhfaa", sum := "4761c40addee964da4ef8b92a1c1dd1175c927249d00be18141c647359900530", func := "loop.example/g00630/laws.FnExactTotalsOk", spec := "fnExactTotalsOk", apart := false }
def FnExactTotalsOkSaid : Prop := fnExactTotalsOkRow.holds Try.pinned (OpenSpec.ofChange fnExactTotalsOkSpec)

/-- ITS FALSE NEIGHBOUR: 'it returns false'. Refute it at one input. -/
def fnExactTotalsOkWrong : ChangeSpec := { name := "fnExactTotalsOk", fn := fun _ => fun
  | [d] => { results := [.lit (.bool false)], args := [d] }
  | _ => none }
def FnExactTotalsOkWrongFalsely : Prop := fnExactTotalsOkRow.holds Try.pinned (OpenSpec.ofChange fnExactTotalsOkWrong)

/-- 'laws.FnExactCombined': WHATEVER THE INPUT: true; the input reads as it did. -/
def fnExactCombinedSpec : ChangeSpec := { name := "fnExactCombined", fn := fun _ => fun
  | [d1, d2, d3] => { results := [.lit (.bool true)], args := [d1, d2, d3] }
  | _ => none }
def fnExactCombinedRow : OpenClaim := { program := "ytfndodaknejhfaa", sum := "4761c40addee964da4ef8b92a1c1dd1175c927249d00be18141c647359900530", func := "loop.example/g00630/laws.FnExactCombined", spec := "fnExactCombined", unfollowed := true, recurses := true, apart := false }
def FnExactCombinedSaid : Prop := fnExactCombinedRow.holds Try.pinned (OpenSpec.ofChange fnExactCombinedSpec)

/-- ITS FALSE NEIGHBOUR: 'it returns false'. Refute it at one input. -/
def fnExactCombinedWrong : ChangeSpec := { name := "fnExactCombined", fn := fun _ => fun
  | [d1, d2, d3] => { results := [.lit (.bool false)], args := [d1, d2, d3] }
  | _ => none }
def FnExactCombinedWrongFalsely : Prop := fnExactCombinedRow.holds Try.pinned (OpenSpec.ofChange fnExactCombinedWrong)

/- THE SECOND FORM. 'bulk': how many values and letters a reading holds, each counted each time it is reached (what is shared counts as often as it is met; a slice's spare places count too). A statement '..UptoSaid' is the law's where the arguments, and the package variables that the reading takes, are together of bulk at most 1048576: NARROWER than '..Said'. Prove '..Said' where nothing that the law and all that it calls make is longer than what came in: it says more and counts as full. Else prove '..UptoSaid'. A law counts once. -/
mutual
def uptoBulk {H : Type} : DataW H → Nat
  | .lit (.string bytes) => bytes.length + 1
  | .lit _ => 1
  | .nil => 1
  | .ptr d => uptoBulk d + 1
  | .slice elems spare => uptoBulkAll elems + uptoBulkAll spare + 1
  | .agg parts => uptoBulkAll parts + 1
  | .iface _ d => uptoBulk d + 1
  | .map entries => uptoBulkEntries entries + 1
  | .held _ => 1
def uptoBulkAll {H : Type} : List (DataW H) → Nat
  | [] => 0
  | d :: r => uptoBulk d + uptoBulkAll r
def uptoBulkEntries {H : Type} : List (Lit × DataW H) → Nat
  | [] => 0
  | x :: r => uptoBulkEntry x + uptoBulkEntries r
def uptoBulkEntry {H : Type} : Lit × DataW H → Nat
  | (.string bytes, d) => bytes.length + uptoBulk d + 1
  | (_, d) => uptoBulk d + 1
 end
def uptoSmall : (H : Type) → List (DataW H) → Bool := fun _ ds => decide (uptoBulkAll ds ≤ 1048576)
def OpenSpec.upto (s : _root_.Go.ChangeSpec) : _root_.Go.OpenSpec := { _root_.Go.OpenSpec.ofChange s with cond := some uptoSmall }

/-- 'laws.FnInner', WHERE WHAT IT READS IS OF BULK AT MOST 1048576: true; the input reads as it did. -/
def fnInnerUptoRow : OpenClaim := { program := "ytfndodaknejhfaa", sum := "4761c40addee964da4ef8b92a1c1dd1175c927249d00be18141c647359900530", func := "loop.example/g00630/laws.FnInner", spec := "fnInner", unfollowed := true, recurses := true, apart := false, narrowed := true }
def FnInnerUptoSaid : Prop := fnInnerUptoRow.holds Try.pinned (OpenSpec.upto fnInnerSpec)

/-- 'laws.FnFilters', WHERE WHAT IT READS IS OF BULK AT MOST 1048576: true; the input reads as it did. -/
def fnFiltersUptoRow : OpenClaim := { program := "ytfndodaknejhfaa", sum := "4761c40addee964da4ef8b92a1c1dd1175c927249d00be18141c647359900530", func := "loop.example/g00630/laws.FnFilters", spec := "fnFilters", apart := false, narrowed := true }
def FnFiltersUptoSaid : Prop := fnFiltersUptoRow.holds Try.pinned (OpenSpec.upto fnFiltersSpec)

/-- 'laws.FnExactRunsOf', WHERE WHAT IT READS IS OF BULK AT MOST 1048576: true; the input reads as it did. -/
def fnExactRunsOfUptoRow : OpenClaim := { program := "ytfndodaknejhfaa", sum := "4761c40addee964da4ef8b92a1c1dd1175c927249d00be18141c647359900530", func := "loop.example/g00630/laws.FnExactRunsOf", spec := "fnExactRunsOf", unfollowed := true, recurses := true, apart := false, narrowed := true }
def FnExactRunsOfUptoSaid : Prop := fnExactRunsOfUptoRow.holds Try.pinned (OpenSpec.upto fnExactRunsOfSpec)

/-- 'laws.FnExactMergedRuns', WHERE WHAT IT READS IS OF BULK AT MOST 1048576: true; the input reads as it did. -/
def fnExactMergedRunsUptoRow : OpenClaim := { program := "ytfndodaknejhfaa", sum := "4761c40addee964da4ef8b92a1c1dd1175c927249d00be18141c647359900530", func := "loop.example/g00630/laws.FnExactMergedRuns", spec := "fnExactMergedRuns", unfollowed := true, recurses := true, apart := false, narrowed := true }
def FnExactMergedRunsUptoSaid : Prop := fnExactMergedRunsUptoRow.holds Try.pinned (OpenSpec.upto fnExactMergedRunsSpec)

/-- 'laws.FnExactFewerRuns', WHERE WHAT IT READS IS OF BULK AT MOST 1048576: true; the input reads as it did. -/
def fnExactFewerRunsUptoRow : OpenClaim := { program := "ytfndodaknejhfaa", sum := "4761c40addee964da4ef8b92a1c1dd1175c927249d00be18141c647359900530", func := "loop.example/g00630/laws.FnExactFewerRuns", spec := "fnExactFewerRuns", unfollowed := true, recurses := true, apart := false, narrowed := true }
def FnExactFewerRunsUptoSaid : Prop := fnExactFewerRunsUptoRow.holds Try.pinned (OpenSpec.upto fnExactFewerRunsSpec)

/-- 'laws.FnExactGroupsOf', WHERE WHAT IT READS IS OF BULK AT MOST 1048576: true; the input reads as it did. -/
def fnExactGroupsOfUptoRow : OpenClaim := { program := "ytfndodaknejhfaa", sum := "4761c40addee964da4ef8b92a1c1dd1175c927249d00be18141c647359900530", func := "loop.example/g00630/laws.FnExactGroupsOf", spec := "fnExactGroupsOf", unfollowed := true, recurses := true, apart := false, narrowed := true }
def FnExactGroupsOfUptoSaid : Prop := fnExactGroupsOfUptoRow.holds Try.pinned (OpenSpec.upto fnExactGroupsOfSpec)

/-- 'laws.FnExactUngrouped', WHERE WHAT IT READS IS OF BULK AT MOST 1048576: true; the input reads as it did. -/
def fnExactUngroupedUptoRow : OpenClaim := { program := "ytfndodaknejhfaa", sum := "4761c40addee964da4ef8b92a1c1dd1175c927249d00be18141c647359900530", func := "loop.example/g00630/laws.FnExactUngrouped", spec := "fnExactUngrouped", unfollowed := true, recurses := true, apart := false, narrowed := true }
def FnExactUngroupedUptoSaid : Prop := fnExactUngroupedUptoRow.holds Try.pinned (OpenSpec.upto fnExactUngroupedSpec)

/-- 'laws.FnExactFirstOf', WHERE WHAT IT READS IS OF BULK AT MOST 1048576: true; the input reads as it did. -/
def fnExactFirstOfUptoRow : OpenClaim := { program := "ytfndodaknejhfaa", sum := "4761c40addee964da4ef8b92a1c1dd1175c927249d00be18141c647359900530", func := "loop.example/g00630/laws.FnExactFirstOf", spec := "fnExactFirstOf", unfollowed := true, recurses := true, apart := false, narrowed := true }
def FnExactFirstOfUptoSaid : Prop := fnExactFirstOfUptoRow.holds Try.pinned (OpenSpec.upto fnExactFirstOfSpec)

/-- 'laws.FnExactJoinOf', WHERE WHAT IT READS IS OF BULK AT MOST 1048576: true; the input reads as it did. -/
def fnExactJoinOfUptoRow : OpenClaim := { program := "ytfndodaknejhfaa", sum := "4761c40addee964da4ef8b92a1c1dd1175c927249d00be18141c647359900530", func := "loop.example/g00630/laws.FnExactJoinOf", spec := "fnExactJoinOf", unfollowed := true, recurses := true, apart := false, narrowed := true }
def FnExactJoinOfUptoSaid : Prop := fnExactJoinOfUptoRow.holds Try.pinned (OpenSpec.upto fnExactJoinOfSpec)

/-- 'laws.FnExactMergeJoin', WHERE WHAT IT READS IS OF BULK AT MOST 1048576: true; the input reads as it did. -/
def fnExactMergeJoinUptoRow : OpenClaim := { program := "ytfndodaknejhfaa", sum := "4761c40addee964da4ef8b92a1c1dd1175c927249d00be18141c647359900530", func := "loop.example/g00630/laws.FnExactMergeJoin", spec := "fnExactMergeJoin", unfollowed := true, recurses := true, apart := false, narrowed := true }
def FnExactMergeJoinUptoSaid : Prop := fnExactMergeJoinUptoRow.holds Try.pinned (OpenSpec.upto fnExactMergeJoinSpec)

/-- 'laws.FnExactTotalsOk', WHERE WHAT IT READS IS OF BULK AT MOST 1048576: true; the input reads as it did. -/
def fnExactTotalsOkUptoRow : OpenClaim := { program := "ytfndodaknejhfaa", sum := "4761c40addee964da4ef8b92a1c1dd1175c927249d00be18141c647359900530", func := "loop.example/g00630/laws.FnExactTotalsOk", spec := "fnExactTotalsOk", apart := false, narrowed := true }
def FnExactTotalsOkUptoSaid : Prop := fnExactTotalsOkUptoRow.holds Try.pinned (OpenSpec.upto fnExactTotalsOkSpec)

/-- 'laws.FnExactCombined', WHERE WHAT IT READS IS OF BULK AT MOST 1048576: true; the input reads as it did. -/
def fnExactCombinedUptoRow : OpenClaim := { program := "ytfndodaknejhfaa", sum := "4761c40addee964da4ef8b92a1c1dd1175c927249d00be18141c647359900530", func := "loop.example/g00630/laws.FnExactCombined", spec := "fnExactCombined", unfollowed := true, recurses := true, apart := false, narrowed := true }
def FnExactCombinedUptoSaid : Prop := fnExactCombinedUptoRow.holds Try.pinned (OpenSpec.upto fnExactCombinedSpec)

end Rows
end Go.Proofs.Ytfndodaknejhfaa
