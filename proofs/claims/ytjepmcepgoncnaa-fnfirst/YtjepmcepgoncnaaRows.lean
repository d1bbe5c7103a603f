/-
  No cell of these rows narrows 'for every input' (looked for: loops, veiled, ifaces, maps, wideKeys, modest, calm, conditions, laid).
  DERIVED. THE GIVEN ROWS OF THIS SEAT. 12 by the template 'for every input the law returns true; each argument reads behind the call as it read before'; 0 by the template 'total and deterministic' (their statements: YtjepmcepgoncnaaTotals.lean).
  GIVEN WITH THE SEED: the statements are not yours to turn. If you find one false, say at which input.
  Laid BY PROGRAM, IN A SANDBOX (cutbox-rows.mjs): the forced cells as the released guide's own fill.sh prints them over the translation 39bfd6d1fe2118a5… (all of the seat's roots in one cut). By AI agents, Wed Nov 11 2026. No macro, syntax, notation, axiom, sorry.
-/
import Derived.Test.YtjepmcepgoncnaaChecked
import GoSem.Claim
import GoSem.ClaimJoined
import GoSem.ClaimMapViews
import Derived.JoinedTies
import Derived.KernelRfl
namespace Go.Proofs.Ytjepmcepgoncnaa
/- THE CELL 'sum', in the pinned program and in every row, IS THE sha256 OF THE DUMP (.gsa) THAT YtjepmcepgoncnaaProg.lean LOADS. Nothing in Lean hashes anything: it is a label: what it is worth is what the hold of that sum in a sandbox is worth. -/
noncomputable def Try.pinned : Pinned := { name := "ytjepmcepgoncnaa", sum := "39bfd6d1fe2118a5598a1bed2758374bccff592fa927171c448156d4d7867e1c", checked := Try.checked }
namespace Rows
def none {H : Type} : Left H := { results := [], args := [] }

/-- 'laws.FnExactFirstOf': WHATEVER THE INPUT: true; the input reads as it did. -/
def fnExactFirstOfSpec : ChangeSpec := { name := "fnExactFirstOf", fn := fun _ => fun
  | [d1, d2] => { results := [.lit (.bool true)], args := [d1, d2] }
  | _ => none }
def fnExactFirstOfRow : OpenClaim := { program := "ytjepmcepgoncnaa", sum := "39bfd6d1fe2118a5598a1bed2758374bccff592fa927171c448156d4d7867e1c", func := "loop.example/g00630/laws.FnExactFirstOf", spec := "fnExactFirstOf", unfollowed := true, recurses := true, apart := false }
def FnExactFirstOfSaid : Prop := fnExactFirstOfRow.holds Try.pinned (OpenSpec.ofChange fnExactFirstOfSpec)

/-- ITS FALSE NEIGHBOUR: 'it returns false'. Refute it at one input. -/
def fnExactFirstOfWrong : ChangeSpec := { name := "fnExactFirstOf", fn := fun _ => fun
  | [d1, d2] => { results := [.lit (.bool false)], args := [d1, d2] }
  | _ => none }
def FnExactFirstOfWrongFalsely : Prop := fnExactFirstOfRow.holds Try.pinned (OpenSpec.ofChange fnExactFirstOfWrong)

/-- 'laws.FnFirst': WHATEVER THE INPUT: true; the input reads as it did. -/
def fnFirstSpec : ChangeSpec := { name := "fnFirst", fn := fun _ => fun
  | [d] => { results := [.lit (.bool true)], args := [d] }
  | _ => none }
def fnFirstRow : OpenClaim := { program := "ytjepmcepgoncnaa", sum := "39bfd6d1fe2118a5598a1bed2758374bccff592fa927171c448156d4d7867e1c", func := "loop.example/g00630/laws.FnFirst", spec := "fnFirst", unfollowed := true, recurses := true, apart := false }
def FnFirstSaid : Prop := fnFirstRow.holds Try.pinned (OpenSpec.ofChange fnFirstSpec)

/-- ITS FALSE NEIGHBOUR: 'it returns false'. Refute it at one input. -/
def fnFirstWrong : ChangeSpec := { name := "fnFirst", fn := fun _ => fun
  | [d] => { results := [.lit (.bool false)], args := [d] }
  | _ => none }
def FnFirstWrongFalsely : Prop := fnFirstRow.holds Try.pinned (OpenSpec.ofChange fnFirstWrong)

/-- 'laws.FnExactSkewed': WHATEVER THE INPUT: true; the input reads as it did. -/
def fnExactSkewedSpec : ChangeSpec := { name := "fnExactSkewed", fn := fun _ => fun
  | [d1, d2] => { results := [.lit (.bool true)], args := [d1, d2] }
  | _ => none }
def fnExactSkewedRow : OpenClaim := { program := "ytjepmcepgoncnaa", sum := "39bfd6d1fe2118a5598a1bed2758374bccff592fa927171c448156d4d7867e1c", func := "loop.example/g00630/laws.FnExactSkewed", spec := "fnExactSkewed", unfollowed := true, recurses := true, apart := false }
def FnExactSkewedSaid : Prop := fnExactSkewedRow.holds Try.pinned (OpenSpec.ofChange fnExactSkewedSpec)

/-- ITS FALSE NEIGHBOUR: 'it returns false'. Refute it at one input. -/
def fnExactSkewedWrong : ChangeSpec := { name := "fnExactSkewed", fn := fun _ => fun
  | [d1, d2] => { results := [.lit (.bool false)], args := [d1, d2] }
  | _ => none }
def FnExactSkewedWrongFalsely : Prop := fnExactSkewedRow.holds Try.pinned (OpenSpec.ofChange fnExactSkewedWrong)

/-- 'laws.FnExactSkewJoin': WHATEVER THE INPUT: true; the input reads as it did. -/
def fnExactSkewJoinSpec : ChangeSpec := { name := "fnExactSkewJoin", fn := fun _ => fun
  | [d1, d2, d3] => { results := [.lit (.bool true)], args := [d1, d2, d3] }
  | _ => none }
def fnExactSkewJoinRow : OpenClaim := { program := "ytjepmcepgoncnaa", sum := "39bfd6d1fe2118a5598a1bed2758374bccff592fa927171c448156d4d7867e1c", func := "loop.example/g00630/laws.FnExactSkewJoin", spec := "fnExactSkewJoin", unfollowed := true, recurses := true, apart := false }
def FnExactSkewJoinSaid : Prop := fnExactSkewJoinRow.holds Try.pinned (OpenSpec.ofChange fnExactSkewJoinSpec)

/-- ITS FALSE NEIGHBOUR: 'it returns false'. Refute it at one input. -/
def fnExactSkewJoinWrong : ChangeSpec := { name := "fnExactSkewJoin", fn := fun _ => fun
  | [d1, d2, d3] => { results := [.lit (.bool false)], args := [d1, d2, d3] }
  | _ => none }
def FnExactSkewJoinWrongFalsely : Prop := fnExactSkewJoinRow.holds Try.pinned (OpenSpec.ofChange fnExactSkewJoinWrong)

/-- 'laws.FnExactChained': WHATEVER THE INPUT: true; the input reads as it did. -/
def fnExactChainedSpec : ChangeSpec := { name := "fnExactChained", fn := fun _ => fun
  | [d1, d2, d3] => { results := [.lit (.bool true)], args := [d1, d2, d3] }
  | _ => none }
def fnExactChainedRow : OpenClaim := { program := "ytjepmcepgoncnaa", sum := "39bfd6d1fe2118a5598a1bed2758374bccff592fa927171c448156d4d7867e1c", func := "loop.example/g00630/laws.FnExactChained", spec := "fnExactChained", unfollowed := true, recurses := true, apart := false }
def FnExactChainedSaid : Prop := fnExactChainedRow.holds Try.pinned (OpenSpec.ofChange fnExactChainedSpec)

/-- ITS FALSE NEIGHBOUR: 'it returns false'. Refute it at one input. -/
def fnExactChainedWrong : ChangeSpec := { name := "fnExactChained", fn := fun _ => fun
  | [d1, d2, d3] => { results := [.lit (.bool false)], args := [d1, d2, d3] }
  | _ => none }
def FnExactChainedWrongFalsely : Prop := fnExactChainedRow.holds Try.pinned (OpenSpec.ofChange fnExactChainedWrong)

/-- 'laws.FnSkewLess': WHATEVER THE INPUT: true; the input reads as it did. -/
def fnSkewLessSpec : ChangeSpec := { name := "fnSkewLess", fn := fun _ => fun
  | [d] => { results := [.lit (.bool true)], args := [d] }
  | _ => none }
def fnSkewLessRow : OpenClaim := { program := "ytjepmcepgoncnaa", sum := "39bfd6d1fe2118a5598a1bed2758374bccff592fa927171c448156d4d7867e1c", func := "loop.example/g00630/laws.FnSkewLess", spec := "fnSkewLess", unfollowed := true, recurses := true, apart := false }
def FnSkewLessSaid : Prop := fnSkewLessRow.holds Try.pinned (OpenSpec.ofChange fnSkewLessSpec)

/-- ITS FALSE NEIGHBOUR: 'it returns false'. Refute it at one input. -/
def fnSkewLessWrong : ChangeSpec := { name := "fnSkewLess", fn := fun _ => fun
  | [d] => { results := [.lit (.bool false)], args := [d] }
  | _ => none }
def FnSkewLessWrongFalsely : Prop := fnSkewLessRow.holds Try.pinned (OpenSpec.ofChange fnSkewLessWrong)

/-- 'laws.FnChainTurned': WHATEVER THE INPUT: true; the input reads as it did. -/
def fnChainTurnedSpec : ChangeSpec := { name := "fnChainTurned", fn := fun _ => fun
  | [d] => { results := [.lit (.bool true)], args := [d] }
  | _ => none }
def fnChainTurnedRow : OpenClaim := { program := "ytjepmcepgoncnaa", sum := "39bfd6d1fe2118a5598a1bed2758374bccff592fa927171c448156d4d7867e1c", func := "loop.example/g00630/laws.FnChainTurned", spec := "fnChainTurned", unfollowed := true, recurses := true, apart := false }
def FnChainTurnedSaid : Prop := fnChainTurnedRow.holds Try.pinned (OpenSpec.ofChange fnChainTurnedSpec)

/-- ITS FALSE NEIGHBOUR: 'it returns false'. Refute it at one input. -/
def fnChainTurnedWrong : ChangeSpec := { name := "fnChainTurned", fn := fun _ => fun
  | [d] => { results := [.lit (.bool false)], args := [d] }
  | _ => none }
def FnChainTurnedWrongFalsely : Prop := fnChainTurnedRow.holds Try.pinned (OpenSpec.ofChange fnChainTurnedWrong)

/-- 'laws.FnExactRunsOf': WHATEVER THE INPUT: true; the input reads as it did. -/
def fnExactRunsOfSpec : ChangeSpec := { name := "fnExactRunsOf", fn := fun _ => fun
  | [d1, d2] => { results := [.lit (.bool true)], args := [d1, d2] }
  | _ => none }
def fnExactRunsOfRow : OpenClaim := { program := "ytjepmcepgoncnaa", sum := "39bfd6d1fe2118a5598a1bed2758374bccff592fa927171c448156d4d7867e1c", func := "loop.example/g00630/laws.FnExactRunsOf", spec := "fnExactRunsOf", unfollowed := true, recurses := true, apart := false }
def FnExactRunsOfSaid : Prop := fnExactRunsOfRow.holds Try.pinned (OpenSpec.ofChange fnExactRunsOfSpec)

/-- ITS FALSE NEIGHBOUR: 'it returns false'. Refute it at one input. -/
def fnExactRunsOfWrong : ChangeSpec := { name := "fnExactRunsOf", fn := fun _ => fun
  | [d1, d2] => { results := [.lit (.bool false)], args := [d1, d2] }
  | _ => none }
def FnExactRunsOfWrongFalsely : Prop := fnExactRunsOfRow.holds Try.pinned (OpenSpec.ofChange fnExactRunsOfWrong)

/-- 'laws.FnExactGroupsOf': WHATEVER THE INPUT: true; the input reads as it did. -/
def fnExactGroupsOfSpec : ChangeSpec := { name := "fnExactGroupsOf", fn := fun _ => fun
  | [d] => { results := [.lit (.bool true)], args := [d] }
  | _ => none }
def fnExactGroupsOfRow : OpenClaim := { program := "ytjepmcepgoncnaa", sum := "39bfd6d1fe2118a5598a1bed2758374bccff592fa927171c448156d4d7867e1c", func := "loop.example/g00630/laws.FnExactGroupsOf", spec := "fnExactGroupsOf", unfollowed := true, recurses := true, apart := false }
def FnExactGroupsOfSaid : Prop := fnExactGroupsOfRow.holds Try.pinned (OpenSpec.ofChange fnExactGroupsOfSpec)

/-- ITS FALSE NEIGHBOUR: 'it returns false'. Refute it at one input. -/
def fnExactGroupsOfWrong : ChangeSpec := { name := "fnExactGroupsOf", fn := fun _ => fun
  | [d] => { results := [.lit (.bool false)], args := [d] }
  | _ => none }
def FnExactGroupsOfWrongFalsely : Prop := fnExactGroupsOfRow.holds Try.pinned (OpenSpec.ofChange fnExactGroupsOfWrong)

/-- 'laws.FnExactUngrouped': WHATEVER THE INPUT: true; the input reads as it did. -/
def fnExactUngroupedSpec : ChangeSpec := { name := "fnExactUngrouped", fn := fun _ => fun
  | [d] => { results := [.lit (.bool true)], args := [d] }
  | _ => none }
def fnExactUngroupedRow : OpenClaim := { program := "ytjepmcepgoncnaa", sum := "39bfd6d1fe2118a5598a1bed2758374bccff592fa927171c448156d4d7867e1c", func := "loop.example/g00630/laws.FnExactUngrouped", spec := "fnExactUngrouped", unfollowed := true, recurses := true, apart := false }
def FnExactUngroupedSaid : Prop := fnExactUngroupedRow.holds Try.pinned (OpenSpec.ofChange fnExactUngroupedSpec)

/-- ITS FALSE NEIGHBOUR: 'it returns false'. Refute it at one input. -/
def fnExactUngroupedWrong : ChangeSpec := { name := "fnExactUngrouped", fn := fun _ => fun
  | [d] => { results := [.lit (.bool false)], args := [d] }
  | _ => none }
def FnExactUngroupedWrongFalsely : Prop := fnExactUngroupedRow.holds Try.pinned (OpenSpec.ofChange fnExactUngroupedWrong)

/-- 'laws.FnExactCogrouped': WHATEVER THE INPUT: true; the input reads as it did. -/
def fnExactCogroupedSpec : ChangeSpec := { name := "fnExactCogrouped", fn := fun _ => fun
  | [d1, d2, d3] => { results := [.lit (.bool true)], args := [d1, d2, d3] }
  | _ => none }
def fnExactCogroupedRow : OpenClaim := { program := "ytjepmcepgoncnaa", sum := "39bfd6d1fe2118a5598a1bed2758374bccff592fa927171c448156d4d7867e1c", func := "loop.example/g00630/laws.FnExactCogrouped", spec := "fnExactCogrouped", unfollowed := true, recurses := true, apart := false }
def FnExactCogroupedSaid : Prop := fnExactCogroupedRow.holds Try.pinned (OpenSpec.ofChange fnExactCogroupedSpec)

/-- ITS FALSE NEIGHBOUR: 'it returns false'. Refute it at one input. -/
def fnExactCogroupedWrong : ChangeSpec := { name := "fnExactCogrouped", fn := fun _ => fun
  | [d1, d2, d3] => { results := [.lit (.bool false)], args := [d1, d2, d3] }
  | _ => none }
def FnExactCogroupedWrongFalsely : Prop := fnExactCogroupedRow.holds Try.pinned (OpenSpec.ofChange fnExactCogroupedWrong)

/-- 'laws.FnGroups': WHATEVER THE INPUT: true; the input reads as it did. -/
def fnGroupsSpec : ChangeSpec := { name := "fnGroups", fn := fun _ => fun
  | [d] => { results := [.lit (.bool true)], args := [d] }
  | _ => none }
def fnGroupsRow : OpenClaim := { program := "ytjepmcepgoncnaa", sum := "39bfd6d1fe2118a5598a1bed2758374bccff592fa927171c448156d4d7867e1c", func := "loop.example/g00630/laws.FnGroups", spec := "fnGroups", unfollowed := true, recurses := true, apart := false }
def FnGroupsSaid : Prop := fnGroupsRow.holds Try.pinned (OpenSpec.ofChange fnGroupsSpec)

/-- ITS FALSE NEIGHBOUR: 'it returns false'. Refute it at one input. -/
def fnGroupsWrong : ChangeSpec := { name := "fnGroups", fn := fun _ => fun
  | [d] => { results := [.lit (.bool false)], args := [d] }
  | _ => none }
def FnGroupsWrongFalsely : Prop := fnGroupsRow.holds Try.pinned (OpenSpec.ofChange fnGroupsWrong)

/- THE SECOND FORM. 'bulk': how many values and letters a reading holds, each counted each time it is reached (what is shared counts as often as it is met; a slice's spare places count too). A statement '..UptoSaid' is the law's where the arguments, and the package variables that the reading takes, are together of bulk at most 1048576: NARROWER than '..Said'. Prove '..Said' where nothing that the law and all that it calls make is longer than what came in: it says more and counts as full. Else prove '..UptoSaid'. A law counts once. -/
mutual
def uptoBulk {H : Type} : DataW H → Nat
  | .lit (.string bytes) => bytes.length + 1
  | .lit _ => 1
  | .nil => 1
  | .ptr d => uptoBulk d + 1
  | .slice elems spare => uptoBulkAll elems + uptoBulkAll spare + 1
  | .agg parts => uptoBulkAll parts + 1
  | .iface _ d => uptoBulk d + 1
  | .map entries => uptoBulkEntries entries + 1
  | .held _ => 1
def uptoBulkAll {H : Type} : List (DataW H) → Nat
  | [] => 0
  | d :: r => uptoBulk d + uptoBulkAll r
def uptoBulkEntries {H : Type} : List (Lit × DataW H) → Nat
  | [] => 0
  | x :: r => uptoBulkEntry x + uptoBulkEntries r
def uptoBulkEntry {H : Type} : Lit × DataW H → Nat
  | (.string bytes, d) => bytes.length + uptoBulk d + 1
  | (_, d) => uptoBulk d + 1
 end
def uptoSmall : (H : Type) → List (DataW H) → Bool := fun _ ds => decide (uptoBulkAll ds ≤ 1048576)
def OpenSpec.upto (s : _root_.Go.ChangeSpec) : _root_.Go.OpenSpec := { _root_.Go.OpenSpec.ofChange s with cond := some uptoSmall }

/-- 'laws.FnExactFirstOf', WHERE WHAT IT READS IS OF BULK AT MOST 1048576: true; the input reads as it did. -/
def fnExactFirstOfUptoRow : OpenClaim := { program := "ytjepmcepgoncnaa", sum := "39bfd6d1fe2118a5598a1bed2758374bccff592fa927171c448156d4d7867e1c", func := "loop.example/g00630/laws.FnExactFirstOf", spec := "fnExactFirstOf", unfollowed := true, recurses := true, apart := false, narrowed := true }
def FnExactFirstOfUptoSaid : Prop := fnExactFirstOfUptoRow.holds Try.pinned (OpenSpec.upto fnExactFirstOfSpec)

/-- 'laws.FnFirst', WHERE WHAT IT READS IS OF BULK AT MOST 1048576: true; the input reads as it did. -/
def fnFirstUptoRow : OpenClaim := { program := "ytjepmcepgoncnaa", sum := "39bfd6d1fe2118a5598a1bed2758374bccff592fa927171c448156d4d7867e1c", func := "loop.example/g00630/laws.FnFirst", spec := "fnFirst", unfollowed := true, recurses := true, apart := false, narrowed := true }
def FnFirstUptoSaid : Prop := fnFirstUptoRow.holds Try.pinned (OpenSpec.upto fnFirstSpec)

/-- 'laws.FnExactSkewed', WHERE WHAT IT READS IS OF BULK AT MOST 1048576: true; the input reads as it did. -/
def fnExactSkewedUptoRow : OpenClaim := { program := "ytjepmcepgoncnaa", sum := "39bfd6d1fe2118a5598a1bed2758374bccff592fa927171c448156d4d7867e1c", func := "loop.example/g00630/laws.FnExactSkewed", spec := "fnExactSkewed", unfollowed := true, recurses := true, apart := false, narrowed := true }
def FnExactSkewedUptoSaid : Prop := fnExactSkewedUptoRow.holds Try.pinned (OpenSpec.upto fnExactSkewedSpec)

/-- 'laws.FnExactSkewJoin', WHERE WHAT IT READS IS OF BULK AT MOST 1048576: true; the input reads as it did. -/
def fnExactSkewJoinUptoRow : OpenClaim := { program := "ytjepmcepgoncnaa", sum := "39bfd6d1fe2118a5598a1bed2758374bccff592fa927171c448156d4d7867e1c", func := "loop.example/g00630/laws.FnExactSkewJoin", spec := "fnExactSkewJoin", unfollowed := true, recurses := true, apart := false, narrowed := true }
def FnExactSkewJoinUptoSaid : Prop := fnExactSkewJoinUptoRow.holds Try.pinned (OpenSpec.upto fnExactSkewJoinSpec)

/-- 'laws.FnExactChained', WHERE WHAT IT READS IS OF BULK AT MOST 1048576: true; the input reads as it did. -/
def fnExactChainedUptoRow : OpenClaim := { program := "ytjepmcepgoncnaa", sum := "39bfd6d1fe2118a5598a1bed2758374bccff592fa927171c448156d4d7867e1c", func := "loop.example/g00630/laws.FnExactChained", spec := "fnExactChained", unfollowed := true, recurses := true, apart := false, narrowed := true }
def FnExactChainedUptoSaid : Prop := fnExactChainedUptoRow.holds Try.pinned (OpenSpec.upto fnExactChainedSpec)

/-- 'laws.FnSkewLess', WHERE WHAT IT READS IS OF BULK AT MOST 1048576: true; the input reads as it did. -/
def fnSkewLessUptoRow : OpenClaim := { program := "ytjepmcepgoncnaa", sum := "39bfd6d1fe2118a5598a1bed2758374bccff592fa927171c448156d4d7867e1c", func := "loop.example/g00630/laws.FnSkewLess", spec := "fnSkewLess", unfollowed := true, recurses := true, apart := false, narrowed := true }
def FnSkewLessUptoSaid : Prop := fnSkewLessUptoRow.holds Try.pinned (OpenSpec.upto fnSkewLessSpec)

/-- 'laws.FnChainTurned', WHERE WHAT IT READS IS OF BULK AT MOST 1048576: true; the input reads as it did. -/
def fnChainTurnedUptoRow : OpenClaim := { program := "ytjepmcepgoncnaa", sum := "39bfd6d1fe2118a5598a1bed2758374bccff592fa927171c448156d4d7867e1c", func := "loop.example/g00630/laws.FnChainTurned", spec := "fnChainTurned", unfollowed := true, recurses := true, apart := false, narrowed := true }
def FnChainTurnedUptoSaid : Prop := fnChainTurnedUptoRow.holds Try.pinned (OpenSpec.upto fnChainTurnedSpec)

/-- 'laws.FnExactRunsOf', WHERE WHAT IT READS IS OF BULK AT MOST 1048576: true; the input reads as it did. -/
def fnExactRunsOfUptoRow : OpenClaim := { program := "ytjepmcepgoncnaa", sum := "39bfd6d1fe2118a5598a1bed2758374bccff592fa927171c448156d4d7867e1c", func := "loop.example/g00630/laws.FnExactRunsOf", spec := "fnExactRunsOf", unfollowed := true, recurses := true, apart := false, narrowed := true }
def FnExactRunsOfUptoSaid : Prop := fnExactRunsOfUptoRow.holds Try.pinned (OpenSpec.upto fnExactRunsOfSpec)

/-- 'laws.FnExactGroupsOf', WHERE WHAT IT READS IS OF BULK AT MOST 1048576: true; the input reads as it did. -/
def fnExactGroupsOfUptoRow : OpenClaim := { program := "ytjepmcepgoncnaa", sum := "39bfd6d1fe2118a5598a1bed2758374bccff592fa927171c448156d4d7867e1c", func := "loop.example/g00630/laws.FnExactGroupsOf", spec := "fnExactGroupsOf", unfollowed := true, recurses := true, apart := false, narrowed := true }
def FnExactGroupsOfUptoSaid : Prop := fnExactGroupsOfUptoRow.holds Try.pinned (OpenSpec.upto fnExactGroupsOfSpec)

/-- 'laws.FnExactUngrouped', WHERE WHAT IT READS IS OF BULK AT MOST 1048576: true; the input reads as it did. -/
def fnExactUngroupedUptoRow : OpenClaim := { program := "ytjepmcepgoncnaa", sum := "39bfd6d1fe2118a5598a1bed2758374bccff592fa927171c448156d4d7867e1c", func := "loop.example/g00630/laws.FnExactUngrouped", spec := "fnExactUngrouped", unfollowed := true, recurses := true, apart := false, narrowed := true }
def FnExactUngroupedUptoSaid : Prop := fnExactUngroupedUptoRow.holds Try.pinned (OpenSpec.upto fnExactUngroupedSpec)

/-- 'laws.FnExactCogrouped', WHERE WHAT IT READS IS OF BULK AT MOST 1048576: true; the input reads as it did. -/
def fnExactCogroupedUptoRow : OpenClaim := { program := "ytjepmcepgoncnaa", sum := "39bfd6d1fe2118a5598a1bed2758374bccff592fa927171c448156d4d7867e1c", func := "loop.example/g00630/laws.FnExactCogrouped", spec := "fnExactCogrouped", unfollowed := true, recurses := true, apart := false, narrowed := true }
def FnExactCogroupedUptoSaid : Prop := fnExactCogroupedUptoRow.holds Try.pinned (OpenSpec.upto fnExactCogroupedSpec)

/-- 'laws.FnGroups', WHERE WHAT IT READS IS OF BULK AT MOST 1048576: true; the input reads as it did. -/
def fnGroupsUptoRow : OpenClaim := { program := "ytjepmcepgoncnaa", sum := "39bfd6d1fe2118a5598a1bed2758374bccff592fa927171c448156d4d7867e1c", func := "loop.example/g00630/laws.FnGroups", spec := "fnGroups", unfollowed := true, recurses := true, apart := false, narrowed := true }
def FnGroupsUptoSaid : Prop := fnGroupsUptoRow.holds Try.pinned (OpenSpec.upto fnGroupsSpec)

end Rows
end Go.Proofs.Ytjepmcepgoncnaa
