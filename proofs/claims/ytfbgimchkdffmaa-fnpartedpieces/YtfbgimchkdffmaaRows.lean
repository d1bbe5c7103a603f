/-
  No cell of these rows narrows 'for every input' (looked for: loops, veiled, ifaces, maps, wideKeys, modest, calm, conditions, laid).
  DERIVED. THE GIVEN ROWS OF THIS SEAT. 12 by the template 'for every input the law returns true; each argument reads behind the call as it read before'; 0 by the template 'total and deterministic' (their statements: YtfbgimchkdffmaaTotals.lean).
  GIVEN WITH THE SEED: the statements are not yours to turn. If you find one false, say at which input.
  Laid BY PROGRAM, IN A SANDBOX (cutbox-rows.mjs): the forced cells as the released guide's own fill.sh prints them over the translation 0a018ac0fa0304df… (all of the seat's roots in one cut). By AI agents, Wed Nov 11 2026. No macro, syntax, notation, axiom, sorry.
-/
import Derived.Test.YtfbgimchkdffmaaChecked
import GoSem.Claim
import GoSem.ClaimJoined
import GoSem.ClaimMapViews
import Derived.JoinedTies
import Derived.KernelRfl
namespace Go.Proofs.Ytfbgimchkdffmaa
/- THE CELL 'sum', in the pinned program and in every row, IS THE sha256 OF THE DUMP (.gsa) THAT YtfbgimchkdffmaaProg.lean LOADS. Nothing in Lean hashes anything: it is a label: what it is worth is what the hold of that sum in a sandbox is worth. -/
noncomputable def Try.pinned : Pinned := { name := "ytfbgimchkdffmaa", sum := "0a018ac0fa0304dfcd62a7a57b18b0f01894830a01123728eec13cd6248204c0", checked := Try.checked }
namespace Rows
def none {H : Type} : Left H := { results := [], args := [] }

/-- 'laws.FnExactTagged': WHATEVER THE INPUT: true; the input reads as it did. -/
def fnExactTaggedSpec : ChangeSpec := { name := "fnExactTagged", fn := fun _ => fun
  | [d1, d2] => { results := [.lit (.bool true)], args := [d1, d2] }
  | _ => none }
def fnExactTaggedRow : OpenClaim := { program := "ytfbgimchkdffmaa", sum := "0a018ac0fa0304dfcd62a7a57b18b0f01894830a01123728eec13cd6248204c0", func := "loop.example/g00630/laws.FnExactTagged", spec := "fnExactTagged", unfollowed := true, recurses := true, apart := false }
def FnExactTaggedSaid : Prop := fnExactTaggedRow.holds Try.pinned (OpenSpec.ofChange fnExactTaggedSpec)

/-- ITS FALSE NEIGHBOUR: 'it returns false'. Refute it at one input. -/
def fnExactTaggedWrong : ChangeSpec := { name := "fnExactTagged", fn := fun _ => fun
  | [d1, d2] => { results := [.lit (.bool false)], args := [d1, d2] }
  | _ => none }
def FnExactTaggedWrongFalsely : Prop := fnExactTaggedRow.holds Try.pinned (OpenSpec.ofChange fnExactTaggedWrong)

/-- 'laws.FnExactRunsOf': WHATEVER THE INPUT: true; the input reads as it did. -/
def fnExactRunsOfSpec : ChangeSpec := { name := "fnExactRunsOf", fn := fun _ => fun
  | [d1, d2] => { results := [.lit (.bool true)], args := [d1, d2] }
  | _ => none }
def fnExactRunsOfRow : OpenClaim := { program := "ytfbgimchkdffmaa", sum := "0a018ac0fa0304dfcd62a7a57b18b0f01894830a01123728eec13cd6248204c0", func := "loop.example/g00630/laws.FnExactRunsOf", spec := "fnExactRunsOf", unfollowed := true, recurses := true, apart := false }
def FnExactRunsOfSaid : Prop := fnExactRunsOfRow.holds Try.pinned (OpenSpec.ofChange fnExactRunsOfSpec)

/-- ITS FALSE NEIGHBOUR: 'it returns false'. Refute it at one input. -/
def fnExactRunsOfWrong : ChangeSpec := { name := "fnExactRunsOf", fn := fun _ => fun
  | [d1, d2] => { results := [.lit (.bool false)], args := [d1, d2] }
  | _ => none }
def FnExactRunsOfWrongFalsely : Prop := fnExactRunsOfRow.holds Try.pinned (OpenSpec.ofChange fnExactRunsOfWrong)

/-- 'laws.FnExactMergedRuns': WHATEVER THE INPUT: true; the input reads as it did. -/
def fnExactMergedRunsSpec : ChangeSpec := { name := "fnExactMergedRuns", fn := fun _ => fun
  | [d] => { results := [.lit (.bool true)], args := [d] }
  | _ => none }
def fnExactMergedRunsRow : OpenClaim := { program := "ytfbgimchkdffmaa", sum := "0a018ac0fa0304dfcd62a7a57b18b0f01894830a01123728eec13cd6248204c0", func := "loop.example/g00630/laws.FnExactMergedRuns", spec := "fnExactMergedRuns", unfollowed := true, recurses := true, apart := false }
def FnExactMergedRunsSaid : Prop := fnExactMergedRunsRow.holds Try.pinned (OpenSpec.ofChange fnExactMergedRunsSpec)

/-- ITS FALSE NEIGHBOUR: 'it returns false'. Refute it at one input. -/
def fnExactMergedRunsWrong : ChangeSpec := { name := "fnExactMergedRuns", fn := fun _ => fun
  | [d] => { results := [.lit (.bool false)], args := [d] }
  | _ => none }
def FnExactMergedRunsWrongFalsely : Prop := fnExactMergedRunsRow.holds Try.pinned (OpenSpec.ofChange fnExactMergedRunsWrong)

/-- 'laws.FnExactFewerRuns': WHATEVER THE INPUT: true; the input reads as it did. -/
def fnExactFewerRunsSpec : ChangeSpec := { name := "fnExactFewerRuns", fn := fun _ => fun
  | [d1, d2] => { results := [.lit (.bool true)], args := [d1, d2] }
  | _ => none }
def fnExactFewerRunsRow : OpenClaim := { program := "ytfbgimchkdffmaa", sum := "0a018ac0fa0304dfcd62a7a57b18b0f01894830a01123728eec13cd6248204c0", func := "loop.example/g00630/laws.FnExactFewerRuns", spec := "fnExactFewerRuns", unfollowed := true, recurses := true, apart := false }
def FnExactFewerRunsSaid : Prop := fnExactFewerRunsRow.holds Try.pinned (OpenSpec.ofChange fnExactFewerRunsSpec)

/-- ITS FALSE NEIGHBOUR: 'it returns false'. Refute it at one input. -/
def fnExactFewerRunsWrong : ChangeSpec := { name := "fnExactFewerRuns", fn := fun _ => fun
  | [d1, d2] => { results := [.lit (.bool false)], args := [d1, d2] }
  | _ => none }
def FnExactFewerRunsWrongFalsely : Prop := fnExactFewerRunsRow.holds Try.pinned (OpenSpec.ofChange fnExactFewerRunsWrong)

/-- 'laws.FnExactGroupsOf': WHATEVER THE INPUT: true; the input reads as it did. -/
def fnExactGroupsOfSpec : ChangeSpec := { name := "fnExactGroupsOf", fn := fun _ => fun
  | [d] => { results := [.lit (.bool true)], args := [d] }
  | _ => none }
def fnExactGroupsOfRow : OpenClaim := { program := "ytfbgimchkdffmaa", sum := "0a018ac0fa0304dfcd62a7a57b18b0f01894830a01123728eec13cd6248204c0", func := "loop.example/g00630/laws.FnExactGroupsOf", spec := "fnExactGroupsOf", unfollowed := true, recurses := true, apart := false }
def FnExactGroupsOfSaid : Prop := fnExactGroupsOfRow.holds Try.pinned (OpenSpec.ofChange fnExactGroupsOfSpec)

/-- ITS FALSE NEIGHBOUR: 'it returns false'. Refute it at one input. -/
def fnExactGroupsOfWrong : ChangeSpec := { name := "fnExactGroupsOf", fn := fun _ => fun
  | [d] => { results := [.lit (.bool false)], args := [d] }
  | _ => none }
def FnExactGroupsOfWrongFalsely : Prop := fnExactGroupsOfRow.holds Try.pinned (OpenSpec.ofChange fnExactGroupsOfWrong)

/-- 'laws.FnExactUngrouped': WHATEVER THE INPUT: true; the input reads as it did. -/
def fnExactUngroupedSpec : ChangeSpec := { name := "fnExactUngrouped", fn := fun _ => fun
  | [d] => { results := [.lit (.bool true)], args := [d] }
  | _ => none }
def fnExactUngroupedRow : OpenClaim := { program := "ytfbgimchkdffmaa", sum := "0a018ac0fa0304dfcd62a7a57b18b0f01894830a01123728eec13cd6248204c0", func := "loop.example/g00630/laws.FnExactUngrouped", spec := "fnExactUngrouped", unfollowed := true, recurses := true, apart := false }
def FnExactUngroupedSaid : Prop := fnExactUngroupedRow.holds Try.pinned (OpenSpec.ofChange fnExactUngroupedSpec)

/-- ITS FALSE NEIGHBOUR: 'it returns false'. Refute it at one input. -/
def fnExactUngroupedWrong : ChangeSpec := { name := "fnExactUngrouped", fn := fun _ => fun
  | [d] => { results := [.lit (.bool false)], args := [d] }
  | _ => none }
def FnExactUngroupedWrongFalsely : Prop := fnExactUngroupedRow.holds Try.pinned (OpenSpec.ofChange fnExactUngroupedWrong)

/-- 'laws.FnExactFirstOf': WHATEVER THE INPUT: true; the input reads as it did. -/
def fnExactFirstOfSpec : ChangeSpec := { name := "fnExactFirstOf", fn := fun _ => fun
  | [d1, d2] => { results := [.lit (.bool true)], args := [d1, d2] }
  | _ => none }
def fnExactFirstOfRow : OpenClaim := { program := "ytfbgimchkdffmaa", sum := "0a018ac0fa0304dfcd62a7a57b18b0f01894830a01123728eec13cd6248204c0", func := "loop.example/g00630/laws.FnExactFirstOf", spec := "fnExactFirstOf", unfollowed := true, recurses := true, apart := false }
def FnExactFirstOfSaid : Prop := fnExactFirstOfRow.holds Try.pinned (OpenSpec.ofChange fnExactFirstOfSpec)

/-- ITS FALSE NEIGHBOUR: 'it returns false'. Refute it at one input. -/
def fnExactFirstOfWrong : ChangeSpec := { name := "fnExactFirstOf", fn := fun _ => fun
  | [d1, d2] => { results := [.lit (.bool false)], args := [d1, d2] }
  | _ => none }
def FnExactFirstOfWrongFalsely : Prop := fnExactFirstOfRow.holds Try.pinned (OpenSpec.ofChange fnExactFirstOfWrong)

/-- 'laws.FnTagged': WHATEVER THE INPUT: true; the input reads as it did. -/
def fnTaggedSpec : ChangeSpec := { name := "fnTagged", fn := fun _ => fun
  | [d] => { results := [.lit (.bool true)], args := [d] }
  | _ => none }
def fnTaggedRow : OpenClaim := { program := "ytfbgimchkdffmaa", sum := "0a018ac0fa0304dfcd62a7a57b18b0f01894830a01123728eec13cd6248204c0", func := "loop.example/g00630/laws.FnTagged", spec := "fnTagged", unfollowed := true, recurses := true, apart := false }
def FnTaggedSaid : Prop := fnTaggedRow.holds Try.pinned (OpenSpec.ofChange fnTaggedSpec)

/-- ITS FALSE NEIGHBOUR: 'it returns false'. Refute it at one input. -/
def fnTaggedWrong : ChangeSpec := { name := "fnTagged", fn := fun _ => fun
  | [d] => { results := [.lit (.bool false)], args := [d] }
  | _ => none }
def FnTaggedWrongFalsely : Prop := fnTaggedRow.holds Try.pinned (OpenSpec.ofChange fnTaggedWrong)

/-- 'laws.FnTaggedSorted': WHATEVER THE INPUT: true; the input reads as it did. -/
def fnTaggedSortedSpec : ChangeSpec := { name := "fnTaggedSorted", fn := fun _ => fun
  | [d] => { results := [.lit (.bool true)], args := [d] }
  | _ => none }
def fnTaggedSortedRow : OpenClaim := { program := "ytfbgimchkdffmaa", sum := "0a018ac0fa0304dfcd62a7a57b18b0f01894830a01123728eec13cd6248204c0", func := "loop.example/g00630/laws.FnTaggedSorted", spec := "fnTaggedSorted", unfollowed := true, recurses := true, apart := false }
def FnTaggedSortedSaid : Prop := fnTaggedSortedRow.holds Try.pinned (OpenSpec.ofChange fnTaggedSortedSpec)

/-- ITS FALSE NEIGHBOUR: 'it returns false'. Refute it at one input. -/
def fnTaggedSortedWrong : ChangeSpec := { name := "fnTaggedSorted", fn := fun _ => fun
  | [d] => { results := [.lit (.bool false)], args := [d] }
  | _ => none }
def FnTaggedSortedWrongFalsely : Prop := fnTaggedSortedRow.holds Try.pinned (OpenSpec.ofChange fnTaggedSortedWrong)

/-- 'laws.FnRangePieces': WHATEVER THE INPUT: true; the input reads as it did. -/
def fnRangePiecesSpec : ChangeSpec := { name := "fnRangePieces", fn := fun _ => fun
  | [d] => { results := [.lit (.bool true)], args := [d] }
  | _ => none }
def fnRangePiecesRow : OpenClaim := { program := "ytfbgimchkdffmaa", sum := "0a018ac0fa0304dfcd62a7a57b18b0f01894830a01123728eec13cd6248204c0", func := "loop.example/g00630/laws.FnRangePieces", spec := "fnRangePieces", unfollowed := true, recurses := true, apart := false }
def FnRangePiecesSaid : Prop := fnRangePiecesRow.holds Try.pinned (OpenSpec.ofChange fnRangePiecesSpec)

/-- ITS FALSE NEIGHBOUR: 'it returns false'. Refute it at one input. -/
def fnRangePiecesWrong : ChangeSpec := { name := "fnRangePieces", fn := fun _ => fun
  | [d] => { results := [.lit (.bool false)], args := [d] }
  | _ => none }
def FnRangePiecesWrongFalsely : Prop := fnRangePiecesRow.holds Try.pinned (OpenSpec.ofChange fnRangePiecesWrong)

/-- 'laws.FnPartedPieces': WHATEVER THE INPUT: true; the input reads as it did. -/
def fnPartedPiecesSpec : ChangeSpec := { name := "fnPartedPieces", fn := fun _ => fun
  | [d] => { results := [.lit (.bool true)], args := [d] }
  | _ => none }
def fnPartedPiecesRow : OpenClaim := { program := "ytfbgimchkdffmaa", sum := "0a018ac0fa0304dfcd62a7a57b18b0f01894830a01123728eec13cd6248204c0", func := "loop.example/g00630/laws.FnPartedPieces", spec := "fnPartedPieces", unfollowed := true, recurses := true, apart := false }
def FnPartedPiecesSaid : Prop := fnPartedPiecesRow.holds Try.pinned (OpenSpec.ofChange fnPartedPiecesSpec)

/-- ITS FALSE NEIGHBOUR: 'it returns false'. Refute it at one input. -/
def fnPartedPiecesWrong : ChangeSpec := { name := "fnPartedPieces", fn := fun _ => fun
  | [d] => { results := [.lit (.bool false)], args := [d] }
  | _ => none }
def FnPartedPiecesWrongFalsely : Prop := fnPartedPiecesRow.holds Try.pinned (OpenSpec.ofChange fnPartedPiecesWrong)

/-- 'laws.FnRanges': WHATEVER THE INPUT: true; the input reads as it did. -/
def fnRangesSpec : ChangeSpec := { name := "fnRanges", fn := fun _ => fun
  | [d] => { results := [.lit (.bool true)], args := [d] }
  | _ => none }
def fnRangesRow : OpenClaim := { program := "ytfbgimchkdffmaa", sum := "0a018ac0fa0304dfcd62a7a57b18b0f01894830a01123728eec13cd6248204c0", func := "loop.example/g00630/laws.FnRanges", spec := "fnRanges", unfollowed := true, recurses := true, apart := false }
def FnRangesSaid : Prop := fnRangesRow.holds Try.pinned (OpenSpec.ofChange fnRangesSpec)

/-- ITS FALSE NEIGHBOUR: 'it returns false'. Refute it at one input. -/
def fnRangesWrong : ChangeSpec := { name := "fnRanges", fn := fun _ => fun
  | [d] => { results := [.lit (.bool false)], args := [d] }
  | _ => none }
def FnRangesWrongFalsely : Prop := fnRangesRow.holds Try.pinned (OpenSpec.ofChange fnRangesWrong)

/- THE SECOND FORM. 'bulk': how many values and letters a reading holds, each counted each time it is reached (what is shared counts as often as it is met; a slice's spare places count too). A statement '..UptoSaid' is the law's where the arguments, and the package variables that the reading takes, are together of bulk at most 1048576: NARROWER than '..Said'. Prove '..Said' where nothing that the law and all that it calls make is longer than what came in: it says more and counts as full. Else prove '..UptoSaid'. A law counts once. -/
mutual
def uptoBulk {H : Type} : DataW H → Nat
  | .lit (.string bytes) => bytes.length + 1
  | .lit _ => 1
  | .nil => 1
  | .ptr d => uptoBulk d + 1
  | .slice elems spare => uptoBulkAll elems + uptoBulkAll spare + 1
  | .agg parts => uptoBulkAll parts + 1
  | .iface _ d => uptoBulk d + 1
  | .map entries => uptoBulkEntries entries + 1
  | .held _ => 1
def uptoBulkAll {H : Type} : List (DataW H) → Nat
  | [] => 0
  | d :: r => uptoBulk d + uptoBulkAll r
def uptoBulkEntries {H : Type} : List (Lit × DataW H) → Nat
  | [] => 0
  | x :: r => uptoBulkEntry x + uptoBulkEntries r
def uptoBulkEntry {H : Type} : Lit × DataW H → Nat
  | (.string bytes, d) => bytes.length + uptoBulk d + 1
  | (_, d) => uptoBulk d + 1
 end
def uptoSmall : (H : Type) → List (DataW H) → Bool := fun _ ds => decide (uptoBulkAll ds ≤ 1048576)
def OpenSpec.upto (s : _root_.Go.ChangeSpec) : _root_.Go.OpenSpec := { _root_.Go.OpenSpec.ofChange s with cond := some uptoSmall }

/-- 'laws.FnExactTagged', WHERE WHAT IT READS IS OF BULK AT MOST 1048576: true; the input reads as it did. -/
def fnExactTaggedUptoRow : OpenClaim := { program := "ytfbgimchkdffmaa", sum := "0a018ac0fa0304dfcd62a7a57b18b0f01894830a01123728eec13cd6248204c0", func := "loop.example/g00630/laws.FnExactTagged", spec := "fnExactTagged", unfollowed := true, recurses := true, apart := false, narrowed := true }
def FnExactTaggedUptoSaid : Prop := fnExactTaggedUptoRow.holds Try.pinned (OpenSpec.upto fnExactTaggedSpec)

/-- 'laws.FnExactRunsOf', WHERE WHAT IT READS IS OF BULK AT MOST 1048576: true; the input reads as it did. -/
def fnExactRunsOfUptoRow : OpenClaim := { program := "ytfbgimchkdffmaa", sum := "0a018ac0fa0304dfcd62a7a57b18b0f01894830a01123728eec13cd6248204c0", func := "loop.example/g00630/laws.FnExactRunsOf", spec := "fnExactRunsOf", unfollowed := true, recurses := true, apart := false, narrowed := true }
def FnExactRunsOfUptoSaid : Prop := fnExactRunsOfUptoRow.holds Try.pinned (OpenSpec.upto fnExactRunsOfSpec)

/-- 'laws.FnExactMergedRuns', WHERE WHAT IT READS IS OF BULK AT MOST 1048576: true; the input reads as it did. -/
def fnExactMergedRunsUptoRow : OpenClaim := { program := "ytfbgimchkdffmaa", sum := "0a018ac0fa0304dfcd62a7a57b18b0f01894830a01123728eec13cd6248204c0", func := "loop.example/g00630/laws.FnExactMergedRuns", spec := "fnExactMergedRuns", unfollowed := true, recurses := true, apart := false, narrowed := true }
def FnExactMergedRunsUptoSaid : Prop := fnExactMergedRunsUptoRow.holds Try.pinned (OpenSpec.upto fnExactMergedRunsSpec)

/-- 'laws.FnExactFewerRuns', WHERE WHAT IT READS IS OF BULK AT MOST 1048576: true; the input reads as it did. -/
def fnExactFewerRunsUptoRow : OpenClaim := { program := "ytfbgimchkdffmaa", sum := "0a018ac0fa0304dfcd62a7a57b18b0f01894830a01123728eec13cd6248204c0", func := "loop.example/g00630/laws.FnExactFewerRuns", spec := "fnExactFewerRuns", unfollowed := true, recurses := true, apart := false, narrowed := true }
def FnExactFewerRunsUptoSaid : Prop := fnExactFewerRunsUptoRow.holds Try.pinned (OpenSpec.upto fnExactFewerRunsSpec)

/-- 'laws.FnExactGroupsOf', WHERE WHAT IT READS IS OF BULK AT MOST 1048576: true; the input reads as it did. -/
def fnExactGroupsOfUptoRow : OpenClaim := { program := "ytfbgimchkdffmaa", sum := "0a018ac0fa0304dfcd62a7a57b18b0f01894830a01123728eec13cd6248204c0", func := "loop.example/g00630/laws.FnExactGroupsOf", spec := "fnExactGroupsOf", unfollowed := true, recurses := true, apart := false, narrowed := true }
def FnExactGroupsOfUptoSaid : Prop := fnExactGroupsOfUptoRow.holds Try.pinned (OpenSpec.upto fnExactGroupsOfSpec)

/-- 'laws.FnExactUngrouped', WHERE WHAT IT READS IS OF BULK AT MOST 1048576: true; the input reads as it did. -/
def fnExactUngroupedUptoRow : OpenClaim := { program := "ytfbgimchkdffmaa", sum := "0a018ac0fa0304dfcd62a7a57b18b0f01894830a01123728eec13cd6248204c0", func := "loop.example/g00630/laws.FnExactUngrouped", spec := "fnExactUngrouped", unfollowed := true, recurses := true, apart := false, narrowed := true }
def FnExactUngroupedUptoSaid : Prop := fnExactUngroupedUptoRow.holds Try.pinned (OpenSpec.upto fnExactUngroupedSpec)

/-- 'laws.FnExactFirstOf', WHERE WHAT IT READS IS OF BULK AT MOST 1048576: true; the input reads as it did. -/
def fnExactFirstOfUptoRow : OpenClaim := { program := "ytfbgimchkdffmaa", sum := "0a018ac0fa0304dfcd62a7a57b18b0f01894830a01123728eec13cd6248204c0", func := "loop.example/g00630/laws.FnExactFirstOf", spec := "fnExactFirstOf", unfollowed := true, recurses := true, apart := false, narrowed := true }
def FnExactFirstOfUptoSaid : Prop := fnExactFirstOfUptoRow.holds Try.pinned (OpenSpec.upto fnExactFirstOfSpec)

/-- 'laws.FnTagged', WHERE WHAT IT READS IS OF BULK AT MOST 1048576: true; the input reads as it did. -/
def fnTaggedUptoRow : OpenClaim := { program := "ytfbgimchkdffmaa", sum := "0a018ac0fa0304dfcd62a7a57b18b0f01894830a01123728eec13cd6248204c0", func := "loop.example/g00630/laws.FnTagged", spec := "fnTagged", unfollowed := true, recurses := true, apart := false, narrowed := true }
def FnTaggedUptoSaid : Prop := fnTaggedUptoRow.holds Try.pinned (OpenSpec.upto fnTaggedSpec)

/-- 'laws.FnTaggedSorted', WHERE WHAT IT READS IS OF BULK AT MOST 1048576: true; the input reads as it did. -/
def fnTaggedSortedUptoRow : OpenClaim := { program := "ytfbgimchkdffmaa", sum := "0a018ac0fa0304dfcd62a7a57b18b0f01894830a01123728eec13cd6248204c0", func := "loop.example/g00630/laws.FnTaggedSorted", spec := "fnTaggedSorted", unfollowed := true, recurses := true, apart := false, narrowed := true }
def FnTaggedSortedUptoSaid : Prop := fnTaggedSortedUptoRow.holds Try.pinned (OpenSpec.upto fnTaggedSortedSpec)

/-- 'laws.FnRangePieces', WHERE WHAT IT READS IS OF BULK AT MOST 1048576: true; the input reads as it did. -/
def fnRangePiecesUptoRow : OpenClaim := { program := "ytfbgimchkdffmaa", sum := "0a018ac0fa0304dfcd62a7a57b18b0f01894830a01123728eec13cd6248204c0", func := "loop.example/g00630/laws.FnRangePieces", spec := "fnRangePieces", unfollowed := true, recurses := true, apart := false, narrowed := true }
def FnRangePiecesUptoSaid : Prop := fnRangePiecesUptoRow.holds Try.pinned (OpenSpec.upto fnRangePiecesSpec)

/-- 'laws.FnPartedPieces', WHERE WHAT IT READS IS OF BULK AT MOST 1048576: true; the input reads as it did. -/
def fnPartedPiecesUptoRow : OpenClaim := { program := "ytfbgimchkdffmaa", sum := "0a018ac0fa0304dfcd62a7a57b18b0f01894830a01123728eec13cd6248204c0", func := "loop.example/g00630/laws.FnPartedPieces", spec := "fnPartedPieces", unfollowed := true, recurses := true, apart := false, narrowed := true }
def FnPartedPiecesUptoSaid : Prop := fnPartedPiecesUptoRow.holds Try.pinned (OpenSpec.upto fnPartedPiecesSpec)

/-- 'laws.FnRanges', WHERE WHAT IT READS IS OF BULK AT MOST 1048576: true; the input reads as it did. -/
def fnRangesUptoRow : OpenClaim := { program := "ytfbgimchkdffmaa", sum := "0a018ac0fa0304dfcd62a7a57b18b0f01894830a01123728eec13cd6248204c0", func := "loop.example/g00630/laws.FnRanges", spec := "fnRanges", unfollowed := true, recurses := true, apart := false, narrowed := true }
def FnRangesUptoSaid : Prop := fnRangesUptoRow.holds Try.pinned (OpenSpec.upto fnRangesSpec)

end Rows
end Go.Proofs.Ytfbgimchkdffmaa
