/-
  No cell of these rows narrows 'for every input' (looked for: loops, veiled, ifaces, maps, wideKeys, modest, calm, conditions, laid).
  DERIVED. THE GIVEN ROWS OF THIS SEAT. 12 by the template 'for every input the law returns true; each argument reads behind the call as it read before'; 0 by the template 'total and deterministic' (their statements: YtnmlnenepceabaaTotals.lean).
  GIVEN WITH THE SEED: the statements are not yours to turn. If you find one false, say at which input.
  Laid BY PROGRAM, IN A SANDBOX (cutbox-rows.mjs): the forced cells as the released guide's own fill.sh prints them over the translation d12cc2e111e17a0d… (all of the seat's roots in one cut). By AI agents, Wed Nov 11 2026. No macro, syntax, notation, axiom, sorry.
-/
import Derived.Test.YtnmlnenepceabaaChecked
import GoSem.Claim
import GoSem.ClaimJoined
import GoSem.ClaimMapViews
import Derived.JoinedTies
import Derived.KernelRfl
namespace Go.Proofs.Ytnmlnenepceabaa
/- THE CELL 'sum', in the pinned program and in every row, IS THE sha256 OF THE DUMP (.gsa) THAT YtnmlnenepceabaaProg.lean LOADS. Nothing in Lean hashes anything: it is a label: what it is worth is what the hold of that sum in a sandbox is worth. -/
noncomputable def Try.pinned : Pinned := { name := "ytnmlnenepceabaa", sum := "d12cc2e111e17a0d3f8a724559e04c3e56b2bc5d8d5257efe5e9a859ef4f3863", checked := Try.checked }
namespace Rows
def none {H : Type} : Left H := { results := [], args := [] }

/-- 'laws.FnExactReduced': WHATEVER THE INPUT: true; the input reads as it did. -/
def fnExactReducedSpec : ChangeSpec := { name := "fnExactReduced", fn := fun _ => fun
  | [d1, d2] => { results := [.lit (.bool true)], args := [d1, d2] }
  | _ => none }
def fnExactReducedRow : OpenClaim := { program := "ytnmlnenepceabaa", sum := "d12cc2e111e17a0d3f8a724559e04c3e56b2bc5d8d5257efe5e9a859ef4f3863", func := "loop.example/g00630/laws.FnExactReduced", spec := "fnExactReduced", unfollowed := true, recurses := true, apart := false }
def FnExactReducedSaid : Prop := fnExactReducedRow.holds Try.pinned (OpenSpec.ofChange fnExactReducedSpec)

/-- ITS FALSE NEIGHBOUR: 'it returns false'. Refute it at one input. -/
def fnExactReducedWrong : ChangeSpec := { name := "fnExactReduced", fn := fun _ => fun
  | [d1, d2] => { results := [.lit (.bool false)], args := [d1, d2] }
  | _ => none }
def FnExactReducedWrongFalsely : Prop := fnExactReducedRow.holds Try.pinned (OpenSpec.ofChange fnExactReducedWrong)

/-- 'laws.FnReduced': WHATEVER THE INPUT: true; the input reads as it did. -/
def fnReducedSpec : ChangeSpec := { name := "fnReduced", fn := fun _ => fun
  | [d] => { results := [.lit (.bool true)], args := [d] }
  | _ => none }
def fnReducedRow : OpenClaim := { program := "ytnmlnenepceabaa", sum := "d12cc2e111e17a0d3f8a724559e04c3e56b2bc5d8d5257efe5e9a859ef4f3863", func := "loop.example/g00630/laws.FnReduced", spec := "fnReduced", unfollowed := true, recurses := true, apart := false }
def FnReducedSaid : Prop := fnReducedRow.holds Try.pinned (OpenSpec.ofChange fnReducedSpec)

/-- ITS FALSE NEIGHBOUR: 'it returns false'. Refute it at one input. -/
def fnReducedWrong : ChangeSpec := { name := "fnReduced", fn := fun _ => fun
  | [d] => { results := [.lit (.bool false)], args := [d] }
  | _ => none }
def FnReducedWrongFalsely : Prop := fnReducedRow.holds Try.pinned (OpenSpec.ofChange fnReducedWrong)

/-- 'laws.FnKinds': WHATEVER THE INPUT: true; the input reads as it did. -/
def fnKindsSpec : ChangeSpec := { name := "fnKinds", fn := fun _ => fun
  | [d] => { results := [.lit (.bool true)], args := [d] }
  | _ => none }
def fnKindsRow : OpenClaim := { program := "ytnmlnenepceabaa", sum := "d12cc2e111e17a0d3f8a724559e04c3e56b2bc5d8d5257efe5e9a859ef4f3863", func := "loop.example/g00630/laws.FnKinds", spec := "fnKinds", unfollowed := true, recurses := true, apart := false }
def FnKindsSaid : Prop := fnKindsRow.holds Try.pinned (OpenSpec.ofChange fnKindsSpec)

/-- ITS FALSE NEIGHBOUR: 'it returns false'. Refute it at one input. -/
def fnKindsWrong : ChangeSpec := { name := "fnKinds", fn := fun _ => fun
  | [d] => { results := [.lit (.bool false)], args := [d] }
  | _ => none }
def FnKindsWrongFalsely : Prop := fnKindsRow.holds Try.pinned (OpenSpec.ofChange fnKindsWrong)

/-- 'laws.FnReducedParts': WHATEVER THE INPUT: true; the input reads as it did. -/
def fnReducedPartsSpec : ChangeSpec := { name := "fnReducedParts", fn := fun _ => fun
  | [d] => { results := [.lit (.bool true)], args := [d] }
  | _ => none }
def fnReducedPartsRow : OpenClaim := { program := "ytnmlnenepceabaa", sum := "d12cc2e111e17a0d3f8a724559e04c3e56b2bc5d8d5257efe5e9a859ef4f3863", func := "loop.example/g00630/laws.FnReducedParts", spec := "fnReducedParts", unfollowed := true, recurses := true, apart := false }
def FnReducedPartsSaid : Prop := fnReducedPartsRow.holds Try.pinned (OpenSpec.ofChange fnReducedPartsSpec)

/-- ITS FALSE NEIGHBOUR: 'it returns false'. Refute it at one input. -/
def fnReducedPartsWrong : ChangeSpec := { name := "fnReducedParts", fn := fun _ => fun
  | [d] => { results := [.lit (.bool false)], args := [d] }
  | _ => none }
def FnReducedPartsWrongFalsely : Prop := fnReducedPartsRow.holds Try.pinned (OpenSpec.ofChange fnReducedPartsWrong)

/-- 'laws.FnJoinCounts': WHATEVER THE INPUT: true; the input reads as it did. -/
def fnJoinCountsSpec : ChangeSpec := { name := "fnJoinCounts", fn := fun _ => fun
  | [d] => { results := [.lit (.bool true)], args := [d] }
  | _ => none }
def fnJoinCountsRow : OpenClaim := { program := "ytnmlnenepceabaa", sum := "d12cc2e111e17a0d3f8a724559e04c3e56b2bc5d8d5257efe5e9a859ef4f3863", func := "loop.example/g00630/laws.FnJoinCounts", spec := "fnJoinCounts", unfollowed := true, recurses := true, apart := false }
def FnJoinCountsSaid : Prop := fnJoinCountsRow.holds Try.pinned (OpenSpec.ofChange fnJoinCountsSpec)

/-- ITS FALSE NEIGHBOUR: 'it returns false'. Refute it at one input. -/
def fnJoinCountsWrong : ChangeSpec := { name := "fnJoinCounts", fn := fun _ => fun
  | [d] => { results := [.lit (.bool false)], args := [d] }
  | _ => none }
def FnJoinCountsWrongFalsely : Prop := fnJoinCountsRow.holds Try.pinned (OpenSpec.ofChange fnJoinCountsWrong)

/-- 'laws.FnFirstKeys': WHATEVER THE INPUT: true; the input reads as it did. -/
def fnFirstKeysSpec : ChangeSpec := { name := "fnFirstKeys", fn := fun _ => fun
  | [d] => { results := [.lit (.bool true)], args := [d] }
  | _ => none }
def fnFirstKeysRow : OpenClaim := { program := "ytnmlnenepceabaa", sum := "d12cc2e111e17a0d3f8a724559e04c3e56b2bc5d8d5257efe5e9a859ef4f3863", func := "loop.example/g00630/laws.FnFirstKeys", spec := "fnFirstKeys", unfollowed := true, recurses := true, apart := false }
def FnFirstKeysSaid : Prop := fnFirstKeysRow.holds Try.pinned (OpenSpec.ofChange fnFirstKeysSpec)

/-- ITS FALSE NEIGHBOUR: 'it returns false'. Refute it at one input. -/
def fnFirstKeysWrong : ChangeSpec := { name := "fnFirstKeys", fn := fun _ => fun
  | [d] => { results := [.lit (.bool false)], args := [d] }
  | _ => none }
def FnFirstKeysWrongFalsely : Prop := fnFirstKeysRow.holds Try.pinned (OpenSpec.ofChange fnFirstKeysWrong)

/-- 'laws.FnSkewed': WHATEVER THE INPUT: true; the input reads as it did. -/
def fnSkewedSpec : ChangeSpec := { name := "fnSkewed", fn := fun _ => fun
  | [d] => { results := [.lit (.bool true)], args := [d] }
  | _ => none }
def fnSkewedRow : OpenClaim := { program := "ytnmlnenepceabaa", sum := "d12cc2e111e17a0d3f8a724559e04c3e56b2bc5d8d5257efe5e9a859ef4f3863", func := "loop.example/g00630/laws.FnSkewed", spec := "fnSkewed", unfollowed := true, recurses := true, apart := false }
def FnSkewedSaid : Prop := fnSkewedRow.holds Try.pinned (OpenSpec.ofChange fnSkewedSpec)

/-- ITS FALSE NEIGHBOUR: 'it returns false'. Refute it at one input. -/
def fnSkewedWrong : ChangeSpec := { name := "fnSkewed", fn := fun _ => fun
  | [d] => { results := [.lit (.bool false)], args := [d] }
  | _ => none }
def FnSkewedWrongFalsely : Prop := fnSkewedRow.holds Try.pinned (OpenSpec.ofChange fnSkewedWrong)

/-- 'laws.FnExactCombined': WHATEVER THE INPUT: true; the input reads as it did. -/
def fnExactCombinedSpec : ChangeSpec := { name := "fnExactCombined", fn := fun _ => fun
  | [d1, d2, d3] => { results := [.lit (.bool true)], args := [d1, d2, d3] }
  | _ => none }
def fnExactCombinedRow : OpenClaim := { program := "ytnmlnenepceabaa", sum := "d12cc2e111e17a0d3f8a724559e04c3e56b2bc5d8d5257efe5e9a859ef4f3863", func := "loop.example/g00630/laws.FnExactCombined", spec := "fnExactCombined", unfollowed := true, recurses := true, apart := false }
def FnExactCombinedSaid : Prop := fnExactCombinedRow.holds Try.pinned (OpenSpec.ofChange fnExactCombinedSpec)

/-- ITS FALSE NEIGHBOUR: 'it returns false'. Refute it at one input. -/
def fnExactCombinedWrong : ChangeSpec := { name := "fnExactCombined", fn := fun _ => fun
  | [d1, d2, d3] => { results := [.lit (.bool false)], args := [d1, d2, d3] }
  | _ => none }
def FnExactCombinedWrongFalsely : Prop := fnExactCombinedRow.holds Try.pinned (OpenSpec.ofChange fnExactCombinedWrong)

/-- 'laws.FnCombined': WHATEVER THE INPUT: true; the input reads as it did. -/
def fnCombinedSpec : ChangeSpec := { name := "fnCombined", fn := fun _ => fun
  | [d] => { results := [.lit (.bool true)], args := [d] }
  | _ => none }
def fnCombinedRow : OpenClaim := { program := "ytnmlnenepceabaa", sum := "d12cc2e111e17a0d3f8a724559e04c3e56b2bc5d8d5257efe5e9a859ef4f3863", func := "loop.example/g00630/laws.FnCombined", spec := "fnCombined", unfollowed := true, recurses := true, apart := false }
def FnCombinedSaid : Prop := fnCombinedRow.holds Try.pinned (OpenSpec.ofChange fnCombinedSpec)

/-- ITS FALSE NEIGHBOUR: 'it returns false'. Refute it at one input. -/
def fnCombinedWrong : ChangeSpec := { name := "fnCombined", fn := fun _ => fun
  | [d] => { results := [.lit (.bool false)], args := [d] }
  | _ => none }
def FnCombinedWrongFalsely : Prop := fnCombinedRow.holds Try.pinned (OpenSpec.ofChange fnCombinedWrong)

/-- 'laws.FnCombinedThree': WHATEVER THE INPUT: true; the input reads as it did. -/
def fnCombinedThreeSpec : ChangeSpec := { name := "fnCombinedThree", fn := fun _ => fun
  | [d] => { results := [.lit (.bool true)], args := [d] }
  | _ => none }
def fnCombinedThreeRow : OpenClaim := { program := "ytnmlnenepceabaa", sum := "d12cc2e111e17a0d3f8a724559e04c3e56b2bc5d8d5257efe5e9a859ef4f3863", func := "loop.example/g00630/laws.FnCombinedThree", spec := "fnCombinedThree", unfollowed := true, recurses := true, apart := false }
def FnCombinedThreeSaid : Prop := fnCombinedThreeRow.holds Try.pinned (OpenSpec.ofChange fnCombinedThreeSpec)

/-- ITS FALSE NEIGHBOUR: 'it returns false'. Refute it at one input. -/
def fnCombinedThreeWrong : ChangeSpec := { name := "fnCombinedThree", fn := fun _ => fun
  | [d] => { results := [.lit (.bool false)], args := [d] }
  | _ => none }
def FnCombinedThreeWrongFalsely : Prop := fnCombinedThreeRow.holds Try.pinned (OpenSpec.ofChange fnCombinedThreeWrong)

/-- 'laws.FnCombinedSelf': WHATEVER THE INPUT: true; the input reads as it did. -/
def fnCombinedSelfSpec : ChangeSpec := { name := "fnCombinedSelf", fn := fun _ => fun
  | [d] => { results := [.lit (.bool true)], args := [d] }
  | _ => none }
def fnCombinedSelfRow : OpenClaim := { program := "ytnmlnenepceabaa", sum := "d12cc2e111e17a0d3f8a724559e04c3e56b2bc5d8d5257efe5e9a859ef4f3863", func := "loop.example/g00630/laws.FnCombinedSelf", spec := "fnCombinedSelf", unfollowed := true, recurses := true, apart := false }
def FnCombinedSelfSaid : Prop := fnCombinedSelfRow.holds Try.pinned (OpenSpec.ofChange fnCombinedSelfSpec)

/-- ITS FALSE NEIGHBOUR: 'it returns false'. Refute it at one input. -/
def fnCombinedSelfWrong : ChangeSpec := { name := "fnCombinedSelf", fn := fun _ => fun
  | [d] => { results := [.lit (.bool false)], args := [d] }
  | _ => none }
def FnCombinedSelfWrongFalsely : Prop := fnCombinedSelfRow.holds Try.pinned (OpenSpec.ofChange fnCombinedSelfWrong)

/-- 'laws.FnExactRunsOf': WHATEVER THE INPUT: true; the input reads as it did. -/
def fnExactRunsOfSpec : ChangeSpec := { name := "fnExactRunsOf", fn := fun _ => fun
  | [d1, d2] => { results := [.lit (.bool true)], args := [d1, d2] }
  | _ => none }
def fnExactRunsOfRow : OpenClaim := { program := "ytnmlnenepceabaa", sum := "d12cc2e111e17a0d3f8a724559e04c3e56b2bc5d8d5257efe5e9a859ef4f3863", func := "loop.example/g00630/laws.FnExactRunsOf", spec := "fnExactRunsOf", unfollowed := true, recurses := true, apart := false }
def FnExactRunsOfSaid : Prop := fnExactRunsOfRow.holds Try.pinned (OpenSpec.ofChange fnExactRunsOfSpec)

/-- ITS FALSE NEIGHBOUR: 'it returns false'. Refute it at one input. -/
def fnExactRunsOfWrong : ChangeSpec := { name := "fnExactRunsOf", fn := fun _ => fun
  | [d1, d2] => { results := [.lit (.bool false)], args := [d1, d2] }
  | _ => none }
def FnExactRunsOfWrongFalsely : Prop := fnExactRunsOfRow.holds Try.pinned (OpenSpec.ofChange fnExactRunsOfWrong)

/- THE SECOND FORM. 'bulk': how many values and letters a reading holds, each counted each time it is reached (what is shared counts as often as it is met; a slice's spare places count too). A statement '..UptoSaid' is the law's where the arguments, and the package variables that the reading takes, are together of bulk at most 1048576: NARROWER than '..Said'. Prove '..Said' where nothing that the law and all that it calls make is longer than what came in: it says more and counts as full. Else prove '..UptoSaid'. A law counts once. -/
mutual
def uptoBulk {H : Type} : DataW H → Nat
  | .lit (.string bytes) => bytes.length + 1
  | .lit _ => 1
  | .nil => 1
  | .ptr d => uptoBulk d + 1
  | .slice elems spare => uptoBulkAll elems + uptoBulkAll spare + 1
  | .agg parts => uptoBulkAll parts + 1
  | .iface _ d => uptoBulk d + 1
  | .map entries => uptoBulkEntries entries + 1
  | .held _ => 1
def uptoBulkAll {H : Type} : List (DataW H) → Nat
  | [] => 0
  | d :: r => uptoBulk d + uptoBulkAll r
def uptoBulkEntries {H : Type} : List (Lit × DataW H) → Nat
  | [] => 0
  | x :: r => uptoBulkEntry x + uptoBulkEntries r
def uptoBulkEntry {H : Type} : Lit × DataW H → Nat
  | (.string bytes, d) => bytes.length + uptoBulk d + 1
  | (_, d) => uptoBulk d + 1
 end
def uptoSmall : (H : Type) → List (DataW H) → Bool := fun _ ds => decide (uptoBulkAll ds ≤ 1048576)
def OpenSpec.upto (s : _root_.Go.ChangeSpec) : _root_.Go.OpenSpec := { _root_.Go.OpenSpec.ofChange s with cond := some uptoSmall }

/-- 'laws.FnExactReduced', WHERE WHAT IT READS IS OF BULK AT MOST 1048576: true; the input reads as it did. -/
def fnExactReducedUptoRow : OpenClaim := { program := "ytnmlnenepceabaa", sum := "d12cc2e111e17a0d3f8a724559e04c3e56b2bc5d8d5257efe5e9a859ef4f3863", func := "loop.example/g00630/laws.FnExactReduced", spec := "fnExactReduced", unfollowed := true, recurses := true, apart := false, narrowed := true }
def FnExactReducedUptoSaid : Prop := fnExactReducedUptoRow.holds Try.pinned (OpenSpec.upto fnExactReducedSpec)

/-- 'laws.FnReduced', WHERE WHAT IT READS IS OF BULK AT MOST 1048576: true; the input reads as it did. -/
def fnReducedUptoRow : OpenClaim := { program := "ytnmlnenepceabaa", sum := "d12cc2e111e17a0d3f8a724559e04c3e56b2bc5d8d5257efe5e9a859ef4f3863", func := "loop.example/g00630/laws.FnReduced", spec := "fnReduced", unfollowed := true, recurses := true, apart := false, narrowed := true }
def FnReducedUptoSaid : Prop := fnReducedUptoRow.holds Try.pinned (OpenSpec.upto fnReducedSpec)

/-- 'laws.FnKinds', WHERE WHAT IT READS IS OF BULK AT MOST 1048576: true; the input reads as it did. -/
def fnKindsUptoRow : OpenClaim := { program := "ytnmlnenepceabaa", sum := "d12cc2e111e17a0d3f8a724559e04c3e56b2bc5d8d5257efe5e9a859ef4f3863", func := "loop.example/g00630/laws.FnKinds", spec := "fnKinds", unfollowed := true, recurses := true, apart := false, narrowed := true }
def FnKindsUptoSaid : Prop := fnKindsUptoRow.holds Try.pinned (OpenSpec.upto fnKindsSpec)

/-- 'laws.FnReducedParts', WHERE WHAT IT READS IS OF BULK AT MOST 1048576: true; the input reads as it did. -/
def fnReducedPartsUptoRow : OpenClaim := { program := "ytnmlnenepceabaa", sum := "d12cc2e111e17a0d3f8a724559e04c3e56b2bc5d8d5257efe5e9a859ef4f3863", func := "loop.example/g00630/laws.FnReducedParts", spec := "fnReducedParts", unfollowed := true, recurses := true, apart := false, narrowed := true }
def FnReducedPartsUptoSaid : Prop := fnReducedPartsUptoRow.holds Try.pinned (OpenSpec.upto fnReducedPartsSpec)

/-- 'laws.FnJoinCounts', WHERE WHAT IT READS IS OF BULK AT MOST 1048576: true; the input reads as it did. -/
def fnJoinCountsUptoRow : OpenClaim := { program := "ytnmlnenepceabaa", sum := "d12cc2e111e17a0d3f8a724559e04c3e56b2bc5d8d5257efe5e9a859ef4f3863", func := "loop.example/g00630/laws.FnJoinCounts", spec := "fnJoinCounts", unfollowed := true, recurses := true, apart := false, narrowed := true }
def FnJoinCountsUptoSaid : Prop := fnJoinCountsUptoRow.holds Try.pinned (OpenSpec.upto fnJoinCountsSpec)

/-- 'laws.FnFirstKeys', WHERE WHAT IT READS IS OF BULK AT MOST 1048576: true; the input reads as it did. -/
def fnFirstKeysUptoRow : OpenClaim := { program := "ytnmlnenepceabaa", sum := "d12cc2e111e17a0d3f8a724559e04c3e56b2bc5d8d5257efe5e9a859ef4f3863", func := "loop.example/g00630/laws.FnFirstKeys", spec := "fnFirstKeys", unfollowed := true, recurses := true, apart := false, narrowed := true }
def FnFirstKeysUptoSaid : Prop := fnFirstKeysUptoRow.holds Try.pinned (OpenSpec.upto fnFirstKeysSpec)

/-- 'laws.FnSkewed', WHERE WHAT IT READS IS OF BULK AT MOST 1048576: true; the input reads as it did. -/
def fnSkewedUptoRow : OpenClaim := { program := "ytnmlnenepceabaa", sum := "d12cc2e111e17a0d3f8a724559e04c3e56b2bc5d8d5257efe5e9a859ef4f3863", func := "loop.example/g00630/laws.FnSkewed", spec := "fnSkewed", unfollowed := true, recurses := true, apart := false, narrowed := true }
def FnSkewedUptoSaid : Prop := fnSkewedUptoRow.holds Try.pinned (OpenSpec.upto fnSkewedSpec)

/-- 'laws.FnExactCombined', WHERE WHAT IT READS IS OF BULK AT MOST 1048576: true; the input reads as it did. -/
def fnExactCombinedUptoRow : OpenClaim := { program := "ytnmlnenepceabaa", sum := "d12cc2e111e17a0d3f8a724559e04c3e56b2bc5d8d5257efe5e9a859ef4f3863", func := "loop.example/g00630/laws.FnExactCombined", spec := "fnExactCombined", unfollowed := true, recurses := true, apart := false, narrowed := true }
def FnExactCombinedUptoSaid : Prop := fnExactCombinedUptoRow.holds Try.pinned (OpenSpec.upto fnExactCombinedSpec)

/-- 'laws.FnCombined', WHERE WHAT IT READS IS OF BULK AT MOST 1048576: true; the input reads as it did. -/
def fnCombinedUptoRow : OpenClaim := { program := "ytnmlnenepceabaa", sum := "d12cc2e111e17a0d3f8a724559e04c3e56b2bc5d8d5257efe5e9a859ef4f3863", func := "loop.example/g00630/laws.FnCombined", spec := "fnCombined", unfollowed := true, recurses := true, apart := false, narrowed := true }
def FnCombinedUptoSaid : Prop := fnCombinedUptoRow.holds Try.pinned (OpenSpec.upto fnCombinedSpec)

/-- 'laws.FnCombinedThree', WHERE WHAT IT READS IS OF BULK AT MOST 1048576: true; the input reads as it did. -/
def fnCombinedThreeUptoRow : OpenClaim := { program := "ytnmlnenepceabaa", sum := "d12cc2e111e17a0d3f8a724559e04c3e56b2bc5d8d5257efe5e9a859ef4f3863", func := "loop.example/g00630/laws.FnCombinedThree", spec := "fnCombinedThree", unfollowed := true, recurses := true, apart := false, narrowed := true }
def FnCombinedThreeUptoSaid : Prop := fnCombinedThreeUptoRow.holds Try.pinned (OpenSpec.upto fnCombinedThreeSpec)

/-- 'laws.FnCombinedSelf', WHERE WHAT IT READS IS OF BULK AT MOST 1048576: true; the input reads as it did. -/
def fnCombinedSelfUptoRow : OpenClaim := { program := "ytnmlnenepceabaa", sum := "d12cc2e111e17a0d3f8a724559e04c3e56b2bc5d8d5257efe5e9a859ef4f3863", func := "loop.example/g00630/laws.FnCombinedSelf", spec := "fnCombinedSelf", unfollowed := true, recurses := true, apart := false, narrowed := true }
def FnCombinedSelfUptoSaid : Prop := fnCombinedSelfUptoRow.holds Try.pinned (OpenSpec.upto fnCombinedSelfSpec)

/-- 'laws.FnExactRunsOf', WHERE WHAT IT READS IS OF BULK AT MOST 1048576: true; the input reads as it did. -/
def fnExactRunsOfUptoRow : OpenClaim := { program := "ytnmlnenepceabaa", sum := "d12cc2e111e17a0d3f8a724559e04c3e56b2bc5d8d5257efe5e9a859ef4f3863", func := "loop.example/g00630/laws.FnExactRunsOf", spec := "fnExactRunsOf", unfollowed := true, recurses := true, apart := false, narrowed := true }
def FnExactRunsOfUptoSaid : Prop := fnExactRunsOfUptoRow.holds Try.pinned (OpenSpec.upto fnExactRunsOfSpec)

end Rows
end Go.Proofs.Ytnmlnenepceabaa
