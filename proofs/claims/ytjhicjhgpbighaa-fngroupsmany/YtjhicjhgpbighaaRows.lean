/-
  No cell of these rows narrows 'for every input' (looked for: loops, veiled, ifaces, maps, wideKeys, modest, calm, conditions, laid).
  DERIVED. THE GIVEN ROWS OF THIS SEAT. 7 by the template 'for every input the law returns true; each argument reads behind the call as it read before'; 0 by the template 'total and deterministic' (their statements: YtjhicjhgpbighaaTotals.lean).
  GIVEN WITH THE SEED: the statements are not yours to turn. If you find one false, say at which input.
  Laid BY PROGRAM, IN A SANDBOX (cutbox-rows.mjs): the forced cells as the released guide's own fill.sh prints them over the translation 9c8b1bc1210bb17f… (all of the seat's roots in one cut). By AI agents, Wed Nov 11 2026. No macro, syntax, notation, axiom, sorry.
-/
import Derived.Test.YtjhicjhgpbighaaChecked
import GoSem.Claim
import GoSem.ClaimJoined
import GoSem.ClaimMapViews
import Derived.JoinedTies
import Derived.KernelRfl
namespace Go.Proofs.Ytjhicjhgpbighaa
/- THE CELL 'sum', in the pinned program and in every row, IS THE sha256 OF THE DUMP (.gsa) THAT YtjhicjhgpbighaaProg.lean LOADS. Nothing in Lean hashes anything: it is a label: what it is worth is what the hold of that sum in a sandbox is worth. -/
noncomputable def Try.pinned : Pinned := { name := "ytjhicjhgpbighaa", sum := "9c8b1bc1210bb17fa2f0e4798b2428d4fa8eb51080b0bb8f217e1719c74289b1", checked := Try.checked }
namespace Rows
def none {H : Type} : Left H := { results := [], args := [] }

/-- 'laws.FnFirst': WHATEVER THE INPUT: true; the input reads as it did. -/
def fnFirstSpec : ChangeSpec := { name := "fnFirst", fn := fun _ => fun
  | [d] => { results := [.lit (.bool true)], args := [d] }
  | _ => none }
def fnFirstRow : OpenClaim := { program := "ytjhicjhgpbighaa", sum := "9c8b1bc1210bb17fa2f0e4798b2428d4fa8eb51080b0bb8f217e1719c74289b1", func := "loop.example/g00630/laws.FnFirst", spec := "fnFirst", unfollowed := true, recurses := true, apart := false }
def FnFirstSaid : Prop := fnFirstRow.holds Try.pinned (OpenSpec.ofChange fnFirstSpec)

/-- ITS FALSE NEIGHBOUR: 'it returns false'. Refute it at one input. -/
def fnFirstWrong : ChangeSpec := { name := "fnFirst", fn := fun _ => fun
  | [d] => { results := [.lit (.bool false)], args := [d] }
  | _ => none }
def FnFirstWrongFalsely : Prop := fnFirstRow.holds Try.pinned (OpenSpec.ofChange fnFirstWrong)

/-- 'laws.FnGroupsMany': WHATEVER THE INPUT: true; the input reads as it did. -/
def fnGroupsManySpec : ChangeSpec := { name := "fnGroupsMany", fn := fun _ => fun
  | [d] => { results := [.lit (.bool true)], args := [d] }
  | _ => none }
def fnGroupsManyRow : OpenClaim := { program := "ytjhicjhgpbighaa", sum := "9c8b1bc1210bb17fa2f0e4798b2428d4fa8eb51080b0bb8f217e1719c74289b1", func := "loop.example/g00630/laws.FnGroupsMany", spec := "fnGroupsMany", unfollowed := true, recurses := true, apart := false }
def FnGroupsManySaid : Prop := fnGroupsManyRow.holds Try.pinned (OpenSpec.ofChange fnGroupsManySpec)

/-- ITS FALSE NEIGHBOUR: 'it returns false'. Refute it at one input. -/
def fnGroupsManyWrong : ChangeSpec := { name := "fnGroupsMany", fn := fun _ => fun
  | [d] => { results := [.lit (.bool false)], args := [d] }
  | _ => none }
def FnGroupsManyWrongFalsely : Prop := fnGroupsManyRow.holds Try.pinned (OpenSpec.ofChange fnGroupsManyWrong)

/-- 'laws.FnFirstTwice': WHATEVER THE INPUT: true; the input reads as it did. -/
def fnFirstTwiceSpec : ChangeSpec := { name := "fnFirstTwice", fn := fun _ => fun
  | [d] => { results := [.lit (.bool true)], args := [d] }
  | _ => none }
def fnFirstTwiceRow : OpenClaim := { program := "ytjhicjhgpbighaa", sum := "9c8b1bc1210bb17fa2f0e4798b2428d4fa8eb51080b0bb8f217e1719c74289b1", func := "loop.example/g00630/laws.FnFirstTwice", spec := "fnFirstTwice", unfollowed := true, recurses := true, apart := false }
def FnFirstTwiceSaid : Prop := fnFirstTwiceRow.holds Try.pinned (OpenSpec.ofChange fnFirstTwiceSpec)

/-- ITS FALSE NEIGHBOUR: 'it returns false'. Refute it at one input. -/
def fnFirstTwiceWrong : ChangeSpec := { name := "fnFirstTwice", fn := fun _ => fun
  | [d] => { results := [.lit (.bool false)], args := [d] }
  | _ => none }
def FnFirstTwiceWrongFalsely : Prop := fnFirstTwiceRow.holds Try.pinned (OpenSpec.ofChange fnFirstTwiceWrong)

/-- 'laws.FnSkewLess': WHATEVER THE INPUT: true; the input reads as it did. -/
def fnSkewLessSpec : ChangeSpec := { name := "fnSkewLess", fn := fun _ => fun
  | [d] => { results := [.lit (.bool true)], args := [d] }
  | _ => none }
def fnSkewLessRow : OpenClaim := { program := "ytjhicjhgpbighaa", sum := "9c8b1bc1210bb17fa2f0e4798b2428d4fa8eb51080b0bb8f217e1719c74289b1", func := "loop.example/g00630/laws.FnSkewLess", spec := "fnSkewLess", unfollowed := true, recurses := true, apart := false }
def FnSkewLessSaid : Prop := fnSkewLessRow.holds Try.pinned (OpenSpec.ofChange fnSkewLessSpec)

/-- ITS FALSE NEIGHBOUR: 'it returns false'. Refute it at one input. -/
def fnSkewLessWrong : ChangeSpec := { name := "fnSkewLess", fn := fun _ => fun
  | [d] => { results := [.lit (.bool false)], args := [d] }
  | _ => none }
def FnSkewLessWrongFalsely : Prop := fnSkewLessRow.holds Try.pinned (OpenSpec.ofChange fnSkewLessWrong)

/-- 'laws.FnExactChained': WHATEVER THE INPUT: true; the input reads as it did. -/
def fnExactChainedSpec : ChangeSpec := { name := "fnExactChained", fn := fun _ => fun
  | [d1, d2, d3] => { results := [.lit (.bool true)], args := [d1, d2, d3] }
  | _ => none }
def fnExactChainedRow : OpenClaim := { program := "ytjhicjhgpbighaa", sum := "9c8b1bc1210bb17fa2f0e4798b2428d4fa8eb51080b0bb8f217e1719c74289b1", func := "loop.example/g00630/laws.FnExactChained", spec := "fnExactChained", unfollowed := true, recurses := true, apart := false }
def FnExactChainedSaid : Prop := fnExactChainedRow.holds Try.pinned (OpenSpec.ofChange fnExactChainedSpec)

/-- ITS FALSE NEIGHBOUR: 'it returns false'. Refute it at one input. -/
def fnExactChainedWrong : ChangeSpec := { name := "fnExactChained", fn := fun _ => fun
  | [d1, d2, d3] => { results := [.lit (.bool false)], args := [d1, d2, d3] }
  | _ => none }
def FnExactChainedWrongFalsely : Prop := fnExactChainedRow.holds Try.pinned (OpenSpec.ofChange fnExactChainedWrong)

/-- 'laws.FnExactSkewJoin': WHATEVER THE INPUT: true; the input reads as it did. -/
def fnExactSkewJoinSpec : ChangeSpec := { name := "fnExactSkewJoin", fn := fun _ => fun
  | [d1, d2, d3] => { results := [.lit (.bool true)], args := [d1, d2, d3] }
  | _ => none }
def fnExactSkewJoinRow : OpenClaim := { program := "ytjhicjhgpbighaa", sum := "9c8b1bc1210bb17fa2f0e4798b2428d4fa8eb51080b0bb8f217e1719c74289b1", func := "loop.example/g00630/laws.FnExactSkewJoin", spec := "fnExactSkewJoin", unfollowed := true, recurses := true, apart := false }
def FnExactSkewJoinSaid : Prop := fnExactSkewJoinRow.holds Try.pinned (OpenSpec.ofChange fnExactSkewJoinSpec)

/-- ITS FALSE NEIGHBOUR: 'it returns false'. Refute it at one input. -/
def fnExactSkewJoinWrong : ChangeSpec := { name := "fnExactSkewJoin", fn := fun _ => fun
  | [d1, d2, d3] => { results := [.lit (.bool false)], args := [d1, d2, d3] }
  | _ => none }
def FnExactSkewJoinWrongFalsely : Prop := fnExactSkewJoinRow.holds Try.pinned (OpenSpec.ofChange fnExactSkewJoinWrong)

/-- 'laws.FnExactRunsOf': WHATEVER THE INPUT: true; the input reads as it did. -/
def fnExactRunsOfSpec : ChangeSpec := { name := "fnExactRunsOf", fn := fun _ => fun
  | [d1, d2] => { results := [.lit (.bool true)], args := [d1, d2] }
  | _ => none }
def fnExactRunsOfRow : OpenClaim := { program := "ytjhicjhgpbighaa", sum := "9c8b1bc1210bb17fa2f0e4798b2428d4fa8eb51080b0bb8f217e1719c74289b1", func := "loop.example/g00630/laws.FnExactRunsOf", spec := "fnExactRunsOf", unfollowed := true, recurses := true, apart := false }
def FnExactRunsOfSaid : Prop := fnExactRunsOfRow.holds Try.pinned (OpenSpec.ofChange fnExactRunsOfSpec)

/-- ITS FALSE NEIGHBOUR: 'it returns false'. Refute it at one input. -/
def fnExactRunsOfWrong : ChangeSpec := { name := "fnExactRunsOf", fn := fun _ => fun
  | [d1, d2] => { results := [.lit (.bool false)], args := [d1, d2] }
  | _ => none }
def FnExactRunsOfWrongFalsely : Prop := fnExactRunsOfRow.holds Try.pinned (OpenSpec.ofChange fnExactRunsOfWrong)

/- THE SECOND FORM. 'bulk': how many values and letters a reading holds, each counted each time it is reached (what is shared counts as often as it is met; a slice's spare places count too). A statement '..UptoSaid' is the law's where the arguments, and the package variables that the reading takes, are together of bulk at most 1048576: NARROWER than '..Said'. Prove '..Said' where nothing that the law and all that it calls make is longer than what came in: it says more and counts as full. Else prove '..UptoSaid'. A law counts once. -/
mutual
def uptoBulk {H : Type} : DataW H → Nat
  | .lit (.string bytes) => bytes.length + 1
  | .lit _ => 1
  | .nil => 1
  | .ptr d => uptoBulk d + 1
  | .slice elems spare => uptoBulkAll elems + uptoBulkAll spare + 1
  | .agg parts => uptoBulkAll parts + 1
  | .iface _ d => uptoBulk d + 1
  | .map entries => uptoBulkEntries entries + 1
  | .held _ => 1
def uptoBulkAll {H : Type} : List (DataW H) → Nat
  | [] => 0
  | d :: r => uptoBulk d + uptoBulkAll r
def uptoBulkEntries {H : Type} : List (Lit × DataW H) → Nat
  | [] => 0
  | x :: r => uptoBulkEntry x + uptoBulkEntries r
def uptoBulkEntry {H : Type} : Lit × DataW H → Nat
  | (.string bytes, d) => bytes.length + uptoBulk d + 1
  | (_, d) => uptoBulk d + 1
 end
def uptoSmall : (H : Type) → List (DataW H) → Bool := fun _ ds => decide (uptoBulkAll ds ≤ 1048576)
def OpenSpec.upto (s : _root_.Go.ChangeSpec) : _root_.Go.OpenSpec := { _root_.Go.OpenSpec.ofChange s with cond := some uptoSmall }

/-- 'laws.FnFirst', WHERE WHAT IT READS IS OF BULK AT MOST 1048576: true; the input reads as it did. -/
def fnFirstUptoRow : OpenClaim := { program := "ytjhicjhgpbighaa", sum := "9c8b1bc1210bb17fa2f0e4798b2428d4fa8eb51080b0bb8f217e1719c74289b1", func := "loop.example/g00630/laws.FnFirst", spec := "fnFirst", unfollowed := true, recurses := true, apart := false, narrowed := true }
def FnFirstUptoSaid : Prop := fnFirstUptoRow.holds Try.pinned (OpenSpec.upto fnFirstSpec)

/-- 'laws.FnGroupsMany', WHERE WHAT IT READS IS OF BULK AT MOST 1048576: true; the input reads as it did. -/
def fnGroupsManyUptoRow : OpenClaim := { program := "ytjhicjhgpbighaa", sum := "9c8b1bc1210bb17fa2f0e4798b2428d4fa8eb51080b0bb8f217e1719c74289b1", func := "loop.example/g00630/laws.FnGroupsMany", spec := "fnGroupsMany", unfollowed := true, recurses := true, apart := false, narrowed := true }
def FnGroupsManyUptoSaid : Prop := fnGroupsManyUptoRow.holds Try.pinned (OpenSpec.upto fnGroupsManySpec)

/-- 'laws.FnFirstTwice', WHERE WHAT IT READS IS OF BULK AT MOST 1048576: true; the input reads as it did. -/
def fnFirstTwiceUptoRow : OpenClaim := { program := "ytjhicjhgpbighaa", sum := "9c8b1bc1210bb17fa2f0e4798b2428d4fa8eb51080b0bb8f217e1719c74289b1", func := "loop.example/g00630/laws.FnFirstTwice", spec := "fnFirstTwice", unfollowed := true, recurses := true, apart := false, narrowed := true }
def FnFirstTwiceUptoSaid : Prop := fnFirstTwiceUptoRow.holds Try.pinned (OpenSpec.upto fnFirstTwiceSpec)

/-- 'laws.FnSkewLess', WHERE WHAT IT READS IS OF BULK AT MOST 1048576: true; the input reads as it did. -/
def fnSkewLessUptoRow : OpenClaim := { program := "ytjhicjhgpbighaa", sum := "9c8b1bc1210bb17fa2f0e4798b2428d4fa8eb51080b0bb8f217e1719c74289b1", func := "loop.example/g00630/laws.FnSkewLess", spec := "fnSkewLess", unfollowed := true, recurses := true, apart := false, narrowed := true }
def FnSkewLessUptoSaid : Prop := fnSkewLessUptoRow.holds Try.pinned (OpenSpec.upto fnSkewLessSpec)

/-- 'laws.FnExactChained', WHERE WHAT IT READS IS OF BULK AT MOST 1048576: true; the input reads as it did. -/
def fnExactChainedUptoRow : OpenClaim := { program := "ytjhicjhgpbighaa", sum := "9c8b1bc1210bb17fa2f0e4798b2428d4fa8eb51080b0bb8f217e1719c74289b1", func := "loop.example/g00630/laws.FnExactChained", spec := "fnExactChained", unfollowed := true, recurses := true, apart := false, narrowed := true }
def FnExactChainedUptoSaid : Prop := fnExactChainedUptoRow.holds Try.pinned (OpenSpec.upto fnExactChainedSpec)

/-- 'laws.FnExactSkewJoin', WHERE WHAT IT READS IS OF BULK AT MOST 1048576: true; the input reads as it did. -/
def fnExactSkewJoinUptoRow : OpenClaim := { program := "ytjhicjhgpbighaa", sum := "9c8b1bc1210bb17fa2f0e4798b2428d4fa8eb51080b0bb8f217e1719c74289b1", func := "loop.example/g00630/laws.FnExactSkewJoin", spec := "fnExactSkewJoin", unfollowed := true, recurses := true, apart := false, narrowed := true }
def FnExactSkewJoinUptoSaid : Prop := fnExactSkewJoinUptoRow.holds Try.pinned (OpenSpec.upto fnExactSkewJoinSpec)

/-- 'laws.FnExactRunsOf', WHERE WHAT IT READS IS OF BULK AT MOST 1048576: true; the input reads as it did. -/
def fnExactRunsOfUptoRow : OpenClaim := { program := "ytjhicjhgpbighaa", sum := "9c8b1bc1210bb17fa2f0e4798b2428d4fa8eb51080b0bb8f217e1719c74289b1", func := "loop.example/g00630/laws.FnExactRunsOf", spec := "fnExactRunsOf", unfollowed := true, recurses := true, apart := false, narrowed := true }
def FnExactRunsOfUptoSaid : Prop := fnExactRunsOfUptoRow.holds Try.pinned (OpenSpec.upto fnExactRunsOfSpec)

end Rows
end Go.Proofs.Ytjhicjhgpbighaa
