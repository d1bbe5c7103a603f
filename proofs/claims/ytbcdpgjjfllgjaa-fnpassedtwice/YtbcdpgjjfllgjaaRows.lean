/-
  No cell of these rows narrows 'for every input' (looked for: loops, veiled, ifaces, maps, wideKeys, modest, calm, conditions, laid).
  DERIVED. THE GIVEN ROWS OF THIS SEAT. 12 by the template 'for every input the law returns true; each argument reads behind the call as it read before'; 0 by the template 'total and deterministic' (their statements: YtbcdpgjjfllgjaaTotals.lean).
  GIVEN WITH THE SEED: the statements are not yours to turn. If you find one false, say at which input.
  Laid BY PROGRAM, IN A SANDBOX (cutbox-rows.mjs): the forced cells as the released guide's own fill.sh prints them over the translation 29593359bd334fcb… (all of the seat's roots in one cut). By AI agents, Wed Nov 11 2026. No macro, syntax, notation, axiom, sorry.
-/
import Derived.Test.YtbcdpgjjfllgjaaChecked
import GoSem.Claim
import GoSem.ClaimJoined
import GoSem.ClaimMapViews
import Derived.JoinedTies
import Derived.KernelRfl
namespace Go.Proofs.Ytbcdpgjjfllgjaa
/- THE CELL 'sum', in the pinned program and in every row, IS THE sha256 OF THE DUMP (.gsa) THAT YtbcdpgjjfllgjaaProg.lean LOADS. Nothing in Lean hashes anything: it is a label: what it is worth is what the hold of that sum in a sandbox is worth. -/
noncomputable def Try.pinned : Pinned := { name := "ytbcdpgjjfllgjaa", sum := "29593359bd334fcbc34901643b169d23641bfa064751a1bb8a4745e66f157edb", checked := Try.checked }
namespace Rows
def none {H : Type} : Left H := { results := [], args := [] }

/-- 'laws.FnExactJoinOf': WHATEVER THE INPUT: true; the input reads as it did. -/
def fnExactJoinOfSpec : ChangeSpec := { name := "fnExactJoinOf", fn := fun _ => fun
  | [d1, d2, d3] => { results := [.lit (.bool true)], args := [d1, d2, d3] }
  | _ => none }
def fnExactJoinOfRow : OpenClaim := { program := "ytbcdpgjjfllgjaa", sum := "29593359bd334fcbc34901643b169d23641bfa064751a1bb8a4745e66f157edb", func := "loop.example/g00630/laws.FnExactJoinOf", spec := "fnExactJoinOf", unfollowed := true, recurses := true, apart := false }
def FnExactJoinOfSaid : Prop := fnExactJoinOfRow.holds Try.pinned (OpenSpec.ofChange fnExactJoinOfSpec)

/-- ITS FALSE NEIGHBOUR: 'it returns false'. Refute it at one input. -/
def fnExactJoinOfWrong : ChangeSpec := { name := "fnExactJoinOf", fn := fun _ => fun
  | [d1, d2, d3] => { results := [.lit (.bool false)], args := [d1, d2, d3] }
  | _ => none }
def FnExactJoinOfWrongFalsely : Prop := fnExactJoinOfRow.holds Try.pinned (OpenSpec.ofChange fnExactJoinOfWrong)

/-- 'laws.FnExactMergeJoin': WHATEVER THE INPUT: true; the input reads as it did. -/
def fnExactMergeJoinSpec : ChangeSpec := { name := "fnExactMergeJoin", fn := fun _ => fun
  | [d1, d2, d3] => { results := [.lit (.bool true)], args := [d1, d2, d3] }
  | _ => none }
def fnExactMergeJoinRow : OpenClaim := { program := "ytbcdpgjjfllgjaa", sum := "29593359bd334fcbc34901643b169d23641bfa064751a1bb8a4745e66f157edb", func := "loop.example/g00630/laws.FnExactMergeJoin", spec := "fnExactMergeJoin", unfollowed := true, recurses := true, apart := false }
def FnExactMergeJoinSaid : Prop := fnExactMergeJoinRow.holds Try.pinned (OpenSpec.ofChange fnExactMergeJoinSpec)

/-- ITS FALSE NEIGHBOUR: 'it returns false'. Refute it at one input. -/
def fnExactMergeJoinWrong : ChangeSpec := { name := "fnExactMergeJoin", fn := fun _ => fun
  | [d1, d2, d3] => { results := [.lit (.bool false)], args := [d1, d2, d3] }
  | _ => none }
def FnExactMergeJoinWrongFalsely : Prop := fnExactMergeJoinRow.holds Try.pinned (OpenSpec.ofChange fnExactMergeJoinWrong)

/-- 'laws.FnInner': WHATEVER THE INPUT: true; the input reads as it did. -/
def fnInnerSpec : ChangeSpec := { name := "fnInner", fn := fun _ => fun
  | [d] => { results := [.lit (.bool true)], args := [d] }
  | _ => none }
def fnInnerRow : OpenClaim := { program := "ytbcdpgjjfllgjaa", sum := "29593359bd334fcbc34901643b169d23641bfa064751a1bb8a4745e66f157edb", func := "loop.example/g00630/laws.FnInner", spec := "fnInner", unfollowed := true, recurses := true, apart := false }
def FnInnerSaid : Prop := fnInnerRow.holds Try.pinned (OpenSpec.ofChange fnInnerSpec)

/-- ITS FALSE NEIGHBOUR: 'it returns false'. Refute it at one input. -/
def fnInnerWrong : ChangeSpec := { name := "fnInner", fn := fun _ => fun
  | [d] => { results := [.lit (.bool false)], args := [d] }
  | _ => none }
def FnInnerWrongFalsely : Prop := fnInnerRow.holds Try.pinned (OpenSpec.ofChange fnInnerWrong)

/-- 'laws.FnSemi': WHATEVER THE INPUT: true; the input reads as it did. -/
def fnSemiSpec : ChangeSpec := { name := "fnSemi", fn := fun _ => fun
  | [d] => { results := [.lit (.bool true)], args := [d] }
  | _ => none }
def fnSemiRow : OpenClaim := { program := "ytbcdpgjjfllgjaa", sum := "29593359bd334fcbc34901643b169d23641bfa064751a1bb8a4745e66f157edb", func := "loop.example/g00630/laws.FnSemi", spec := "fnSemi", unfollowed := true, recurses := true, apart := false }
def FnSemiSaid : Prop := fnSemiRow.holds Try.pinned (OpenSpec.ofChange fnSemiSpec)

/-- ITS FALSE NEIGHBOUR: 'it returns false'. Refute it at one input. -/
def fnSemiWrong : ChangeSpec := { name := "fnSemi", fn := fun _ => fun
  | [d] => { results := [.lit (.bool false)], args := [d] }
  | _ => none }
def FnSemiWrongFalsely : Prop := fnSemiRow.holds Try.pinned (OpenSpec.ofChange fnSemiWrong)

/-- 'laws.FnJoinNone': WHATEVER THE INPUT: true; the input reads as it did. -/
def fnJoinNoneSpec : ChangeSpec := { name := "fnJoinNone", fn := fun _ => fun
  | [d] => { results := [.lit (.bool true)], args := [d] }
  | _ => none }
def fnJoinNoneRow : OpenClaim := { program := "ytbcdpgjjfllgjaa", sum := "29593359bd334fcbc34901643b169d23641bfa064751a1bb8a4745e66f157edb", func := "loop.example/g00630/laws.FnJoinNone", spec := "fnJoinNone", unfollowed := true, recurses := true, apart := false }
def FnJoinNoneSaid : Prop := fnJoinNoneRow.holds Try.pinned (OpenSpec.ofChange fnJoinNoneSpec)

/-- ITS FALSE NEIGHBOUR: 'it returns false'. Refute it at one input. -/
def fnJoinNoneWrong : ChangeSpec := { name := "fnJoinNone", fn := fun _ => fun
  | [d] => { results := [.lit (.bool false)], args := [d] }
  | _ => none }
def FnJoinNoneWrongFalsely : Prop := fnJoinNoneRow.holds Try.pinned (OpenSpec.ofChange fnJoinNoneWrong)

/-- 'laws.FnJoinSelf': WHATEVER THE INPUT: true; the input reads as it did. -/
def fnJoinSelfSpec : ChangeSpec := { name := "fnJoinSelf", fn := fun _ => fun
  | [d] => { results := [.lit (.bool true)], args := [d] }
  | _ => none }
def fnJoinSelfRow : OpenClaim := { program := "ytbcdpgjjfllgjaa", sum := "29593359bd334fcbc34901643b169d23641bfa064751a1bb8a4745e66f157edb", func := "loop.example/g00630/laws.FnJoinSelf", spec := "fnJoinSelf", unfollowed := true, recurses := true, apart := false }
def FnJoinSelfSaid : Prop := fnJoinSelfRow.holds Try.pinned (OpenSpec.ofChange fnJoinSelfSpec)

/-- ITS FALSE NEIGHBOUR: 'it returns false'. Refute it at one input. -/
def fnJoinSelfWrong : ChangeSpec := { name := "fnJoinSelf", fn := fun _ => fun
  | [d] => { results := [.lit (.bool false)], args := [d] }
  | _ => none }
def FnJoinSelfWrongFalsely : Prop := fnJoinSelfRow.holds Try.pinned (OpenSpec.ofChange fnJoinSelfWrong)

/-- 'laws.FnJoinMore': WHATEVER THE INPUT: true; the input reads as it did. -/
def fnJoinMoreSpec : ChangeSpec := { name := "fnJoinMore", fn := fun _ => fun
  | [d] => { results := [.lit (.bool true)], args := [d] }
  | _ => none }
def fnJoinMoreRow : OpenClaim := { program := "ytbcdpgjjfllgjaa", sum := "29593359bd334fcbc34901643b169d23641bfa064751a1bb8a4745e66f157edb", func := "loop.example/g00630/laws.FnJoinMore", spec := "fnJoinMore", unfollowed := true, recurses := true, apart := false }
def FnJoinMoreSaid : Prop := fnJoinMoreRow.holds Try.pinned (OpenSpec.ofChange fnJoinMoreSpec)

/-- ITS FALSE NEIGHBOUR: 'it returns false'. Refute it at one input. -/
def fnJoinMoreWrong : ChangeSpec := { name := "fnJoinMore", fn := fun _ => fun
  | [d] => { results := [.lit (.bool false)], args := [d] }
  | _ => none }
def FnJoinMoreWrongFalsely : Prop := fnJoinMoreRow.holds Try.pinned (OpenSpec.ofChange fnJoinMoreWrong)

/-- 'laws.FnOuter': WHATEVER THE INPUT: true; the input reads as it did. -/
def fnOuterSpec : ChangeSpec := { name := "fnOuter", fn := fun _ => fun
  | [d] => { results := [.lit (.bool true)], args := [d] }
  | _ => none }
def fnOuterRow : OpenClaim := { program := "ytbcdpgjjfllgjaa", sum := "29593359bd334fcbc34901643b169d23641bfa064751a1bb8a4745e66f157edb", func := "loop.example/g00630/laws.FnOuter", spec := "fnOuter", unfollowed := true, recurses := true, apart := false }
def FnOuterSaid : Prop := fnOuterRow.holds Try.pinned (OpenSpec.ofChange fnOuterSpec)

/-- ITS FALSE NEIGHBOUR: 'it returns false'. Refute it at one input. -/
def fnOuterWrong : ChangeSpec := { name := "fnOuter", fn := fun _ => fun
  | [d] => { results := [.lit (.bool false)], args := [d] }
  | _ => none }
def FnOuterWrongFalsely : Prop := fnOuterRow.holds Try.pinned (OpenSpec.ofChange fnOuterWrong)

/-- 'laws.FnMergeJoin': WHATEVER THE INPUT: true; the input reads as it did. -/
def fnMergeJoinSpec : ChangeSpec := { name := "fnMergeJoin", fn := fun _ => fun
  | [d] => { results := [.lit (.bool true)], args := [d] }
  | _ => none }
def fnMergeJoinRow : OpenClaim := { program := "ytbcdpgjjfllgjaa", sum := "29593359bd334fcbc34901643b169d23641bfa064751a1bb8a4745e66f157edb", func := "loop.example/g00630/laws.FnMergeJoin", spec := "fnMergeJoin", unfollowed := true, recurses := true, apart := false }
def FnMergeJoinSaid : Prop := fnMergeJoinRow.holds Try.pinned (OpenSpec.ofChange fnMergeJoinSpec)

/-- ITS FALSE NEIGHBOUR: 'it returns false'. Refute it at one input. -/
def fnMergeJoinWrong : ChangeSpec := { name := "fnMergeJoin", fn := fun _ => fun
  | [d] => { results := [.lit (.bool false)], args := [d] }
  | _ => none }
def FnMergeJoinWrongFalsely : Prop := fnMergeJoinRow.holds Try.pinned (OpenSpec.ofChange fnMergeJoinWrong)

/-- 'laws.FnPassed': WHATEVER THE INPUT: true; the input reads as it did. -/
def fnPassedSpec : ChangeSpec := { name := "fnPassed", fn := fun _ => fun
  | [d] => { results := [.lit (.bool true)], args := [d] }
  | _ => none }
def fnPassedRow : OpenClaim := { program := "ytbcdpgjjfllgjaa", sum := "29593359bd334fcbc34901643b169d23641bfa064751a1bb8a4745e66f157edb", func := "loop.example/g00630/laws.FnPassed", spec := "fnPassed", unfollowed := true, recurses := true, apart := false }
def FnPassedSaid : Prop := fnPassedRow.holds Try.pinned (OpenSpec.ofChange fnPassedSpec)

/-- ITS FALSE NEIGHBOUR: 'it returns false'. Refute it at one input. -/
def fnPassedWrong : ChangeSpec := { name := "fnPassed", fn := fun _ => fun
  | [d] => { results := [.lit (.bool false)], args := [d] }
  | _ => none }
def FnPassedWrongFalsely : Prop := fnPassedRow.holds Try.pinned (OpenSpec.ofChange fnPassedWrong)

/-- 'laws.FnPassedTwice': WHATEVER THE INPUT: true; the input reads as it did. -/
def fnPassedTwiceSpec : ChangeSpec := { name := "fnPassedTwice", fn := fun _ => fun
  | [d] => { results := [.lit (.bool true)], args := [d] }
  | _ => none }
def fnPassedTwiceRow : OpenClaim := { program := "ytbcdpgjjfllgjaa", sum := "29593359bd334fcbc34901643b169d23641bfa064751a1bb8a4745e66f157edb", func := "loop.example/g00630/laws.FnPassedTwice", spec := "fnPassedTwice", unfollowed := true, recurses := true, apart := false }
def FnPassedTwiceSaid : Prop := fnPassedTwiceRow.holds Try.pinned (OpenSpec.ofChange fnPassedTwiceSpec)

/-- ITS FALSE NEIGHBOUR: 'it returns false'. Refute it at one input. -/
def fnPassedTwiceWrong : ChangeSpec := { name := "fnPassedTwice", fn := fun _ => fun
  | [d] => { results := [.lit (.bool false)], args := [d] }
  | _ => none }
def FnPassedTwiceWrongFalsely : Prop := fnPassedTwiceRow.holds Try.pinned (OpenSpec.ofChange fnPassedTwiceWrong)

/-- 'laws.FnJoinParts': WHATEVER THE INPUT: true; the input reads as it did. -/
def fnJoinPartsSpec : ChangeSpec := { name := "fnJoinParts", fn := fun _ => fun
  | [d] => { results := [.lit (.bool true)], args := [d] }
  | _ => none }
def fnJoinPartsRow : OpenClaim := { program := "ytbcdpgjjfllgjaa", sum := "29593359bd334fcbc34901643b169d23641bfa064751a1bb8a4745e66f157edb", func := "loop.example/g00630/laws.FnJoinParts", spec := "fnJoinParts", unfollowed := true, recurses := true, apart := false }
def FnJoinPartsSaid : Prop := fnJoinPartsRow.holds Try.pinned (OpenSpec.ofChange fnJoinPartsSpec)

/-- ITS FALSE NEIGHBOUR: 'it returns false'. Refute it at one input. -/
def fnJoinPartsWrong : ChangeSpec := { name := "fnJoinParts", fn := fun _ => fun
  | [d] => { results := [.lit (.bool false)], args := [d] }
  | _ => none }
def FnJoinPartsWrongFalsely : Prop := fnJoinPartsRow.holds Try.pinned (OpenSpec.ofChange fnJoinPartsWrong)

/- THE SECOND FORM. 'bulk': how many values and letters a reading holds, each counted each time it is reached (what is shared counts as often as it is met; a slice's spare places count too). A statement '..UptoSaid' is the law's where the arguments, and the package variables that the reading takes, are together of bulk at most 1048576: NARROWER than '..Said'. Prove '..Said' where nothing that the law and all that it calls make is longer than what came in: it says more and counts as full. Else prove '..UptoSaid'. A law counts once. -/
mutual
def uptoBulk {H : Type} : DataW H → Nat
  | .lit (.string bytes) => bytes.length + 1
  | .lit _ => 1
  | .nil => 1
  | .ptr d => uptoBulk d + 1
  | .slice elems spare => uptoBulkAll elems + uptoBulkAll spare + 1
  | .agg parts => uptoBulkAll parts + 1
  | .iface _ d => uptoBulk d + 1
  | .map entries => uptoBulkEntries entries + 1
  | .held _ => 1
def uptoBulkAll {H : Type} : List (DataW H) → Nat
  | [] => 0
  | d :: r => uptoBulk d + uptoBulkAll r
def uptoBulkEntries {H : Type} : List (Lit × DataW H) → Nat
  | [] => 0
  | x :: r => uptoBulkEntry x + uptoBulkEntries r
def uptoBulkEntry {H : Type} : Lit × DataW H → Nat
  | (.string bytes, d) => bytes.length + uptoBulk d + 1
  | (_, d) => uptoBulk d + 1
 end
def uptoSmall : (H : Type) → List (DataW H) → Bool := fun _ ds => decide (uptoBulkAll ds ≤ 1048576)
def OpenSpec.upto (s : _root_.Go.ChangeSpec) : _root_.Go.OpenSpec := { _root_.Go.OpenSpec.ofChange s with cond := some uptoSmall }

/-- 'laws.FnExactJoinOf', WHERE WHAT IT READS IS OF BULK AT MOST 1048576: true; the input reads as it did. -/
def fnExactJoinOfUptoRow : OpenClaim := { program := "ytbcdpgjjfllgjaa", sum := "29593359bd334fcbc34901643b169d23641bfa064751a1bb8a4745e66f157edb", func := "loop.example/g00630/laws.FnExactJoinOf", spec := "fnExactJoinOf", unfollowed := true, recurses := true, apart := false, narrowed := true }
def FnExactJoinOfUptoSaid : Prop := fnExactJoinOfUptoRow.holds Try.pinned (OpenSpec.upto fnExactJoinOfSpec)

/-- 'laws.FnExactMergeJoin', WHERE WHAT IT READS IS OF BULK AT MOST 1048576: true; the input reads as it did. -/
def fnExactMergeJoinUptoRow : OpenClaim := { program := "ytbcdpgjjfllgjaa", sum := "29593359bd334fcbc34901643b169d23641bfa064751a1bb8a4745e66f157edb", func := "loop.example/g00630/laws.FnExactMergeJoin", spec := "fnExactMergeJoin", unfollowed := true, recurses := true, apart := false, narrowed := true }
def FnExactMergeJoinUptoSaid : Prop := fnExactMergeJoinUptoRow.holds Try.pinned (OpenSpec.upto fnExactMergeJoinSpec)

/-- 'laws.FnInner', WHERE WHAT IT READS IS OF BULK AT MOST 1048576: true; the input reads as it did. -/
def fnInnerUptoRow : OpenClaim := { program := "ytbcdpgjjfllgjaa", sum := "29593359bd334fcbc34901643b169d23641bfa064751a1bb8a4745e66f157edb", func := "loop.example/g00630/laws.FnInner", spec := "fnInner", unfollowed := true, recurses := true, apart := false, narrowed := true }
def FnInnerUptoSaid : Prop := fnInnerUptoRow.holds Try.pinned (OpenSpec.upto fnInnerSpec)

/-- 'laws.FnSemi', WHERE WHAT IT READS IS OF BULK AT MOST 1048576: true; the input reads as it did. -/
def fnSemiUptoRow : OpenClaim := { program := "ytbcdpgjjfllgjaa", sum := "29593359bd334fcbc34901643b169d23641bfa064751a1bb8a4745e66f157edb", func := "loop.example/g00630/laws.FnSemi", spec := "fnSemi", unfollowed := true, recurses := true, apart := false, narrowed := true }
def FnSemiUptoSaid : Prop := fnSemiUptoRow.holds Try.pinned (OpenSpec.upto fnSemiSpec)

/-- 'laws.FnJoinNone', WHERE WHAT IT READS IS OF BULK AT MOST 1048576: true; the input reads as it did. -/
def fnJoinNoneUptoRow : OpenClaim := { program := "ytbcdpgjjfllgjaa", sum := "29593359bd334fcbc34901643b169d23641bfa064751a1bb8a4745e66f157edb", func := "loop.example/g00630/laws.FnJoinNone", spec := "fnJoinNone", unfollowed := true, recurses := true, apart := false, narrowed := true }
def FnJoinNoneUptoSaid : Prop := fnJoinNoneUptoRow.holds Try.pinned (OpenSpec.upto fnJoinNoneSpec)

/-- 'laws.FnJoinSelf', WHERE WHAT IT READS IS OF BULK AT MOST 1048576: true; the input reads as it did. -/
def fnJoinSelfUptoRow : OpenClaim := { program := "ytbcdpgjjfllgjaa", sum := "29593359bd334fcbc34901643b169d23641bfa064751a1bb8a4745e66f157edb", func := "loop.example/g00630/laws.FnJoinSelf", spec := "fnJoinSelf", unfollowed := true, recurses := true, apart := false, narrowed := true }
def FnJoinSelfUptoSaid : Prop := fnJoinSelfUptoRow.holds Try.pinned (OpenSpec.upto fnJoinSelfSpec)

/-- 'laws.FnJoinMore', WHERE WHAT IT READS IS OF BULK AT MOST 1048576: true; the input reads as it did. -/
def fnJoinMoreUptoRow : OpenClaim := { program := "ytbcdpgjjfllgjaa", sum := "29593359bd334fcbc34901643b169d23641bfa064751a1bb8a4745e66f157edb", func := "loop.example/g00630/laws.FnJoinMore", spec := "fnJoinMore", unfollowed := true, recurses := true, apart := false, narrowed := true }
def FnJoinMoreUptoSaid : Prop := fnJoinMoreUptoRow.holds Try.pinned (OpenSpec.upto fnJoinMoreSpec)

/-- 'laws.FnOuter', WHERE WHAT IT READS IS OF BULK AT MOST 1048576: true; the input reads as it did. -/
def fnOuterUptoRow : OpenClaim := { program := "ytbcdpgjjfllgjaa", sum := "29593359bd334fcbc34901643b169d23641bfa064751a1bb8a4745e66f157edb", func := "loop.example/g00630/laws.FnOuter", spec := "fnOuter", unfollowed := true, recurses := true, apart := false, narrowed := true }
def FnOuterUptoSaid : Prop := fnOuterUptoRow.holds Try.pinned (OpenSpec.upto fnOuterSpec)

/-- 'laws.FnMergeJoin', WHERE WHAT IT READS IS OF BULK AT MOST 1048576: true; the input reads as it did. -/
def fnMergeJoinUptoRow : OpenClaim := { program := "ytbcdpgjjfllgjaa", sum := "29593359bd334fcbc34901643b169d23641bfa064751a1bb8a4745e66f157edb", func := "loop.example/g00630/laws.FnMergeJoin", spec := "fnMergeJoin", unfollowed := true, recurses := true, apart := false, narrowed := true }
def FnMergeJoinUptoSaid : Prop := fnMergeJoinUptoRow.holds Try.pinned (OpenSpec.upto fnMergeJoinSpec)

/-- 'laws.FnPassed', WHERE WHAT IT READS IS OF BULK AT MOST 1048576: true; the input reads as it did. -/
def fnPassedUptoRow : OpenClaim := { program := "ytbcdpgjjfllgjaa", sum := "29593359bd334fcbc34901643b169d23641bfa064751a1bb8a4745e66f157edb", func := "loop.example/g00630/laws.FnPassed", spec := "fnPassed", unfollowed := true, recurses := true, apart := false, narrowed := true }
def FnPassedUptoSaid : Prop := fnPassedUptoRow.holds Try.pinned (OpenSpec.upto fnPassedSpec)

/-- 'laws.FnPassedTwice', WHERE WHAT IT READS IS OF BULK AT MOST 1048576: true; the input reads as it did. -/
def fnPassedTwiceUptoRow : OpenClaim := { program := "ytbcdpgjjfllgjaa", sum := "29593359bd334fcbc34901643b169d23641bfa064751a1bb8a4745e66f157edb", func := "loop.example/g00630/laws.FnPassedTwice", spec := "fnPassedTwice", unfollowed := true, recurses := true, apart := false, narrowed := true }
def FnPassedTwiceUptoSaid : Prop := fnPassedTwiceUptoRow.holds Try.pinned (OpenSpec.upto fnPassedTwiceSpec)

/-- 'laws.FnJoinParts', WHERE WHAT IT READS IS OF BULK AT MOST 1048576: true; the input reads as it did. -/
def fnJoinPartsUptoRow : OpenClaim := { program := "ytbcdpgjjfllgjaa", sum := "29593359bd334fcbc34901643b169d23641bfa064751a1bb8a4745e66f157edb", func := "loop.example/g00630/laws.FnJoinParts", spec := "fnJoinParts", unfollowed := true, recurses := true, apart := false, narrowed := true }
def FnJoinPartsUptoSaid : Prop := fnJoinPartsUptoRow.holds Try.pinned (OpenSpec.upto fnJoinPartsSpec)

end Rows
end Go.Proofs.Ytbcdpgjjfllgjaa
