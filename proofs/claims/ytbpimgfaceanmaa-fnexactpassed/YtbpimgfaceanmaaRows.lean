/-
  No cell of these rows narrows 'for every input' (looked for: loops, veiled, ifaces, maps, wideKeys, modest, calm, conditions, laid).
  DERIVED. THE GIVEN ROWS OF THIS SEAT. 12 by the template 'for every input the law returns true; each argument reads behind the call as it read before'; 0 by the template 'total and deterministic' (their statements: YtbpimgfaceanmaaTotals.lean).
  GIVEN WITH THE SEED: the statements are not yours to turn. If you find one false, say at which input.
  Laid BY PROGRAM, IN A SANDBOX (cutbox-rows.mjs): the forced cells as the released guide's own fill.sh prints them over the translation ee7b8950a10cf613… (all of the seat's roots in one cut). By AI agents, Wed Nov 11 2026. No macro, syntax, notation, axiom, sorry.
-/
import Derived.Test.YtbpimgfaceanmaaChecked
import GoSem.Claim
import GoSem.ClaimJoined
import GoSem.ClaimMapViews
import Derived.JoinedTies
import Derived.KernelRfl
namespace Go.Proofs.Ytbpimgfaceanmaa
/- THE CELL 'sum', in the pinned program and in every row, IS THE sha256 OF THE DUMP (.gsa) THAT YtbpimgfaceanmaaProg.lean LOADS. Nothing in Lean hashes anything: it is a label: what it is worth is what the hold of that sum in a sandbox is worth. -/
noncomputable def Try.pinned : Pinned := { name := "ytbpimgfaceanmaa", sum := "ee7b8950a10cf613809346dfc60797505980837defb93b616fd3268618485880", checked := Try.checked }
namespace Rows
def none {H : Type} : Left H := { results := [], args := [] }

/-- 'laws.FnExactFilterOk': WHATEVER THE INPUT: true; the input reads as it did. -/
def fnExactFilterOkSpec : ChangeSpec := { name := "fnExactFilterOk", fn := fun _ => fun
  | [d] => { results := [.lit (.bool true)], args := [d] }
  | _ => none }
def fnExactFilterOkRow : OpenClaim := { program := "ytbpimgfaceanmaa", sum := "ee7b8950a10cf613809346dfc60797505980837defb93b616fd3268618485880", func := "loop.example/g00630/laws.FnExactFilterOk", spec := "fnExactFilterOk", apart := false }
def FnExactFilterOkSaid : Prop := fnExactFilterOkRow.holds Try.pinned (OpenSpec.ofChange fnExactFilterOkSpec)

/-- ITS FALSE NEIGHBOUR: 'it returns false'. Refute it at one input. -/
def fnExactFilterOkWrong : ChangeSpec := { name := "fnExactFilterOk", fn := fun _ => fun
  | [d] => { results := [.lit (.bool false)], args := [d] }
  | _ => none }
def FnExactFilterOkWrongFalsely : Prop := fnExactFilterOkRow.holds Try.pinned (OpenSpec.ofChange fnExactFilterOkWrong)

/-- 'laws.FnExactPairText': WHATEVER THE INPUT: true; the input reads as it did. -/
def fnExactPairTextSpec : ChangeSpec := { name := "fnExactPairText", fn := fun _ => fun
  | [d] => { results := [.lit (.bool true)], args := [d] }
  | _ => none }
def fnExactPairTextRow : OpenClaim := { program := "ytbpimgfaceanmaa", sum := "ee7b8950a10cf613809346dfc60797505980837defb93b616fd3268618485880", func := "loop.example/g00630/laws.FnExactPairText", spec := "fnExactPairText", apart := false }
def FnExactPairTextSaid : Prop := fnExactPairTextRow.holds Try.pinned (OpenSpec.ofChange fnExactPairTextSpec)

/-- ITS FALSE NEIGHBOUR: 'it returns false'. Refute it at one input. -/
def fnExactPairTextWrong : ChangeSpec := { name := "fnExactPairText", fn := fun _ => fun
  | [d] => { results := [.lit (.bool false)], args := [d] }
  | _ => none }
def FnExactPairTextWrongFalsely : Prop := fnExactPairTextRow.holds Try.pinned (OpenSpec.ofChange fnExactPairTextWrong)

/-- 'laws.FnExactPairLess': WHATEVER THE INPUT: true; the input reads as it did. -/
def fnExactPairLessSpec : ChangeSpec := { name := "fnExactPairLess", fn := fun _ => fun
  | [d1, d2] => { results := [.lit (.bool true)], args := [d1, d2] }
  | _ => none }
def fnExactPairLessRow : OpenClaim := { program := "ytbpimgfaceanmaa", sum := "ee7b8950a10cf613809346dfc60797505980837defb93b616fd3268618485880", func := "loop.example/g00630/laws.FnExactPairLess", spec := "fnExactPairLess", apart := false }
def FnExactPairLessSaid : Prop := fnExactPairLessRow.holds Try.pinned (OpenSpec.ofChange fnExactPairLessSpec)

/-- ITS FALSE NEIGHBOUR: 'it returns false'. Refute it at one input. -/
def fnExactPairLessWrong : ChangeSpec := { name := "fnExactPairLess", fn := fun _ => fun
  | [d1, d2] => { results := [.lit (.bool false)], args := [d1, d2] }
  | _ => none }
def FnExactPairLessWrongFalsely : Prop := fnExactPairLessRow.holds Try.pinned (OpenSpec.ofChange fnExactPairLessWrong)

/-- 'laws.FnExactFilterNew': WHATEVER THE INPUT: true; the input reads as it did. -/
def fnExactFilterNewSpec : ChangeSpec := { name := "fnExactFilterNew", fn := fun _ => fun
  | [d] => { results := [.lit (.bool true)], args := [d] }
  | _ => none }
def fnExactFilterNewRow : OpenClaim := { program := "ytbpimgfaceanmaa", sum := "ee7b8950a10cf613809346dfc60797505980837defb93b616fd3268618485880", func := "loop.example/g00630/laws.FnExactFilterNew", spec := "fnExactFilterNew", apart := false }
def FnExactFilterNewSaid : Prop := fnExactFilterNewRow.holds Try.pinned (OpenSpec.ofChange fnExactFilterNewSpec)

/-- ITS FALSE NEIGHBOUR: 'it returns false'. Refute it at one input. -/
def fnExactFilterNewWrong : ChangeSpec := { name := "fnExactFilterNew", fn := fun _ => fun
  | [d] => { results := [.lit (.bool false)], args := [d] }
  | _ => none }
def FnExactFilterNewWrongFalsely : Prop := fnExactFilterNewRow.holds Try.pinned (OpenSpec.ofChange fnExactFilterNewWrong)

/-- 'laws.FnExactFilterHas': WHATEVER THE INPUT: true; the input reads as it did. -/
def fnExactFilterHasSpec : ChangeSpec := { name := "fnExactFilterHas", fn := fun _ => fun
  | [d1, d2] => { results := [.lit (.bool true)], args := [d1, d2] }
  | _ => none }
def fnExactFilterHasRow : OpenClaim := { program := "ytbpimgfaceanmaa", sum := "ee7b8950a10cf613809346dfc60797505980837defb93b616fd3268618485880", func := "loop.example/g00630/laws.FnExactFilterHas", spec := "fnExactFilterHas", apart := false }
def FnExactFilterHasSaid : Prop := fnExactFilterHasRow.holds Try.pinned (OpenSpec.ofChange fnExactFilterHasSpec)

/-- ITS FALSE NEIGHBOUR: 'it returns false'. Refute it at one input. -/
def fnExactFilterHasWrong : ChangeSpec := { name := "fnExactFilterHas", fn := fun _ => fun
  | [d1, d2] => { results := [.lit (.bool false)], args := [d1, d2] }
  | _ => none }
def FnExactFilterHasWrongFalsely : Prop := fnExactFilterHasRow.holds Try.pinned (OpenSpec.ofChange fnExactFilterHasWrong)

/-- 'laws.FnExactFilterAdd': WHATEVER THE INPUT: true; the input reads as it did. -/
def fnExactFilterAddSpec : ChangeSpec := { name := "fnExactFilterAdd", fn := fun _ => fun
  | [d1, d2] => { results := [.lit (.bool true)], args := [d1, d2] }
  | _ => none }
def fnExactFilterAddRow : OpenClaim := { program := "ytbpimgfaceanmaa", sum := "ee7b8950a10cf613809346dfc60797505980837defb93b616fd3268618485880", func := "loop.example/g00630/laws.FnExactFilterAdd", spec := "fnExactFilterAdd", apart := false }
def FnExactFilterAddSaid : Prop := fnExactFilterAddRow.holds Try.pinned (OpenSpec.ofChange fnExactFilterAddSpec)

/-- ITS FALSE NEIGHBOUR: 'it returns false'. Refute it at one input. -/
def fnExactFilterAddWrong : ChangeSpec := { name := "fnExactFilterAdd", fn := fun _ => fun
  | [d1, d2] => { results := [.lit (.bool false)], args := [d1, d2] }
  | _ => none }
def FnExactFilterAddWrongFalsely : Prop := fnExactFilterAddRow.holds Try.pinned (OpenSpec.ofChange fnExactFilterAddWrong)

/-- 'laws.FnExactFilterBoth': WHATEVER THE INPUT: true; the input reads as it did. -/
def fnExactFilterBothSpec : ChangeSpec := { name := "fnExactFilterBoth", fn := fun _ => fun
  | [d1, d2] => { results := [.lit (.bool true)], args := [d1, d2] }
  | _ => none }
def fnExactFilterBothRow : OpenClaim := { program := "ytbpimgfaceanmaa", sum := "ee7b8950a10cf613809346dfc60797505980837defb93b616fd3268618485880", func := "loop.example/g00630/laws.FnExactFilterBoth", spec := "fnExactFilterBoth", apart := false }
def FnExactFilterBothSaid : Prop := fnExactFilterBothRow.holds Try.pinned (OpenSpec.ofChange fnExactFilterBothSpec)

/-- ITS FALSE NEIGHBOUR: 'it returns false'. Refute it at one input. -/
def fnExactFilterBothWrong : ChangeSpec := { name := "fnExactFilterBoth", fn := fun _ => fun
  | [d1, d2] => { results := [.lit (.bool false)], args := [d1, d2] }
  | _ => none }
def FnExactFilterBothWrongFalsely : Prop := fnExactFilterBothRow.holds Try.pinned (OpenSpec.ofChange fnExactFilterBothWrong)

/-- 'laws.FnExactFilterOf': WHATEVER THE INPUT: true; the input reads as it did. -/
def fnExactFilterOfSpec : ChangeSpec := { name := "fnExactFilterOf", fn := fun _ => fun
  | [d1, d2] => { results := [.lit (.bool true)], args := [d1, d2] }
  | _ => none }
def fnExactFilterOfRow : OpenClaim := { program := "ytbpimgfaceanmaa", sum := "ee7b8950a10cf613809346dfc60797505980837defb93b616fd3268618485880", func := "loop.example/g00630/laws.FnExactFilterOf", spec := "fnExactFilterOf", apart := false }
def FnExactFilterOfSaid : Prop := fnExactFilterOfRow.holds Try.pinned (OpenSpec.ofChange fnExactFilterOfSpec)

/-- ITS FALSE NEIGHBOUR: 'it returns false'. Refute it at one input. -/
def fnExactFilterOfWrong : ChangeSpec := { name := "fnExactFilterOf", fn := fun _ => fun
  | [d1, d2] => { results := [.lit (.bool false)], args := [d1, d2] }
  | _ => none }
def FnExactFilterOfWrongFalsely : Prop := fnExactFilterOfRow.holds Try.pinned (OpenSpec.ofChange fnExactFilterOfWrong)

/-- 'laws.FnExactPassed': WHATEVER THE INPUT: true; the input reads as it did. -/
def fnExactPassedSpec : ChangeSpec := { name := "fnExactPassed", fn := fun _ => fun
  | [d1, d2] => { results := [.lit (.bool true)], args := [d1, d2] }
  | _ => none }
def fnExactPassedRow : OpenClaim := { program := "ytbpimgfaceanmaa", sum := "ee7b8950a10cf613809346dfc60797505980837defb93b616fd3268618485880", func := "loop.example/g00630/laws.FnExactPassed", spec := "fnExactPassed", unfollowed := true, recurses := true, apart := false }
def FnExactPassedSaid : Prop := fnExactPassedRow.holds Try.pinned (OpenSpec.ofChange fnExactPassedSpec)

/-- ITS FALSE NEIGHBOUR: 'it returns false'. Refute it at one input. -/
def fnExactPassedWrong : ChangeSpec := { name := "fnExactPassed", fn := fun _ => fun
  | [d1, d2] => { results := [.lit (.bool false)], args := [d1, d2] }
  | _ => none }
def FnExactPassedWrongFalsely : Prop := fnExactPassedRow.holds Try.pinned (OpenSpec.ofChange fnExactPassedWrong)

/-- 'laws.FnExactMergeJoin': WHATEVER THE INPUT: true; the input reads as it did. -/
def fnExactMergeJoinSpec : ChangeSpec := { name := "fnExactMergeJoin", fn := fun _ => fun
  | [d1, d2, d3] => { results := [.lit (.bool true)], args := [d1, d2, d3] }
  | _ => none }
def fnExactMergeJoinRow : OpenClaim := { program := "ytbpimgfaceanmaa", sum := "ee7b8950a10cf613809346dfc60797505980837defb93b616fd3268618485880", func := "loop.example/g00630/laws.FnExactMergeJoin", spec := "fnExactMergeJoin", unfollowed := true, recurses := true, apart := false }
def FnExactMergeJoinSaid : Prop := fnExactMergeJoinRow.holds Try.pinned (OpenSpec.ofChange fnExactMergeJoinSpec)

/-- ITS FALSE NEIGHBOUR: 'it returns false'. Refute it at one input. -/
def fnExactMergeJoinWrong : ChangeSpec := { name := "fnExactMergeJoin", fn := fun _ => fun
  | [d1, d2, d3] => { results := [.lit (.bool false)], args := [d1, d2, d3] }
  | _ => none }
def FnExactMergeJoinWrongFalsely : Prop := fnExactMergeJoinRow.holds Try.pinned (OpenSpec.ofChange fnExactMergeJoinWrong)

/-- 'laws.FnExactJoinOf': WHATEVER THE INPUT: true; the input reads as it did. -/
def fnExactJoinOfSpec : ChangeSpec := { name := "fnExactJoinOf", fn := fun _ => fun
  | [d1, d2, d3] => { results := [.lit (.bool true)], args := [d1, d2, d3] }
  | _ => none }
def fnExactJoinOfRow : OpenClaim := { program := "ytbpimgfaceanmaa", sum := "ee7b8950a10cf613809346dfc60797505980837defb93b616fd3268618485880", func := "loop.example/g00630/laws.FnExactJoinOf", spec := "fnExactJoinOf", unfollowed := true, recurses := true, apart := false }
def FnExactJoinOfSaid : Prop := fnExactJoinOfRow.holds Try.pinned (OpenSpec.ofChange fnExactJoinOfSpec)

/-- ITS FALSE NEIGHBOUR: 'it returns false'. Refute it at one input. -/
def fnExactJoinOfWrong : ChangeSpec := { name := "fnExactJoinOf", fn := fun _ => fun
  | [d1, d2, d3] => { results := [.lit (.bool false)], args := [d1, d2, d3] }
  | _ => none }
def FnExactJoinOfWrongFalsely : Prop := fnExactJoinOfRow.holds Try.pinned (OpenSpec.ofChange fnExactJoinOfWrong)

/-- 'laws.FnExactFlipped': WHATEVER THE INPUT: true; the input reads as it did. -/
def fnExactFlippedSpec : ChangeSpec := { name := "fnExactFlipped", fn := fun _ => fun
  | [d] => { results := [.lit (.bool true)], args := [d] }
  | _ => none }
def fnExactFlippedRow : OpenClaim := { program := "ytbpimgfaceanmaa", sum := "ee7b8950a10cf613809346dfc60797505980837defb93b616fd3268618485880", func := "loop.example/g00630/laws.FnExactFlipped", spec := "fnExactFlipped", unfollowed := true, recurses := true, apart := false }
def FnExactFlippedSaid : Prop := fnExactFlippedRow.holds Try.pinned (OpenSpec.ofChange fnExactFlippedSpec)

/-- ITS FALSE NEIGHBOUR: 'it returns false'. Refute it at one input. -/
def fnExactFlippedWrong : ChangeSpec := { name := "fnExactFlipped", fn := fun _ => fun
  | [d] => { results := [.lit (.bool false)], args := [d] }
  | _ => none }
def FnExactFlippedWrongFalsely : Prop := fnExactFlippedRow.holds Try.pinned (OpenSpec.ofChange fnExactFlippedWrong)

/- THE SECOND FORM. 'bulk': how many values and letters a reading holds, each counted each time it is reached (what is shared counts as often as it is met; a slice's spare places count too). A statement '..UptoSaid' is the law's where the arguments, and the package variables that the reading takes, are together of bulk at most 1048576: NARROWER than '..Said'. Prove '..Said' where nothing that the law and all that it calls make is longer than what came in: it says more and counts as full. Else prove '..UptoSaid'. A law counts once. -/
mutual
def uptoBulk {H : Type} : DataW H → Nat
  | .lit (.string bytes) => bytes.length + 1
  | .lit _ => 1
  | .nil => 1
  | .ptr d => uptoBulk d + 1
  | .slice elems spare => uptoBulkAll elems + uptoBulkAll spare + 1
  | .agg parts => uptoBulkAll parts + 1
  | .iface _ d => uptoBulk d + 1
  | .map entries => uptoBulkEntries entries + 1
  | .held _ => 1
def uptoBulkAll {H : Type} : List (DataW H) → Nat
  | [] => 0
  | d :: r => uptoBulk d + uptoBulkAll r
def uptoBulkEntries {H : Type} : List (Lit × DataW H) → Nat
  | [] => 0
  | x :: r => uptoBulkEntry x + uptoBulkEntries r
def uptoBulkEntry {H : Type} : Lit × DataW H → Nat
  | (.string bytes, d) => bytes.length + uptoBulk d + 1
  | (_, d) => uptoBulk d + 1
 end
def uptoSmall : (H : Type) → List (DataW H) → Bool := fun _ ds => decide (uptoBulkAll ds ≤ 1048576)
def OpenSpec.upto (s : _root_.Go.ChangeSpec) : _root_.Go.OpenSpec := { _root_.Go.OpenSpec.ofChange s with cond := some uptoSmall }

/-- 'laws.FnExactFilterOk', WHERE WHAT IT READS IS OF BULK AT MOST 1048576: true; the input reads as it did. -/
def fnExactFilterOkUptoRow : OpenClaim := { program := "ytbpimgfaceanmaa", sum := "ee7b8950a10cf613809346dfc60797505980837defb93b616fd3268618485880", func := "loop.example/g00630/laws.FnExactFilterOk", spec := "fnExactFilterOk", apart := false, narrowed := true }
def FnExactFilterOkUptoSaid : Prop := fnExactFilterOkUptoRow.holds Try.pinned (OpenSpec.upto fnExactFilterOkSpec)

/-- 'laws.FnExactPairText', WHERE WHAT IT READS IS OF BULK AT MOST 1048576: true; the input reads as it did. -/
def fnExactPairTextUptoRow : OpenClaim := { program := "ytbpimgfaceanmaa", sum := "ee7b8950a10cf613809346dfc60797505980837defb93b616fd3268618485880", func := "loop.example/g00630/laws.FnExactPairText", spec := "fnExactPairText", apart := false, narrowed := true }
def FnExactPairTextUptoSaid : Prop := fnExactPairTextUptoRow.holds Try.pinned (OpenSpec.upto fnExactPairTextSpec)

/-- 'laws.FnExactPairLess', WHERE WHAT IT READS IS OF BULK AT MOST 1048576: true; the input reads as it did. -/
def fnExactPairLessUptoRow : OpenClaim := { program := "ytbpimgfaceanmaa", sum := "ee7b8950a10cf613809346dfc60797505980837defb93b616fd3268618485880", func := "loop.example/g00630/laws.FnExactPairLess", spec := "fnExactPairLess", apart := false, narrowed := true }
def FnExactPairLessUptoSaid : Prop := fnExactPairLessUptoRow.holds Try.pinned (OpenSpec.upto fnExactPairLessSpec)

/-- 'laws.FnExactFilterNew', WHERE WHAT IT READS IS OF BULK AT MOST 1048576: true; the input reads as it did. -/
def fnExactFilterNewUptoRow : OpenClaim := { program := "ytbpimgfaceanmaa", sum := "ee7b8950a10cf613809346dfc60797505980837defb93b616fd3268618485880", func := "loop.example/g00630/laws.FnExactFilterNew", spec := "fnExactFilterNew", apart := false, narrowed := true }
def FnExactFilterNewUptoSaid : Prop := fnExactFilterNewUptoRow.holds Try.pinned (OpenSpec.upto fnExactFilterNewSpec)

/-- 'laws.FnExactFilterHas', WHERE WHAT IT READS IS OF BULK AT MOST 1048576: true; the input reads as it did. -/
def fnExactFilterHasUptoRow : OpenClaim := { program := "ytbpimgfaceanmaa", sum := "ee7b8950a10cf613809346dfc60797505980837defb93b616fd3268618485880", func := "loop.example/g00630/laws.FnExactFilterHas", spec := "fnExactFilterHas", apart := false, narrowed := true }
def FnExactFilterHasUptoSaid : Prop := fnExactFilterHasUptoRow.holds Try.pinned (OpenSpec.upto fnExactFilterHasSpec)

/-- 'laws.FnExactFilterAdd', WHERE WHAT IT READS IS OF BULK AT MOST 1048576: true; the input reads as it did. -/
def fnExactFilterAddUptoRow : OpenClaim := { program := "ytbpimgfaceanmaa", sum := "ee7b8950a10cf613809346dfc60797505980837defb93b616fd3268618485880", func := "loop.example/g00630/laws.FnExactFilterAdd", spec := "fnExactFilterAdd", apart := false, narrowed := true }
def FnExactFilterAddUptoSaid : Prop := fnExactFilterAddUptoRow.holds Try.pinned (OpenSpec.upto fnExactFilterAddSpec)

/-- 'laws.FnExactFilterBoth', WHERE WHAT IT READS IS OF BULK AT MOST 1048576: true; the input reads as it did. -/
def fnExactFilterBothUptoRow : OpenClaim := { program := "ytbpimgfaceanmaa", sum := "ee7b8950a10cf613809346dfc60797505980837defb93b616fd3268618485880", func := "loop.example/g00630/laws.FnExactFilterBoth", spec := "fnExactFilterBoth", apart := false, narrowed := true }
def FnExactFilterBothUptoSaid : Prop := fnExactFilterBothUptoRow.holds Try.pinned (OpenSpec.upto fnExactFilterBothSpec)

/-- 'laws.FnExactFilterOf', WHERE WHAT IT READS IS OF BULK AT MOST 1048576: true; the input reads as it did. -/
def fnExactFilterOfUptoRow : OpenClaim := { program := "ytbpimgfaceanmaa", sum := "ee7b8950a10cf613809346dfc60797505980837defb93b616fd3268618485880", func := "loop.example/g00630/laws.FnExactFilterOf", spec := "fnExactFilterOf", apart := false, narrowed := true }
def FnExactFilterOfUptoSaid : Prop := fnExactFilterOfUptoRow.holds Try.pinned (OpenSpec.upto fnExactFilterOfSpec)

/-- 'laws.FnExactPassed', WHERE WHAT IT READS IS OF BULK AT MOST 1048576: true; the input reads as it did. -/
def fnExactPassedUptoRow : OpenClaim := { program := "ytbpimgfaceanmaa", sum := "ee7b8950a10cf613809346dfc60797505980837defb93b616fd3268618485880", func := "loop.example/g00630/laws.FnExactPassed", spec := "fnExactPassed", unfollowed := true, recurses := true, apart := false, narrowed := true }
def FnExactPassedUptoSaid : Prop := fnExactPassedUptoRow.holds Try.pinned (OpenSpec.upto fnExactPassedSpec)

/-- 'laws.FnExactMergeJoin', WHERE WHAT IT READS IS OF BULK AT MOST 1048576: true; the input reads as it did. -/
def fnExactMergeJoinUptoRow : OpenClaim := { program := "ytbpimgfaceanmaa", sum := "ee7b8950a10cf613809346dfc60797505980837defb93b616fd3268618485880", func := "loop.example/g00630/laws.FnExactMergeJoin", spec := "fnExactMergeJoin", unfollowed := true, recurses := true, apart := false, narrowed := true }
def FnExactMergeJoinUptoSaid : Prop := fnExactMergeJoinUptoRow.holds Try.pinned (OpenSpec.upto fnExactMergeJoinSpec)

/-- 'laws.FnExactJoinOf', WHERE WHAT IT READS IS OF BULK AT MOST 1048576: true; the input reads as it did. -/
def fnExactJoinOfUptoRow : OpenClaim := { program := "ytbpimgfaceanmaa", sum := "ee7b8950a10cf613809346dfc60797505980837defb93b616fd3268618485880", func := "loop.example/g00630/laws.FnExactJoinOf", spec := "fnExactJoinOf", unfollowed := true, recurses := true, apart := false, narrowed := true }
def FnExactJoinOfUptoSaid : Prop := fnExactJoinOfUptoRow.holds Try.pinned (OpenSpec.upto fnExactJoinOfSpec)

/-- 'laws.FnExactFlipped', WHERE WHAT IT READS IS OF BULK AT MOST 1048576: true; the input reads as it did. -/
def fnExactFlippedUptoRow : OpenClaim := { program := "ytbpimgfaceanmaa", sum := "ee7b8950a10cf613809346dfc60797505980837defb93b616fd3268618485880", func := "loop.example/g00630/laws.FnExactFlipped", spec := "fnExactFlipped", unfollowed := true, recurses := true, apart := false, narrowed := true }
def FnExactFlippedUptoSaid : Prop := fnExactFlippedUptoRow.holds Try.pinned (OpenSpec.upto fnExactFlippedSpec)

end Rows
end Go.Proofs.Ytbpimgfaceanmaa
