/-
  No cell of these rows narrows 'for every input' (looked for: loops, veiled, ifaces, maps, wideKeys, modest, calm, conditions, laid).
  DERIVED. THE GIVEN ROWS OF THIS SEAT. 12 by the template 'for every input the law returns true; each argument reads behind the call as it read before'; 0 by the template 'total and deterministic' (their statements: YtjnljobncdpkkabTotals.lean).
  GIVEN WITH THE SEED: the statements are not yours to turn. If you find one false, say at which input.
  Laid BY PROGRAM, IN A SANDBOX (cutbox-rows.mjs): the forced cells as the released guide's own fill.sh prints them over the translation 49e8bfc1bfda9826… (all of the seat's roots in one cut). By AI agents, Wed Nov 11 2026. No macro, syntax, notation, axiom, sorry.
-/
import Derived.Test.YtjnljobncdpkkabChecked
import GoSem.Claim
import GoSem.ClaimJoined
import GoSem.ClaimMapViews
import Derived.JoinedTies
import Derived.KernelRfl
namespace Go.Proofs.Ytjnljobncdpkkab
/- THE CELL 'sum', in the pinned program and in every row, IS THE sha256 OF THE DUMP (.gsa) THAT YtjnljobncdpkkabProg.lean LOADS. Nothing in Lean hashes anything: it is a label: what it is worth is what the hold of that sum in a sandbox is worth. -/
noncomputable def Try.pinned : Pinned := { name := "ytjnljobncdpkkab", sum := "49e8bfc1bfda9826b50b9da227fd55ea51e710087154ff29d6da19e78d70e050", checked := Try.checked }
namespace Rows
def none {H : Type} : Left H := { results := [], args := [] }

/-- 'laws.FnRangeMore': WHATEVER THE INPUT: true; the input reads as it did. -/
def fnRangeMoreSpec : ChangeSpec := { name := "fnRangeMore", fn := fun _ => fun
  | [d] => { results := [.lit (.bool true)], args := [d] }
  | _ => none }
def fnRangeMoreRow : OpenClaim := { program := "ytjnljobncdpkkab", sum := "49e8bfc1bfda9826b50b9da227fd55ea51e710087154ff29d6da19e78d70e050", func := "loop.example/g00630/laws.FnRangeMore", spec := "fnRangeMore", apart := false }
def FnRangeMoreSaid : Prop := fnRangeMoreRow.holds Try.pinned (OpenSpec.ofChange fnRangeMoreSpec)

/-- ITS FALSE NEIGHBOUR: 'it returns false'. Refute it at one input. -/
def fnRangeMoreWrong : ChangeSpec := { name := "fnRangeMore", fn := fun _ => fun
  | [d] => { results := [.lit (.bool false)], args := [d] }
  | _ => none }
def FnRangeMoreWrongFalsely : Prop := fnRangeMoreRow.holds Try.pinned (OpenSpec.ofChange fnRangeMoreWrong)

/-- 'laws.FnCuts': WHATEVER THE INPUT: true; the input reads as it did. -/
def fnCutsSpec : ChangeSpec := { name := "fnCuts", fn := fun _ => fun
  | [d] => { results := [.lit (.bool true)], args := [d] }
  | _ => none }
def fnCutsRow : OpenClaim := { program := "ytjnljobncdpkkab", sum := "49e8bfc1bfda9826b50b9da227fd55ea51e710087154ff29d6da19e78d70e050", func := "loop.example/g00630/laws.FnCuts", spec := "fnCuts", unfollowed := true, recurses := true, apart := false }
def FnCutsSaid : Prop := fnCutsRow.holds Try.pinned (OpenSpec.ofChange fnCutsSpec)

/-- ITS FALSE NEIGHBOUR: 'it returns false'. Refute it at one input. -/
def fnCutsWrong : ChangeSpec := { name := "fnCuts", fn := fun _ => fun
  | [d] => { results := [.lit (.bool false)], args := [d] }
  | _ => none }
def FnCutsWrongFalsely : Prop := fnCutsRow.holds Try.pinned (OpenSpec.ofChange fnCutsWrong)

/-- 'laws.FnParted': WHATEVER THE INPUT: true; the input reads as it did. -/
def fnPartedSpec : ChangeSpec := { name := "fnParted", fn := fun _ => fun
  | [d] => { results := [.lit (.bool true)], args := [d] }
  | _ => none }
def fnPartedRow : OpenClaim := { program := "ytjnljobncdpkkab", sum := "49e8bfc1bfda9826b50b9da227fd55ea51e710087154ff29d6da19e78d70e050", func := "loop.example/g00630/laws.FnParted", spec := "fnParted", unfollowed := true, recurses := true, apart := false }
def FnPartedSaid : Prop := fnPartedRow.holds Try.pinned (OpenSpec.ofChange fnPartedSpec)

/-- ITS FALSE NEIGHBOUR: 'it returns false'. Refute it at one input. -/
def fnPartedWrong : ChangeSpec := { name := "fnParted", fn := fun _ => fun
  | [d] => { results := [.lit (.bool false)], args := [d] }
  | _ => none }
def FnPartedWrongFalsely : Prop := fnPartedRow.holds Try.pinned (OpenSpec.ofChange fnPartedWrong)

/-- 'laws.FnRanges': WHATEVER THE INPUT: true; the input reads as it did. -/
def fnRangesSpec : ChangeSpec := { name := "fnRanges", fn := fun _ => fun
  | [d] => { results := [.lit (.bool true)], args := [d] }
  | _ => none }
def fnRangesRow : OpenClaim := { program := "ytjnljobncdpkkab", sum := "49e8bfc1bfda9826b50b9da227fd55ea51e710087154ff29d6da19e78d70e050", func := "loop.example/g00630/laws.FnRanges", spec := "fnRanges", unfollowed := true, recurses := true, apart := false }
def FnRangesSaid : Prop := fnRangesRow.holds Try.pinned (OpenSpec.ofChange fnRangesSpec)

/-- ITS FALSE NEIGHBOUR: 'it returns false'. Refute it at one input. -/
def fnRangesWrong : ChangeSpec := { name := "fnRanges", fn := fun _ => fun
  | [d] => { results := [.lit (.bool false)], args := [d] }
  | _ => none }
def FnRangesWrongFalsely : Prop := fnRangesRow.holds Try.pinned (OpenSpec.ofChange fnRangesWrong)

/-- 'laws.FnPartedPieces': WHATEVER THE INPUT: true; the input reads as it did. -/
def fnPartedPiecesSpec : ChangeSpec := { name := "fnPartedPieces", fn := fun _ => fun
  | [d] => { results := [.lit (.bool true)], args := [d] }
  | _ => none }
def fnPartedPiecesRow : OpenClaim := { program := "ytjnljobncdpkkab", sum := "49e8bfc1bfda9826b50b9da227fd55ea51e710087154ff29d6da19e78d70e050", func := "loop.example/g00630/laws.FnPartedPieces", spec := "fnPartedPieces", unfollowed := true, recurses := true, apart := false }
def FnPartedPiecesSaid : Prop := fnPartedPiecesRow.holds Try.pinned (OpenSpec.ofChange fnPartedPiecesSpec)

/-- ITS FALSE NEIGHBOUR: 'it returns false'. Refute it at one input. -/
def fnPartedPiecesWrong : ChangeSpec := { name := "fnPartedPieces", fn := fun _ => fun
  | [d] => { results := [.lit (.bool false)], args := [d] }
  | _ => none }
def FnPartedPiecesWrongFalsely : Prop := fnPartedPiecesRow.holds Try.pinned (OpenSpec.ofChange fnPartedPiecesWrong)

/-- 'laws.FnRangePieces': WHATEVER THE INPUT: true; the input reads as it did. -/
def fnRangePiecesSpec : ChangeSpec := { name := "fnRangePieces", fn := fun _ => fun
  | [d] => { results := [.lit (.bool true)], args := [d] }
  | _ => none }
def fnRangePiecesRow : OpenClaim := { program := "ytjnljobncdpkkab", sum := "49e8bfc1bfda9826b50b9da227fd55ea51e710087154ff29d6da19e78d70e050", func := "loop.example/g00630/laws.FnRangePieces", spec := "fnRangePieces", unfollowed := true, recurses := true, apart := false }
def FnRangePiecesSaid : Prop := fnRangePiecesRow.holds Try.pinned (OpenSpec.ofChange fnRangePiecesSpec)

/-- ITS FALSE NEIGHBOUR: 'it returns false'. Refute it at one input. -/
def fnRangePiecesWrong : ChangeSpec := { name := "fnRangePieces", fn := fun _ => fun
  | [d] => { results := [.lit (.bool false)], args := [d] }
  | _ => none }
def FnRangePiecesWrongFalsely : Prop := fnRangePiecesRow.holds Try.pinned (OpenSpec.ofChange fnRangePiecesWrong)

/-- 'laws.FnSorted': WHATEVER THE INPUT: true; the input reads as it did. -/
def fnSortedSpec : ChangeSpec := { name := "fnSorted", fn := fun _ => fun
  | [d] => { results := [.lit (.bool true)], args := [d] }
  | _ => none }
def fnSortedRow : OpenClaim := { program := "ytjnljobncdpkkab", sum := "49e8bfc1bfda9826b50b9da227fd55ea51e710087154ff29d6da19e78d70e050", func := "loop.example/g00630/laws.FnSorted", spec := "fnSorted", unfollowed := true, recurses := true, apart := false }
def FnSortedSaid : Prop := fnSortedRow.holds Try.pinned (OpenSpec.ofChange fnSortedSpec)

/-- ITS FALSE NEIGHBOUR: 'it returns false'. Refute it at one input. -/
def fnSortedWrong : ChangeSpec := { name := "fnSorted", fn := fun _ => fun
  | [d] => { results := [.lit (.bool false)], args := [d] }
  | _ => none }
def FnSortedWrongFalsely : Prop := fnSortedRow.holds Try.pinned (OpenSpec.ofChange fnSortedWrong)

/-- 'laws.FnSortedPieces': WHATEVER THE INPUT: true; the input reads as it did. -/
def fnSortedPiecesSpec : ChangeSpec := { name := "fnSortedPieces", fn := fun _ => fun
  | [d] => { results := [.lit (.bool true)], args := [d] }
  | _ => none }
def fnSortedPiecesRow : OpenClaim := { program := "ytjnljobncdpkkab", sum := "49e8bfc1bfda9826b50b9da227fd55ea51e710087154ff29d6da19e78d70e050", func := "loop.example/g00630/laws.FnSortedPieces", spec := "fnSortedPieces", unfollowed := true, recurses := true, apart := false }
def FnSortedPiecesSaid : Prop := fnSortedPiecesRow.holds Try.pinned (OpenSpec.ofChange fnSortedPiecesSpec)

/-- ITS FALSE NEIGHBOUR: 'it returns false'. Refute it at one input. -/
def fnSortedPiecesWrong : ChangeSpec := { name := "fnSortedPieces", fn := fun _ => fun
  | [d] => { results := [.lit (.bool false)], args := [d] }
  | _ => none }
def FnSortedPiecesWrongFalsely : Prop := fnSortedPiecesRow.holds Try.pinned (OpenSpec.ofChange fnSortedPiecesWrong)

/-- 'laws.FnTagged': WHATEVER THE INPUT: true; the input reads as it did. -/
def fnTaggedSpec : ChangeSpec := { name := "fnTagged", fn := fun _ => fun
  | [d] => { results := [.lit (.bool true)], args := [d] }
  | _ => none }
def fnTaggedRow : OpenClaim := { program := "ytjnljobncdpkkab", sum := "49e8bfc1bfda9826b50b9da227fd55ea51e710087154ff29d6da19e78d70e050", func := "loop.example/g00630/laws.FnTagged", spec := "fnTagged", unfollowed := true, recurses := true, apart := false }
def FnTaggedSaid : Prop := fnTaggedRow.holds Try.pinned (OpenSpec.ofChange fnTaggedSpec)

/-- ITS FALSE NEIGHBOUR: 'it returns false'. Refute it at one input. -/
def fnTaggedWrong : ChangeSpec := { name := "fnTagged", fn := fun _ => fun
  | [d] => { results := [.lit (.bool false)], args := [d] }
  | _ => none }
def FnTaggedWrongFalsely : Prop := fnTaggedRow.holds Try.pinned (OpenSpec.ofChange fnTaggedWrong)

/-- 'laws.FnFirst': WHATEVER THE INPUT: true; the input reads as it did. -/
def fnFirstSpec : ChangeSpec := { name := "fnFirst", fn := fun _ => fun
  | [d] => { results := [.lit (.bool true)], args := [d] }
  | _ => none }
def fnFirstRow : OpenClaim := { program := "ytjnljobncdpkkab", sum := "49e8bfc1bfda9826b50b9da227fd55ea51e710087154ff29d6da19e78d70e050", func := "loop.example/g00630/laws.FnFirst", spec := "fnFirst", unfollowed := true, recurses := true, apart := false }
def FnFirstSaid : Prop := fnFirstRow.holds Try.pinned (OpenSpec.ofChange fnFirstSpec)

/-- ITS FALSE NEIGHBOUR: 'it returns false'. Refute it at one input. -/
def fnFirstWrong : ChangeSpec := { name := "fnFirst", fn := fun _ => fun
  | [d] => { results := [.lit (.bool false)], args := [d] }
  | _ => none }
def FnFirstWrongFalsely : Prop := fnFirstRow.holds Try.pinned (OpenSpec.ofChange fnFirstWrong)

/-- 'laws.FnGroupsMany': WHATEVER THE INPUT: true; the input reads as it did. -/
def fnGroupsManySpec : ChangeSpec := { name := "fnGroupsMany", fn := fun _ => fun
  | [d] => { results := [.lit (.bool true)], args := [d] }
  | _ => none }
def fnGroupsManyRow : OpenClaim := { program := "ytjnljobncdpkkab", sum := "49e8bfc1bfda9826b50b9da227fd55ea51e710087154ff29d6da19e78d70e050", func := "loop.example/g00630/laws.FnGroupsMany", spec := "fnGroupsMany", unfollowed := true, recurses := true, apart := false }
def FnGroupsManySaid : Prop := fnGroupsManyRow.holds Try.pinned (OpenSpec.ofChange fnGroupsManySpec)

/-- ITS FALSE NEIGHBOUR: 'it returns false'. Refute it at one input. -/
def fnGroupsManyWrong : ChangeSpec := { name := "fnGroupsMany", fn := fun _ => fun
  | [d] => { results := [.lit (.bool false)], args := [d] }
  | _ => none }
def FnGroupsManyWrongFalsely : Prop := fnGroupsManyRow.holds Try.pinned (OpenSpec.ofChange fnGroupsManyWrong)

/-- 'laws.FnTaggedSorted': WHATEVER THE INPUT: true; the input reads as it did. -/
def fnTaggedSortedSpec : ChangeSpec := { name := "fnTaggedSorted", fn := fun _ => fun
  | [d] => { results := [.lit (.bool true)], args := [d] }
  | _ => none }
def fnTaggedSortedRow : OpenClaim := { program := "ytjnljobncdpkkab", sum := "49e8bfc1bfda9826b50b9da227fd55ea51e710087154ff29d6da19e78d70e050", func := "loop.example/g00630/laws.FnTaggedSorted", spec := "fnTaggedSorted", unfollowed := true, recurses := true, apart := false }
def FnTaggedSortedSaid : Prop := fnTaggedSortedRow.holds Try.pinned (OpenSpec.ofChange fnTaggedSortedSpec)

/-- ITS FALSE NEIGHBOUR: 'it returns false'. Refute it at one input. -/
def fnTaggedSortedWrong : ChangeSpec := { name := "fnTaggedSorted", fn := fun _ => fun
  | [d] => { results := [.lit (.bool false)], args := [d] }
  | _ => none }
def FnTaggedSortedWrongFalsely : Prop := fnTaggedSortedRow.holds Try.pinned (OpenSpec.ofChange fnTaggedSortedWrong)

/- THE SECOND FORM. 'bulk': how many values and letters a reading holds, each counted each time it is reached (what is shared counts as often as it is met; a slice's spare places count too). A statement '..UptoSaid' is the law's where the arguments, and the package variables that the reading takes, are together of bulk at most 1048576: NARROWER than '..Said'. Prove '..Said' where nothing that the law and all that it calls make is longer than what came in: it says more and counts as full. Else prove '..UptoSaid'. A law counts once. -/
mutual
def uptoBulk {H : Type} : DataW H → Nat
  | .lit (.string bytes) => bytes.length + 1
  | .lit _ => 1
  | .nil => 1
  | .ptr d => uptoBulk d + 1
  | .slice elems spare => uptoBulkAll elems + uptoBulkAll spare + 1
  | .agg parts => uptoBulkAll parts + 1
  | .iface _ d => uptoBulk d + 1
  | .map entries => uptoBulkEntries entries + 1
  | .held _ => 1
def uptoBulkAll {H : Type} : List (DataW H) → Nat
  | [] => 0
  | d :: r => uptoBulk d + uptoBulkAll r
def uptoBulkEntries {H : Type} : List (Lit × DataW H) → Nat
  | [] => 0
  | x :: r => uptoBulkEntry x + uptoBulkEntries r
def uptoBulkEntry {H : Type} : Lit × DataW H → Nat
  | (.string bytes, d) => bytes.length + uptoBulk d + 1
  | (_, d) => uptoBulk d + 1
 end
def uptoSmall : (H : Type) → List (DataW H) → Bool := fun _ ds => decide (uptoBulkAll ds ≤ 1048576)
def OpenSpec.upto (s : _root_.Go.ChangeSpec) : _root_.Go.OpenSpec := { _root_.Go.OpenSpec.ofChange s with cond := some uptoSmall }

/-- 'laws.FnRangeMore', WHERE WHAT IT READS IS OF BULK AT MOST 1048576: true; the input reads as it did. -/
def fnRangeMoreUptoRow : OpenClaim := { program := "ytjnljobncdpkkab", sum := "49e8bfc1bfda9826b50b9da227fd55ea51e710087154ff29d6da19e78d70e050", func := "loop.example/g00630/laws.FnRangeMore", spec := "fnRangeMore", apart := false, narrowed := true }
def FnRangeMoreUptoSaid : Prop := fnRangeMoreUptoRow.holds Try.pinned (OpenSpec.upto fnRangeMoreSpec)

/-- 'laws.FnCuts', WHERE WHAT IT READS IS OF BULK AT MOST 1048576: true; the input reads as it did. -/
def fnCutsUptoRow : OpenClaim := { program := "ytjnljobncdpkkab", sum := "49e8bfc1bfda9826b50b9da227fd55ea51e710087154ff29d6da19e78d70e050", func := "loop.example/g00630/laws.FnCuts", spec := "fnCuts", unfollowed := true, recurses := true, apart := false, narrowed := true }
def FnCutsUptoSaid : Prop := fnCutsUptoRow.holds Try.pinned (OpenSpec.upto fnCutsSpec)

/-- 'laws.FnParted', WHERE WHAT IT READS IS OF BULK AT MOST 1048576: true; the input reads as it did. -/
def fnPartedUptoRow : OpenClaim := { program := "ytjnljobncdpkkab", sum := "49e8bfc1bfda9826b50b9da227fd55ea51e710087154ff29d6da19e78d70e050", func := "loop.example/g00630/laws.FnParted", spec := "fnParted", unfollowed := true, recurses := true, apart := false, narrowed := true }
def FnPartedUptoSaid : Prop := fnPartedUptoRow.holds Try.pinned (OpenSpec.upto fnPartedSpec)

/-- 'laws.FnRanges', WHERE WHAT IT READS IS OF BULK AT MOST 1048576: true; the input reads as it did. -/
def fnRangesUptoRow : OpenClaim := { program := "ytjnljobncdpkkab", sum := "49e8bfc1bfda9826b50b9da227fd55ea51e710087154ff29d6da19e78d70e050", func := "loop.example/g00630/laws.FnRanges", spec := "fnRanges", unfollowed := true, recurses := true, apart := false, narrowed := true }
def FnRangesUptoSaid : Prop := fnRangesUptoRow.holds Try.pinned (OpenSpec.upto fnRangesSpec)

/-- 'laws.FnPartedPieces', WHERE WHAT IT READS IS OF BULK AT MOST 1048576: true; the input reads as it did. -/
def fnPartedPiecesUptoRow : OpenClaim := { program := "ytjnljobncdpkkab", sum := "49e8bfc1bfda9826b50b9da227fd55ea51e710087154ff29d6da19e78d70e050", func := "loop.example/g00630/laws.FnPartedPieces", spec := "fnPartedPieces", unfollowed := true, recurses := true, apart := false, narrowed := true }
def FnPartedPiecesUptoSaid : Prop := fnPartedPiecesUptoRow.holds Try.pinned (OpenSpec.upto fnPartedPiecesSpec)

/-- 'laws.FnRangePieces', WHERE WHAT IT READS IS OF BULK AT MOST 1048576: true; the input reads as it did. -/
def fnRangePiecesUptoRow : OpenClaim := { program := "ytjnljobncdpkkab", sum := "49e8bfc1bfda9826b50b9da227fd55ea51e710087154ff29d6da19e78d70e050", func := "loop.example/g00630/laws.FnRangePieces", spec := "fnRangePieces", unfollowed := true, recurses := true, apart := false, narrowed := true }
def FnRangePiecesUptoSaid : Prop := fnRangePiecesUptoRow.holds Try.pinned (OpenSpec.upto fnRangePiecesSpec)

/-- 'laws.FnSorted', WHERE WHAT IT READS IS OF BULK AT MOST 1048576: true; the input reads as it did. -/
def fnSortedUptoRow : OpenClaim := { program := "ytjnljobncdpkkab", sum := "49e8bfc1bfda9826b50b9da227fd55ea51e710087154ff29d6da19e78d70e050", func := "loop.example/g00630/laws.FnSorted", spec := "fnSorted", unfollowed := true, recurses := true, apart := false, narrowed := true }
def FnSortedUptoSaid : Prop := fnSortedUptoRow.holds Try.pinned (OpenSpec.upto fnSortedSpec)

/-- 'laws.FnSortedPieces', WHERE WHAT IT READS IS OF BULK AT MOST 1048576: true; the input reads as it did. -/
def fnSortedPiecesUptoRow : OpenClaim := { program := "ytjnljobncdpkkab", sum := "49e8bfc1bfda9826b50b9da227fd55ea51e710087154ff29d6da19e78d70e050", func := "loop.example/g00630/laws.FnSortedPieces", spec := "fnSortedPieces", unfollowed := true, recurses := true, apart := false, narrowed := true }
def FnSortedPiecesUptoSaid : Prop := fnSortedPiecesUptoRow.holds Try.pinned (OpenSpec.upto fnSortedPiecesSpec)

/-- 'laws.FnTagged', WHERE WHAT IT READS IS OF BULK AT MOST 1048576: true; the input reads as it did. -/
def fnTaggedUptoRow : OpenClaim := { program := "ytjnljobncdpkkab", sum := "49e8bfc1bfda9826b50b9da227fd55ea51e710087154ff29d6da19e78d70e050", func := "loop.example/g00630/laws.FnTagged", spec := "fnTagged", unfollowed := true, recurses := true, apart := false, narrowed := true }
def FnTaggedUptoSaid : Prop := fnTaggedUptoRow.holds Try.pinned (OpenSpec.upto fnTaggedSpec)

/-- 'laws.FnFirst', WHERE WHAT IT READS IS OF BULK AT MOST 1048576: true; the input reads as it did. -/
def fnFirstUptoRow : OpenClaim := { program := "ytjnljobncdpkkab", sum := "49e8bfc1bfda9826b50b9da227fd55ea51e710087154ff29d6da19e78d70e050", func := "loop.example/g00630/laws.FnFirst", spec := "fnFirst", unfollowed := true, recurses := true, apart := false, narrowed := true }
def FnFirstUptoSaid : Prop := fnFirstUptoRow.holds Try.pinned (OpenSpec.upto fnFirstSpec)

/-- 'laws.FnGroupsMany', WHERE WHAT IT READS IS OF BULK AT MOST 1048576: true; the input reads as it did. -/
def fnGroupsManyUptoRow : OpenClaim := { program := "ytjnljobncdpkkab", sum := "49e8bfc1bfda9826b50b9da227fd55ea51e710087154ff29d6da19e78d70e050", func := "loop.example/g00630/laws.FnGroupsMany", spec := "fnGroupsMany", unfollowed := true, recurses := true, apart := false, narrowed := true }
def FnGroupsManyUptoSaid : Prop := fnGroupsManyUptoRow.holds Try.pinned (OpenSpec.upto fnGroupsManySpec)

/-- 'laws.FnTaggedSorted', WHERE WHAT IT READS IS OF BULK AT MOST 1048576: true; the input reads as it did. -/
def fnTaggedSortedUptoRow : OpenClaim := { program := "ytjnljobncdpkkab", sum := "49e8bfc1bfda9826b50b9da227fd55ea51e710087154ff29d6da19e78d70e050", func := "loop.example/g00630/laws.FnTaggedSorted", spec := "fnTaggedSorted", unfollowed := true, recurses := true, apart := false, narrowed := true }
def FnTaggedSortedUptoSaid : Prop := fnTaggedSortedUptoRow.holds Try.pinned (OpenSpec.upto fnTaggedSortedSpec)

end Rows
end Go.Proofs.Ytjnljobncdpkkab
