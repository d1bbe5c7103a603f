/-
  No cell of these rows narrows 'for every input' (looked for: loops, veiled, ifaces, maps, wideKeys, modest, calm, conditions, laid).
  DERIVED. THE GIVEN ROWS OF THIS SEAT. 5 by the template 'for every input the law returns true; each argument reads behind the call as it read before'; 0 by the template 'total and deterministic' (their statements: YtohiecppakiliaaTotals.lean).
  GIVEN WITH THE SEED: the statements are not yours to turn. If you find one false, say at which input.
  Laid BY PROGRAM, IN A SANDBOX (cutbox-rows.mjs): the forced cells as the released guide's own fill.sh prints them over the translation fc99430a181ef8bf… (all of the seat's roots in one cut). By AI agents, Wed Nov 11 2026. No macro, syntax, notation, axiom, sorry.
-/
import Derived.Test.YtohiecppakiliaaChecked
import GoSem.Claim
import GoSem.ClaimJoined
import GoSem.ClaimMapViews
import Derived.JoinedTies
import Derived.KernelRfl
namespace Go.Proofs.Ytohiecppakiliaa
/- THE CELL 'sum', in the pinned program and in every row, IS THE sha256 OF THE DUMP (.gsa) THAT YtohiecppakiliaaProg.lean LOADS. Nothing in Lean hashes anything: it is a label: what it is worth is what the hold of that sum in a sandbox is worth. -/
noncomputable def Try.pinned : Pinned := { name := "ytohiecppakiliaa", sum := "fc99430a181ef8bfff3064cea4feda2eff3e7a0d53a15459e14a1541592d6094", checked := Try.checked }
namespace Rows
def none {H : Type} : Left H := { results := [], args := [] }

/-- 'laws.FnFilters': WHATEVER THE INPUT: true; the input reads as it did. -/
def fnFiltersSpec : ChangeSpec := { name := "fnFilters", fn := fun _ => fun
  | [d] => { results := [.lit (.bool true)], args := [d] }
  | _ => none }
def fnFiltersRow : OpenClaim := { program := "ytohiecppakiliaa", sum := "fc99430a181ef8bfff3064cea4feda2eff3e7a0d53a15459e14a1541592d6094", func := "loop.example/g00630/laws.FnFilters", spec := "fnFilters", apart := false }
def FnFiltersSaid : Prop := fnFiltersRow.holds Try.pinned (OpenSpec.ofChange fnFiltersSpec)

/-- ITS FALSE NEIGHBOUR: 'it returns false'. Refute it at one input. -/
def fnFiltersWrong : ChangeSpec := { name := "fnFilters", fn := fun _ => fun
  | [d] => { results := [.lit (.bool false)], args := [d] }
  | _ => none }
def FnFiltersWrongFalsely : Prop := fnFiltersRow.holds Try.pinned (OpenSpec.ofChange fnFiltersWrong)

/-- 'laws.FnBothFilters': WHATEVER THE INPUT: true; the input reads as it did. -/
def fnBothFiltersSpec : ChangeSpec := { name := "fnBothFilters", fn := fun _ => fun
  | [d] => { results := [.lit (.bool true)], args := [d] }
  | _ => none }
def fnBothFiltersRow : OpenClaim := { program := "ytohiecppakiliaa", sum := "fc99430a181ef8bfff3064cea4feda2eff3e7a0d53a15459e14a1541592d6094", func := "loop.example/g00630/laws.FnBothFilters", spec := "fnBothFilters", apart := false }
def FnBothFiltersSaid : Prop := fnBothFiltersRow.holds Try.pinned (OpenSpec.ofChange fnBothFiltersSpec)

/-- ITS FALSE NEIGHBOUR: 'it returns false'. Refute it at one input. -/
def fnBothFiltersWrong : ChangeSpec := { name := "fnBothFilters", fn := fun _ => fun
  | [d] => { results := [.lit (.bool false)], args := [d] }
  | _ => none }
def FnBothFiltersWrongFalsely : Prop := fnBothFiltersRow.holds Try.pinned (OpenSpec.ofChange fnBothFiltersWrong)

/-- 'laws.FnFilterOf': WHATEVER THE INPUT: true; the input reads as it did. -/
def fnFilterOfSpec : ChangeSpec := { name := "fnFilterOf", fn := fun _ => fun
  | [d] => { results := [.lit (.bool true)], args := [d] }
  | _ => none }
def fnFilterOfRow : OpenClaim := { program := "ytohiecppakiliaa", sum := "fc99430a181ef8bfff3064cea4feda2eff3e7a0d53a15459e14a1541592d6094", func := "loop.example/g00630/laws.FnFilterOf", spec := "fnFilterOf", apart := false }
def FnFilterOfSaid : Prop := fnFilterOfRow.holds Try.pinned (OpenSpec.ofChange fnFilterOfSpec)

/-- ITS FALSE NEIGHBOUR: 'it returns false'. Refute it at one input. -/
def fnFilterOfWrong : ChangeSpec := { name := "fnFilterOf", fn := fun _ => fun
  | [d] => { results := [.lit (.bool false)], args := [d] }
  | _ => none }
def FnFilterOfWrongFalsely : Prop := fnFilterOfRow.holds Try.pinned (OpenSpec.ofChange fnFilterOfWrong)

/-- 'laws.FnParted': WHATEVER THE INPUT: true; the input reads as it did. -/
def fnPartedSpec : ChangeSpec := { name := "fnParted", fn := fun _ => fun
  | [d] => { results := [.lit (.bool true)], args := [d] }
  | _ => none }
def fnPartedRow : OpenClaim := { program := "ytohiecppakiliaa", sum := "fc99430a181ef8bfff3064cea4feda2eff3e7a0d53a15459e14a1541592d6094", func := "loop.example/g00630/laws.FnParted", spec := "fnParted", unfollowed := true, recurses := true, apart := false }
def FnPartedSaid : Prop := fnPartedRow.holds Try.pinned (OpenSpec.ofChange fnPartedSpec)

/-- ITS FALSE NEIGHBOUR: 'it returns false'. Refute it at one input. -/
def fnPartedWrong : ChangeSpec := { name := "fnParted", fn := fun _ => fun
  | [d] => { results := [.lit (.bool false)], args := [d] }
  | _ => none }
def FnPartedWrongFalsely : Prop := fnPartedRow.holds Try.pinned (OpenSpec.ofChange fnPartedWrong)

/-- 'laws.FnRangeSorted': WHATEVER THE INPUT: true; the input reads as it did. -/
def fnRangeSortedSpec : ChangeSpec := { name := "fnRangeSorted", fn := fun _ => fun
  | [d] => { results := [.lit (.bool true)], args := [d] }
  | _ => none }
def fnRangeSortedRow : OpenClaim := { program := "ytohiecppakiliaa", sum := "fc99430a181ef8bfff3064cea4feda2eff3e7a0d53a15459e14a1541592d6094", func := "loop.example/g00630/laws.FnRangeSorted", spec := "fnRangeSorted", unfollowed := true, recurses := true, apart := false }
def FnRangeSortedSaid : Prop := fnRangeSortedRow.holds Try.pinned (OpenSpec.ofChange fnRangeSortedSpec)

/-- ITS FALSE NEIGHBOUR: 'it returns false'. Refute it at one input. -/
def fnRangeSortedWrong : ChangeSpec := { name := "fnRangeSorted", fn := fun _ => fun
  | [d] => { results := [.lit (.bool false)], args := [d] }
  | _ => none }
def FnRangeSortedWrongFalsely : Prop := fnRangeSortedRow.holds Try.pinned (OpenSpec.ofChange fnRangeSortedWrong)

/- THE SECOND FORM. 'bulk': how many values and letters a reading holds, each counted each time it is reached (what is shared counts as often as it is met; a slice's spare places count too). A statement '..UptoSaid' is the law's where the arguments, and the package variables that the reading takes, are together of bulk at most 1048576: NARROWER than '..Said'. Prove '..Said' where nothing that the law and all that it calls make is longer than what came in: it says more and counts as full. Else prove '..UptoSaid'. A law counts once. -/
mutual
def uptoBulk {H : Type} : DataW H → Nat
  | .lit (.string bytes) => bytes.length + 1
  | .lit _ => 1
  | .nil => 1
  | .ptr d => uptoBulk d + 1
  | .slice elems spare => uptoBulkAll elems + uptoBulkAll spare + 1
  | .agg parts => uptoBulkAll parts + 1
  | .iface _ d => uptoBulk d + 1
  | .map entries => uptoBulkEntries entries + 1
  | .held _ => 1
def uptoBulkAll {H : Type} : List (DataW H) → Nat
  | [] => 0
  | d :: r => uptoBulk d + uptoBulkAll r
def uptoBulkEntries {H : Type} : List (Lit × DataW H) → Nat
  | [] => 0
  | x :: r => uptoBulkEntry x + uptoBulkEntries r
def uptoBulkEntry {H : Type} : Lit × DataW H → Nat
  | (.string bytes, d) => bytes.length + uptoBulk d + 1
  | (_, d) => uptoBulk d + 1
 end
def uptoSmall : (H : Type) → List (DataW H) → Bool := fun _ ds => decide (uptoBulkAll ds ≤ 1048576)
def OpenSpec.upto (s : _root_.Go.ChangeSpec) : _root_.Go.OpenSpec := { _root_.Go.OpenSpec.ofChange s with cond := some uptoSmall }

/-- 'laws.FnFilters', WHERE WHAT IT READS IS OF BULK AT MOST 1048576: true; the input reads as it did. -/
def fnFiltersUptoRow : OpenClaim := { program := "ytohiecppakiliaa", sum := "fc99430a181ef8bfff3064cea4feda2eff3e7a0d53a15459e14a1541592d6094", func := "loop.example/g00630/laws.FnFilters", spec := "fnFilters", apart := false, narrowed := true }
def FnFiltersUptoSaid : Prop := fnFiltersUptoRow.holds Try.pinned (OpenSpec.upto fnFiltersSpec)

/-- 'laws.FnBothFilters', WHERE WHAT IT READS IS OF BULK AT MOST 1048576: true; the input reads as it did. -/
def fnBothFiltersUptoRow : OpenClaim := { program := "ytohiecppakiliaa", sum := "fc99430a181ef8bfff3064cea4feda2eff3e7a0d53a15459e14a1541592d6094", func := "loop.example/g00630/laws.FnBothFilters", spec := "fnBothFilters", apart := false, narrowed := true }
def FnBothFiltersUptoSaid : Prop := fnBothFiltersUptoRow.holds Try.pinned (OpenSpec.upto fnBothFiltersSpec)

/-- 'laws.FnFilterOf', WHERE WHAT IT READS IS OF BULK AT MOST 1048576: true; the input reads as it did. -/
def fnFilterOfUptoRow : OpenClaim := { program := "ytohiecppakiliaa", sum := "fc99430a181ef8bfff3064cea4feda2eff3e7a0d53a15459e14a1541592d6094", func := "loop.example/g00630/laws.FnFilterOf", spec := "fnFilterOf", apart := false, narrowed := true }
def FnFilterOfUptoSaid : Prop := fnFilterOfUptoRow.holds Try.pinned (OpenSpec.upto fnFilterOfSpec)

/-- 'laws.FnParted', WHERE WHAT IT READS IS OF BULK AT MOST 1048576: true; the input reads as it did. -/
def fnPartedUptoRow : OpenClaim := { program := "ytohiecppakiliaa", sum := "fc99430a181ef8bfff3064cea4feda2eff3e7a0d53a15459e14a1541592d6094", func := "loop.example/g00630/laws.FnParted", spec := "fnParted", unfollowed := true, recurses := true, apart := false, narrowed := true }
def FnPartedUptoSaid : Prop := fnPartedUptoRow.holds Try.pinned (OpenSpec.upto fnPartedSpec)

/-- 'laws.FnRangeSorted', WHERE WHAT IT READS IS OF BULK AT MOST 1048576: true; the input reads as it did. -/
def fnRangeSortedUptoRow : OpenClaim := { program := "ytohiecppakiliaa", sum := "fc99430a181ef8bfff3064cea4feda2eff3e7a0d53a15459e14a1541592d6094", func := "loop.example/g00630/laws.FnRangeSorted", spec := "fnRangeSorted", unfollowed := true, recurses := true, apart := false, narrowed := true }
def FnRangeSortedUptoSaid : Prop := fnRangeSortedUptoRow.holds Try.pinned (OpenSpec.upto fnRangeSortedSpec)

end Rows
end Go.Proofs.Ytohiecppakiliaa
