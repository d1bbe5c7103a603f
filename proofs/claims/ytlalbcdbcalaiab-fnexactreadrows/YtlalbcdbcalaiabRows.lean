/-
  No cell of these rows narrows 'for every input' (looked for: loops, veiled, ifaces, maps, wideKeys, modest, calm, conditions, laid).
  DERIVED. THE GIVEN ROWS OF THIS SEAT. 9 by the template 'for every input the law returns true; each argument reads behind the call as it read before'; 0 by the template 'total and deterministic' (their statements: YtlalbcdbcalaiabTotals.lean).
  GIVEN WITH THE SEED: the statements are not yours to turn. If you find one false, say at which input.
  Laid BY PROGRAM, IN A SANDBOX (cutbox-rows.mjs): the forced cells as the released guide's own fill.sh prints them over the translation 8dafbd7cba21e122… (all of the seat's roots in one cut). By AI agents, Wed Nov 11 2026. No macro, syntax, notation, axiom, sorry.
-/
import Derived.Test.YtlalbcdbcalaiabChecked
import GoSem.Claim
import GoSem.ClaimJoined
import GoSem.ClaimMapViews
import Derived.JoinedTies
import Derived.KernelRfl
namespace Go.Proofs.Ytlalbcdbcalaiab
/- THE CELL 'sum', in the pinned program and in every row, IS THE sha256 OF THE DUMP (.gsa) THAT YtlalbcdbcalaiabProg.lean LOADS. Nothing in Lean hashes anything: it is a label: what it is worth is what the hold of that sum in a sandbox is worth. -/
noncomputable def Try.pinned : Pinned := { name := "ytlalbcdbcalaiab", sum := "8dafbd7cba21e122917d9e2534baac72015565d9c86716df19aa7352aad8e9e9", checked := Try.checked }
namespace Rows
def none {H : Type} : Left H := { results := [], args := [] }

/-- 'laws.FnRangeMore': WHATEVER THE INPUT: true; the input reads as it did. -/
def fnRangeMoreSpec : ChangeSpec := { name := "fnRangeMore", fn := fun _ => fun
  | [d] => { results := [.lit (.bool true)], args := [d] }
  | _ => none }
def fnRangeMoreRow : OpenClaim := { program := "ytlalbcdbcalaiab", sum := "8dafbd7cba21e122917d9e2534baac72015565d9c86716df19aa7352aad8e9e9", func := "loop.example/g00630/laws.FnRangeMore", spec := "fnRangeMore", apart := false }
def FnRangeMoreSaid : Prop := fnRangeMoreRow.holds Try.pinned (OpenSpec.ofChange fnRangeMoreSpec)

/-- ITS FALSE NEIGHBOUR: 'it returns false'. Refute it at one input. -/
def fnRangeMoreWrong : ChangeSpec := { name := "fnRangeMore", fn := fun _ => fun
  | [d] => { results := [.lit (.bool false)], args := [d] }
  | _ => none }
def FnRangeMoreWrongFalsely : Prop := fnRangeMoreRow.holds Try.pinned (OpenSpec.ofChange fnRangeMoreWrong)

/-- 'laws.FnExactRowOk': WHATEVER THE INPUT: true; the input reads as it did. -/
def fnExactRowOkSpec : ChangeSpec := { name := "fnExactRowOk", fn := fun _ => fun
  | [d] => { results := [.lit (.bool true)], args := [d] }
  | _ => none }
def fnExactRowOkRow : OpenClaim := { program := "ytlalbcdbcalaiab", sum := "8dafbd7cba21e122917d9e2534baac72015565d9c86716df19aa7352aad8e9e9", func := "loop.example/g00630/laws.FnExactRowOk", spec := "fnExactRowOk", apart := false }
def FnExactRowOkSaid : Prop := fnExactRowOkRow.holds Try.pinned (OpenSpec.ofChange fnExactRowOkSpec)

/-- ITS FALSE NEIGHBOUR: 'it returns false'. Refute it at one input. -/
def fnExactRowOkWrong : ChangeSpec := { name := "fnExactRowOk", fn := fun _ => fun
  | [d] => { results := [.lit (.bool false)], args := [d] }
  | _ => none }
def FnExactRowOkWrongFalsely : Prop := fnExactRowOkRow.holds Try.pinned (OpenSpec.ofChange fnExactRowOkWrong)

/-- 'laws.FnExactRowsOk': WHATEVER THE INPUT: true; the input reads as it did. -/
def fnExactRowsOkSpec : ChangeSpec := { name := "fnExactRowsOk", fn := fun _ => fun
  | [d] => { results := [.lit (.bool true)], args := [d] }
  | _ => none }
def fnExactRowsOkRow : OpenClaim := { program := "ytlalbcdbcalaiab", sum := "8dafbd7cba21e122917d9e2534baac72015565d9c86716df19aa7352aad8e9e9", func := "loop.example/g00630/laws.FnExactRowsOk", spec := "fnExactRowsOk", apart := false }
def FnExactRowsOkSaid : Prop := fnExactRowsOkRow.holds Try.pinned (OpenSpec.ofChange fnExactRowsOkSpec)

/-- ITS FALSE NEIGHBOUR: 'it returns false'. Refute it at one input. -/
def fnExactRowsOkWrong : ChangeSpec := { name := "fnExactRowsOk", fn := fun _ => fun
  | [d] => { results := [.lit (.bool false)], args := [d] }
  | _ => none }
def FnExactRowsOkWrongFalsely : Prop := fnExactRowsOkRow.holds Try.pinned (OpenSpec.ofChange fnExactRowsOkWrong)

/-- 'laws.FnExactReadKeyCode': WHATEVER THE INPUT: true; the input reads as it did. -/
def fnExactReadKeyCodeSpec : ChangeSpec := { name := "fnExactReadKeyCode", fn := fun _ => fun
  | [d] => { results := [.lit (.bool true)], args := [d] }
  | _ => none }
def fnExactReadKeyCodeRow : OpenClaim := { program := "ytlalbcdbcalaiab", sum := "8dafbd7cba21e122917d9e2534baac72015565d9c86716df19aa7352aad8e9e9", func := "loop.example/g00630/laws.FnExactReadKeyCode", spec := "fnExactReadKeyCode", unfollowed := true, recurses := true, apart := false }
def FnExactReadKeyCodeSaid : Prop := fnExactReadKeyCodeRow.holds Try.pinned (OpenSpec.ofChange fnExactReadKeyCodeSpec)

/-- ITS FALSE NEIGHBOUR: 'it returns false'. Refute it at one input. -/
def fnExactReadKeyCodeWrong : ChangeSpec := { name := "fnExactReadKeyCode", fn := fun _ => fun
  | [d] => { results := [.lit (.bool false)], args := [d] }
  | _ => none }
def FnExactReadKeyCodeWrongFalsely : Prop := fnExactReadKeyCodeRow.holds Try.pinned (OpenSpec.ofChange fnExactReadKeyCodeWrong)

/-- 'laws.FnExactReadRow': WHATEVER THE INPUT: true; the input reads as it did. -/
def fnExactReadRowSpec : ChangeSpec := { name := "fnExactReadRow", fn := fun _ => fun
  | [d] => { results := [.lit (.bool true)], args := [d] }
  | _ => none }
def fnExactReadRowRow : OpenClaim := { program := "ytlalbcdbcalaiab", sum := "8dafbd7cba21e122917d9e2534baac72015565d9c86716df19aa7352aad8e9e9", func := "loop.example/g00630/laws.FnExactReadRow", spec := "fnExactReadRow", unfollowed := true, recurses := true, apart := false }
def FnExactReadRowSaid : Prop := fnExactReadRowRow.holds Try.pinned (OpenSpec.ofChange fnExactReadRowSpec)

/-- ITS FALSE NEIGHBOUR: 'it returns false'. Refute it at one input. -/
def fnExactReadRowWrong : ChangeSpec := { name := "fnExactReadRow", fn := fun _ => fun
  | [d] => { results := [.lit (.bool false)], args := [d] }
  | _ => none }
def FnExactReadRowWrongFalsely : Prop := fnExactReadRowRow.holds Try.pinned (OpenSpec.ofChange fnExactReadRowWrong)

/-- 'laws.FnExactLess': WHATEVER THE INPUT: true; the input reads as it did. -/
def fnExactLessSpec : ChangeSpec := { name := "fnExactLess", fn := fun _ => fun
  | [d1, d2] => { results := [.lit (.bool true)], args := [d1, d2] }
  | _ => none }
def fnExactLessRow : OpenClaim := { program := "ytlalbcdbcalaiab", sum := "8dafbd7cba21e122917d9e2534baac72015565d9c86716df19aa7352aad8e9e9", func := "loop.example/g00630/laws.FnExactLess", spec := "fnExactLess", apart := false }
def FnExactLessSaid : Prop := fnExactLessRow.holds Try.pinned (OpenSpec.ofChange fnExactLessSpec)

/-- ITS FALSE NEIGHBOUR: 'it returns false'. Refute it at one input. -/
def fnExactLessWrong : ChangeSpec := { name := "fnExactLess", fn := fun _ => fun
  | [d1, d2] => { results := [.lit (.bool false)], args := [d1, d2] }
  | _ => none }
def FnExactLessWrongFalsely : Prop := fnExactLessRow.holds Try.pinned (OpenSpec.ofChange fnExactLessWrong)

/-- 'laws.FnExactReadRows': WHATEVER THE INPUT: true; the input reads as it did. -/
def fnExactReadRowsSpec : ChangeSpec := { name := "fnExactReadRows", fn := fun _ => fun
  | [d] => { results := [.lit (.bool true)], args := [d] }
  | _ => none }
def fnExactReadRowsRow : OpenClaim := { program := "ytlalbcdbcalaiab", sum := "8dafbd7cba21e122917d9e2534baac72015565d9c86716df19aa7352aad8e9e9", func := "loop.example/g00630/laws.FnExactReadRows", spec := "fnExactReadRows", unfollowed := true, recurses := true, apart := false }
def FnExactReadRowsSaid : Prop := fnExactReadRowsRow.holds Try.pinned (OpenSpec.ofChange fnExactReadRowsSpec)

/-- ITS FALSE NEIGHBOUR: 'it returns false'. Refute it at one input. -/
def fnExactReadRowsWrong : ChangeSpec := { name := "fnExactReadRows", fn := fun _ => fun
  | [d] => { results := [.lit (.bool false)], args := [d] }
  | _ => none }
def FnExactReadRowsWrongFalsely : Prop := fnExactReadRowsRow.holds Try.pinned (OpenSpec.ofChange fnExactReadRowsWrong)

/-- 'laws.FnExactHashOf': WHATEVER THE INPUT: true; the input reads as it did. -/
def fnExactHashOfSpec : ChangeSpec := { name := "fnExactHashOf", fn := fun _ => fun
  | [d] => { results := [.lit (.bool true)], args := [d] }
  | _ => none }
def fnExactHashOfRow : OpenClaim := { program := "ytlalbcdbcalaiab", sum := "8dafbd7cba21e122917d9e2534baac72015565d9c86716df19aa7352aad8e9e9", func := "loop.example/g00630/laws.FnExactHashOf", spec := "fnExactHashOf", apart := false }
def FnExactHashOfSaid : Prop := fnExactHashOfRow.holds Try.pinned (OpenSpec.ofChange fnExactHashOfSpec)

/-- ITS FALSE NEIGHBOUR: 'it returns false'. Refute it at one input. -/
def fnExactHashOfWrong : ChangeSpec := { name := "fnExactHashOf", fn := fun _ => fun
  | [d] => { results := [.lit (.bool false)], args := [d] }
  | _ => none }
def FnExactHashOfWrongFalsely : Prop := fnExactHashOfRow.holds Try.pinned (OpenSpec.ofChange fnExactHashOfWrong)

/-- 'laws.FnExactPartOf': WHATEVER THE INPUT: true; the input reads as it did. -/
def fnExactPartOfSpec : ChangeSpec := { name := "fnExactPartOf", fn := fun _ => fun
  | [d1, d2] => { results := [.lit (.bool true)], args := [d1, d2] }
  | _ => none }
def fnExactPartOfRow : OpenClaim := { program := "ytlalbcdbcalaiab", sum := "8dafbd7cba21e122917d9e2534baac72015565d9c86716df19aa7352aad8e9e9", func := "loop.example/g00630/laws.FnExactPartOf", spec := "fnExactPartOf", apart := false }
def FnExactPartOfSaid : Prop := fnExactPartOfRow.holds Try.pinned (OpenSpec.ofChange fnExactPartOfSpec)

/-- ITS FALSE NEIGHBOUR: 'it returns false'. Refute it at one input. -/
def fnExactPartOfWrong : ChangeSpec := { name := "fnExactPartOf", fn := fun _ => fun
  | [d1, d2] => { results := [.lit (.bool false)], args := [d1, d2] }
  | _ => none }
def FnExactPartOfWrongFalsely : Prop := fnExactPartOfRow.holds Try.pinned (OpenSpec.ofChange fnExactPartOfWrong)

/- THE SECOND FORM. 'bulk': how many values and letters a reading holds, each counted each time it is reached (what is shared counts as often as it is met; a slice's spare places count too). A statement '..UptoSaid' is the law's where the arguments, and the package variables that the reading takes, are together of bulk at most 1048576: NARROWER than '..Said'. Prove '..Said' where nothing that the law and all that it calls make is longer than what came in: it says more and counts as full. Else prove '..UptoSaid'. A law counts once. -/
mutual
def uptoBulk {H : Type} : DataW H → Nat
  | .lit (.string bytes) => bytes.length + 1
  | .lit _ => 1
  | .nil => 1
  | .ptr d => uptoBulk d + 1
  | .slice elems spare => uptoBulkAll elems + uptoBulkAll spare + 1
  | .agg parts => uptoBulkAll parts + 1
  | .iface _ d => uptoBulk d + 1
  | .map entries => uptoBulkEntries entries + 1
  | .held _ => 1
def uptoBulkAll {H : Type} : List (DataW H) → Nat
  | [] => 0
  | d :: r => uptoBulk d + uptoBulkAll r
def uptoBulkEntries {H : Type} : List (Lit × DataW H) → Nat
  | [] => 0
  | x :: r => uptoBulkEntry x + uptoBulkEntries r
def uptoBulkEntry {H : Type} : Lit × DataW H → Nat
  | (.string bytes, d) => bytes.length + uptoBulk d + 1
  | (_, d) => uptoBulk d + 1
 end
def uptoSmall : (H : Type) → List (DataW H) → Bool := fun _ ds => decide (uptoBulkAll ds ≤ 1048576)
def OpenSpec.upto (s : _root_.Go.ChangeSpec) : _root_.Go.OpenSpec := { _root_.Go.OpenSpec.ofChange s with cond := some uptoSmall }

/-- 'laws.FnRangeMore', WHERE WHAT IT READS IS OF BULK AT MOST 1048576: true; the input reads as it did. -/
def fnRangeMoreUptoRow : OpenClaim := { program := "ytlalbcdbcalaiab", sum := "8dafbd7cba21e122917d9e2534baac72015565d9c86716df19aa7352aad8e9e9", func := "loop.example/g00630/laws.FnRangeMore", spec := "fnRangeMore", apart := false, narrowed := true }
def FnRangeMoreUptoSaid : Prop := fnRangeMoreUptoRow.holds Try.pinned (OpenSpec.upto fnRangeMoreSpec)

/-- 'laws.FnExactRowOk', WHERE WHAT IT READS IS OF BULK AT MOST 1048576: true; the input reads as it did. -/
def fnExactRowOkUptoRow : OpenClaim := { program := "ytlalbcdbcalaiab", sum := "8dafbd7cba21e122917d9e2534baac72015565d9c86716df19aa7352aad8e9e9", func := "loop.example/g00630/laws.FnExactRowOk", spec := "fnExactRowOk", apart := false, narrowed := true }
def FnExactRowOkUptoSaid : Prop := fnExactRowOkUptoRow.holds Try.pinned (OpenSpec.upto fnExactRowOkSpec)

/-- 'laws.FnExactRowsOk', WHERE WHAT IT READS IS OF BULK AT MOST 1048576: true; the input reads as it did. -/
def fnExactRowsOkUptoRow : OpenClaim := { program := "ytlalbcdbcalaiab", sum := "8dafbd7cba21e122917d9e2534baac72015565d9c86716df19aa7352aad8e9e9", func := "loop.example/g00630/laws.FnExactRowsOk", spec := "fnExactRowsOk", apart := false, narrowed := true }
def FnExactRowsOkUptoSaid : Prop := fnExactRowsOkUptoRow.holds Try.pinned (OpenSpec.upto fnExactRowsOkSpec)

/-- 'laws.FnExactReadKeyCode', WHERE WHAT IT READS IS OF BULK AT MOST 1048576: true; the input reads as it did. -/
def fnExactReadKeyCodeUptoRow : OpenClaim := { program := "ytlalbcdbcalaiab", sum := "8dafbd7cba21e122917d9e2534baac72015565d9c86716df19aa7352aad8e9e9", func := "loop.example/g00630/laws.FnExactReadKeyCode", spec := "fnExactReadKeyCode", unfollowed := true, recurses := true, apart := false, narrowed := true }
def FnExactReadKeyCodeUptoSaid : Prop := fnExactReadKeyCodeUptoRow.holds Try.pinned (OpenSpec.upto fnExactReadKeyCodeSpec)

/-- 'laws.FnExactReadRow', WHERE WHAT IT READS IS OF BULK AT MOST 1048576: true; the input reads as it did. -/
def fnExactReadRowUptoRow : OpenClaim := { program := "ytlalbcdbcalaiab", sum := "8dafbd7cba21e122917d9e2534baac72015565d9c86716df19aa7352aad8e9e9", func := "loop.example/g00630/laws.FnExactReadRow", spec := "fnExactReadRow", unfollowed := true, recurses := true, apart := false, narrowed := true }
def FnExactReadRowUptoSaid : Prop := fnExactReadRowUptoRow.holds Try.pinned (OpenSpec.upto fnExactReadRowSpec)

/-- 'laws.FnExactLess', WHERE WHAT IT READS IS OF BULK AT MOST 1048576: true; the input reads as it did. -/
def fnExactLessUptoRow : OpenClaim := { program := "ytlalbcdbcalaiab", sum := "8dafbd7cba21e122917d9e2534baac72015565d9c86716df19aa7352aad8e9e9", func := "loop.example/g00630/laws.FnExactLess", spec := "fnExactLess", apart := false, narrowed := true }
def FnExactLessUptoSaid : Prop := fnExactLessUptoRow.holds Try.pinned (OpenSpec.upto fnExactLessSpec)

/-- 'laws.FnExactReadRows', WHERE WHAT IT READS IS OF BULK AT MOST 1048576: true; the input reads as it did. -/
def fnExactReadRowsUptoRow : OpenClaim := { program := "ytlalbcdbcalaiab", sum := "8dafbd7cba21e122917d9e2534baac72015565d9c86716df19aa7352aad8e9e9", func := "loop.example/g00630/laws.FnExactReadRows", spec := "fnExactReadRows", unfollowed := true, recurses := true, apart := false, narrowed := true }
def FnExactReadRowsUptoSaid : Prop := fnExactReadRowsUptoRow.holds Try.pinned (OpenSpec.upto fnExactReadRowsSpec)

/-- 'laws.FnExactHashOf', WHERE WHAT IT READS IS OF BULK AT MOST 1048576: true; the input reads as it did. -/
def fnExactHashOfUptoRow : OpenClaim := { program := "ytlalbcdbcalaiab", sum := "8dafbd7cba21e122917d9e2534baac72015565d9c86716df19aa7352aad8e9e9", func := "loop.example/g00630/laws.FnExactHashOf", spec := "fnExactHashOf", apart := false, narrowed := true }
def FnExactHashOfUptoSaid : Prop := fnExactHashOfUptoRow.holds Try.pinned (OpenSpec.upto fnExactHashOfSpec)

/-- 'laws.FnExactPartOf', WHERE WHAT IT READS IS OF BULK AT MOST 1048576: true; the input reads as it did. -/
def fnExactPartOfUptoRow : OpenClaim := { program := "ytlalbcdbcalaiab", sum := "8dafbd7cba21e122917d9e2534baac72015565d9c86716df19aa7352aad8e9e9", func := "loop.example/g00630/laws.FnExactPartOf", spec := "fnExactPartOf", apart := false, narrowed := true }
def FnExactPartOfUptoSaid : Prop := fnExactPartOfUptoRow.holds Try.pinned (OpenSpec.upto fnExactPartOfSpec)

end Rows
end Go.Proofs.Ytlalbcdbcalaiab
