/-
  NARROWER THAN 'FOR EVERY INPUT', by the rows' own cells (each row's printed sentence says how): FnExactSplitsOf: ifaces, laid · FnSplits: ifaces, laid · FnExactJobOk: ifaces, laid · FnExactMapTask: ifaces, laid · FnMapOne: ifaces, laid · FnJobMore: ifaces, laid.
  DERIVED. THE GIVEN ROWS OF THIS SEAT. 6 by the template 'for every input the law returns true; each argument reads behind the call as it read before'; 0 by the template 'total and deterministic' (their statements: YtallcholbbfkdaaDoorTotals.lean).
  GIVEN WITH THE SEED: the statements are not yours to turn. If you find one false, say at which input.
  Laid BY PROGRAM, IN A SANDBOX (cutbox-rows.mjs): the forced cells as the released guide's own fill.sh prints them over the translation 95d802c7ef11f409… (all of the seat's roots in one cut). By AI agents, Wed Nov 11 2026. No macro, syntax, notation, axiom, sorry.
-/
import Derived.Test.YtallcholbbfkdaaDoorChecked
import GoSem.Claim
import GoSem.ClaimJoined
import GoSem.ClaimMapViews
import Derived.JoinedTies
import Derived.KernelRfl
namespace Go.Proofs.YtallcholbbfkdaaDoor
/- THE CELL 'sum', in the pinned program and in every row, IS THE sha256 OF THE DUMP (.gsa) THAT YtallcholbbfkdaaDoorProg.lean LOADS. Nothing in Lean hashes anything: it is a label: what it is worth is what the hold of that sum in a sandbox is worth. -/
noncomputable def Tryd.pinned : Pinned := { name := "ytallcholbbfkdaadoor", sum := "95d802c7ef11f409c374e28826c4923e3d65a069446cb41f70a1fce5c5e28f46", checked := Tryd.checked }
namespace Rows
def none {H : Type} : Left H := { results := [], args := [] }

/- WHAT THE LISTED PACKAGE-LEVEL VARIABLES READ AS WHEN THE CALL BEGINS. Each datum BY PROGRAM (the guide's laid-datum.mjs) off the statement by which the dump's own 'gosem.cut.vars' lays the variable. In a bare row this is a premise. The card (YtallcholbbfkdaaDoorCards.lean) ties it to the program's text. -/
def laid_errors_errorType {H : Type} : DataW H := .iface "internal/reflectlite.rtype" (.agg [.ptr (.lit (.string [101, 114, 114, 111, 114]))])
def laid_loop_example_g00630_impl_errSplit {H : Type} : DataW H := .iface "*errors.errorString" (.ptr (.agg [.lit (.string [116, 104, 101, 32, 108, 105, 115, 116, 32, 99, 97, 110, 110, 111, 116, 32, 98, 101, 32, 115, 112, 108, 105, 116])]))
def laid_loop_example_g00630_impl_errJob {H : Type} : DataW H := .iface "*errors.errorString" (.ptr (.agg [.lit (.string [116, 104, 101, 32, 106, 111, 98, 32, 105, 115, 32, 110, 111, 116, 32, 118, 97, 108, 105, 100])]))
def laid_loop_example_g00630_impl_errTask {H : Type} : DataW H := .iface "*errors.errorString" (.ptr (.agg [.lit (.string [116, 104, 101, 32, 106, 111, 98, 32, 104, 97, 115, 32, 110, 111, 32, 115, 117, 99, 104, 32, 116, 97, 115, 107])]))

/-- 'laws.FnExactSplitsOf': WHATEVER THE INPUT: true; the input reads as it did. -/
def fnExactSplitsOfSpec : ChangeSpec := { name := "fnExactSplitsOf", vars := ["loop.example/g00630/impl.errSplit"], fn := fun _ => fun
  | [d1, d2, g1] => { results := [.lit (.bool true)], args := [d1, d2], vars := [g1] }
  | _ => none }
def fnExactSplitsOfRow : OpenClaim := { program := "ytallcholbbfkdaadoor", sum := "95d802c7ef11f409c374e28826c4923e3d65a069446cb41f70a1fce5c5e28f46", func := "loop.example/g00630/laws.FnExactSplitsOf", spec := "fnExactSplitsOf", inPlace := ["internal/reflectlite.ValueOf", "(internal/reflectlite.Value).Type", "(internal/reflectlite.Value).IsNil", "internal/reflectlite.TypeOf", "(internal/reflectlite.Value).Elem", "(internal/reflectlite.Value).Set"], unfollowed := true, recurses := true, named := ["loop.example/g00630/impl.errSplit", "errors.errorType"], ifaces := true, apart := false, laid := [("errors.errorType", laid_errors_errorType), ("loop.example/g00630/impl.errSplit", laid_loop_example_g00630_impl_errSplit)] }
def FnExactSplitsOfSaid : Prop := fnExactSplitsOfRow.holds Tryd.pinned (OpenSpec.ofChange fnExactSplitsOfSpec)

/-- ITS FALSE NEIGHBOUR: 'it returns false'. Refute it at one input. -/
def fnExactSplitsOfWrong : ChangeSpec := { name := "fnExactSplitsOf", vars := ["loop.example/g00630/impl.errSplit"], fn := fun _ => fun
  | [d1, d2, g1] => { results := [.lit (.bool false)], args := [d1, d2], vars := [g1] }
  | _ => none }
def FnExactSplitsOfWrongFalsely : Prop := fnExactSplitsOfRow.holds Tryd.pinned (OpenSpec.ofChange fnExactSplitsOfWrong)

/-- 'laws.FnSplits': WHATEVER THE INPUT: true; the input reads as it did. -/
def fnSplitsSpec : ChangeSpec := { name := "fnSplits", vars := ["loop.example/g00630/impl.errSplit"], fn := fun _ => fun
  | [d, g1] => { results := [.lit (.bool true)], args := [d], vars := [g1] }
  | _ => none }
def fnSplitsRow : OpenClaim := { program := "ytallcholbbfkdaadoor", sum := "95d802c7ef11f409c374e28826c4923e3d65a069446cb41f70a1fce5c5e28f46", func := "loop.example/g00630/laws.FnSplits", spec := "fnSplits", inPlace := ["internal/reflectlite.ValueOf", "(internal/reflectlite.Value).Type", "(internal/reflectlite.Value).IsNil", "internal/reflectlite.TypeOf", "(internal/reflectlite.Value).Elem", "(internal/reflectlite.Value).Set"], unfollowed := true, recurses := true, named := ["loop.example/g00630/impl.errSplit", "errors.errorType"], ifaces := true, apart := false, laid := [("errors.errorType", laid_errors_errorType), ("loop.example/g00630/impl.errSplit", laid_loop_example_g00630_impl_errSplit)] }
def FnSplitsSaid : Prop := fnSplitsRow.holds Tryd.pinned (OpenSpec.ofChange fnSplitsSpec)

/-- ITS FALSE NEIGHBOUR: 'it returns false'. Refute it at one input. -/
def fnSplitsWrong : ChangeSpec := { name := "fnSplits", vars := ["loop.example/g00630/impl.errSplit"], fn := fun _ => fun
  | [d, g1] => { results := [.lit (.bool false)], args := [d], vars := [g1] }
  | _ => none }
def FnSplitsWrongFalsely : Prop := fnSplitsRow.holds Tryd.pinned (OpenSpec.ofChange fnSplitsWrong)

/-- 'laws.FnExactJobOk': WHATEVER THE INPUT: true; the input reads as it did. -/
def fnExactJobOkSpec : ChangeSpec := { name := "fnExactJobOk", vars := ["loop.example/g00630/impl.errJob"], fn := fun _ => fun
  | [d, g1] => { results := [.lit (.bool true)], args := [d], vars := [g1] }
  | _ => none }
def fnExactJobOkRow : OpenClaim := { program := "ytallcholbbfkdaadoor", sum := "95d802c7ef11f409c374e28826c4923e3d65a069446cb41f70a1fce5c5e28f46", func := "loop.example/g00630/laws.FnExactJobOk", spec := "fnExactJobOk", inPlace := ["internal/reflectlite.TypeOf"], unfollowed := true, recurses := true, named := ["loop.example/g00630/impl.errJob"], ifaces := true, apart := false, laid := [("loop.example/g00630/impl.errJob", laid_loop_example_g00630_impl_errJob)] }
def FnExactJobOkSaid : Prop := fnExactJobOkRow.holds Tryd.pinned (OpenSpec.ofChange fnExactJobOkSpec)

/-- ITS FALSE NEIGHBOUR: 'it returns false'. Refute it at one input. -/
def fnExactJobOkWrong : ChangeSpec := { name := "fnExactJobOk", vars := ["loop.example/g00630/impl.errJob"], fn := fun _ => fun
  | [d, g1] => { results := [.lit (.bool false)], args := [d], vars := [g1] }
  | _ => none }
def FnExactJobOkWrongFalsely : Prop := fnExactJobOkRow.holds Tryd.pinned (OpenSpec.ofChange fnExactJobOkWrong)

/-- 'laws.FnExactMapTask': WHATEVER THE INPUT: true; the input reads as it did. -/
def fnExactMapTaskSpec : ChangeSpec := { name := "fnExactMapTask", vars := ["loop.example/g00630/impl.errTask", "loop.example/g00630/impl.errJob"], fn := fun _ => fun
  | [d1, d2, g1, g2] => { results := [.lit (.bool true)], args := [d1, d2], vars := [g1, g2] }
  | _ => none }
def fnExactMapTaskRow : OpenClaim := { program := "ytallcholbbfkdaadoor", sum := "95d802c7ef11f409c374e28826c4923e3d65a069446cb41f70a1fce5c5e28f46", func := "loop.example/g00630/laws.FnExactMapTask", spec := "fnExactMapTask", inPlace := ["internal/reflectlite.ValueOf", "(internal/reflectlite.Value).Type", "(internal/reflectlite.Value).IsNil", "internal/reflectlite.TypeOf", "(internal/reflectlite.Value).Elem", "(internal/reflectlite.Value).Set"], unfollowed := true, recurses := true, named := ["loop.example/g00630/impl.errTask", "loop.example/g00630/impl.errJob", "errors.errorType"], ifaces := true, apart := false, laid := [("errors.errorType", laid_errors_errorType), ("loop.example/g00630/impl.errJob", laid_loop_example_g00630_impl_errJob), ("loop.example/g00630/impl.errTask", laid_loop_example_g00630_impl_errTask)] }
def FnExactMapTaskSaid : Prop := fnExactMapTaskRow.holds Tryd.pinned (OpenSpec.ofChange fnExactMapTaskSpec)

/-- ITS FALSE NEIGHBOUR: 'it returns false'. Refute it at one input. -/
def fnExactMapTaskWrong : ChangeSpec := { name := "fnExactMapTask", vars := ["loop.example/g00630/impl.errTask", "loop.example/g00630/impl.errJob"], fn := fun _ => fun
  | [d1, d2, g1, g2] => { results := [.lit (.bool false)], args := [d1, d2], vars := [g1, g2] }
  | _ => none }
def FnExactMapTaskWrongFalsely : Prop := fnExactMapTaskRow.holds Tryd.pinned (OpenSpec.ofChange fnExactMapTaskWrong)

/-- 'laws.FnMapOne': WHATEVER THE INPUT: true; the input reads as it did. -/
def fnMapOneSpec : ChangeSpec := { name := "fnMapOne", vars := ["loop.example/g00630/impl.errTask", "loop.example/g00630/impl.errJob"], fn := fun _ => fun
  | [d, g1, g2] => { results := [.lit (.bool true)], args := [d], vars := [g1, g2] }
  | _ => none }
def fnMapOneRow : OpenClaim := { program := "ytallcholbbfkdaadoor", sum := "95d802c7ef11f409c374e28826c4923e3d65a069446cb41f70a1fce5c5e28f46", func := "loop.example/g00630/laws.FnMapOne", spec := "fnMapOne", inPlace := ["internal/reflectlite.ValueOf", "(internal/reflectlite.Value).Type", "(internal/reflectlite.Value).IsNil", "internal/reflectlite.TypeOf", "(internal/reflectlite.Value).Elem", "(internal/reflectlite.Value).Set"], unfollowed := true, recurses := true, named := ["loop.example/g00630/impl.errTask", "loop.example/g00630/impl.errJob", "errors.errorType"], ifaces := true, apart := false, laid := [("errors.errorType", laid_errors_errorType), ("loop.example/g00630/impl.errJob", laid_loop_example_g00630_impl_errJob), ("loop.example/g00630/impl.errTask", laid_loop_example_g00630_impl_errTask)] }
def FnMapOneSaid : Prop := fnMapOneRow.holds Tryd.pinned (OpenSpec.ofChange fnMapOneSpec)

/-- ITS FALSE NEIGHBOUR: 'it returns false'. Refute it at one input. -/
def fnMapOneWrong : ChangeSpec := { name := "fnMapOne", vars := ["loop.example/g00630/impl.errTask", "loop.example/g00630/impl.errJob"], fn := fun _ => fun
  | [d, g1, g2] => { results := [.lit (.bool false)], args := [d], vars := [g1, g2] }
  | _ => none }
def FnMapOneWrongFalsely : Prop := fnMapOneRow.holds Tryd.pinned (OpenSpec.ofChange fnMapOneWrong)

/-- 'laws.FnJobMore': WHATEVER THE INPUT: true; the input reads as it did. -/
def fnJobMoreSpec : ChangeSpec := { name := "fnJobMore", vars := ["loop.example/g00630/impl.errJob"], fn := fun _ => fun
  | [d, g1] => { results := [.lit (.bool true)], args := [d], vars := [g1] }
  | _ => none }
def fnJobMoreRow : OpenClaim := { program := "ytallcholbbfkdaadoor", sum := "95d802c7ef11f409c374e28826c4923e3d65a069446cb41f70a1fce5c5e28f46", func := "loop.example/g00630/laws.FnJobMore", spec := "fnJobMore", inPlace := ["internal/reflectlite.ValueOf", "(internal/reflectlite.Value).Type", "(internal/reflectlite.Value).IsNil", "internal/reflectlite.TypeOf", "(internal/reflectlite.Value).Elem", "(internal/reflectlite.Value).Set"], unfollowed := true, recurses := true, named := ["loop.example/g00630/impl.errJob", "errors.errorType"], ifaces := true, apart := false, laid := [("errors.errorType", laid_errors_errorType), ("loop.example/g00630/impl.errJob", laid_loop_example_g00630_impl_errJob)] }
def FnJobMoreSaid : Prop := fnJobMoreRow.holds Tryd.pinned (OpenSpec.ofChange fnJobMoreSpec)

/-- ITS FALSE NEIGHBOUR: 'it returns false'. Refute it at one input. -/
def fnJobMoreWrong : ChangeSpec := { name := "fnJobMore", vars := ["loop.example/g00630/impl.errJob"], fn := fun _ => fun
  | [d, g1] => { results := [.lit (.bool false)], args := [d], vars := [g1] }
  | _ => none }
def FnJobMoreWrongFalsely : Prop := fnJobMoreRow.holds Tryd.pinned (OpenSpec.ofChange fnJobMoreWrong)

/- THE SECOND FORM. 'bulk': how many values and letters a reading holds, each counted each time it is reached (what is shared counts as often as it is met; a slice's spare places count too). A statement '..UptoSaid' is the law's where the arguments, and the package variables that the reading takes, are together of bulk at most 1048576: NARROWER than '..Said'. Prove '..Said' where nothing that the law and all that it calls make is longer than what came in: it says more and counts as full. Else prove '..UptoSaid'. A law counts once. -/
mutual
def uptoBulk {H : Type} : DataW H → Nat
  | .lit (.string bytes) => bytes.length + 1
  | .lit _ => 1
  | .nil => 1
  | .ptr d => uptoBulk d + 1
  | .slice elems spare => uptoBulkAll elems + uptoBulkAll spare + 1
  | .agg parts => uptoBulkAll parts + 1
  | .iface _ d => uptoBulk d + 1
  | .map entries => uptoBulkEntries entries + 1
  | .held _ => 1
def uptoBulkAll {H : Type} : List (DataW H) → Nat
  | [] => 0
  | d :: r => uptoBulk d + uptoBulkAll r
def uptoBulkEntries {H : Type} : List (Lit × DataW H) → Nat
  | [] => 0
  | x :: r => uptoBulkEntry x + uptoBulkEntries r
def uptoBulkEntry {H : Type} : Lit × DataW H → Nat
  | (.string bytes, d) => bytes.length + uptoBulk d + 1
  | (_, d) => uptoBulk d + 1
 end
def uptoSmall : (H : Type) → List (DataW H) → Bool := fun _ ds => decide (uptoBulkAll ds ≤ 1048576)
def OpenSpec.upto (s : _root_.Go.ChangeSpec) : _root_.Go.OpenSpec := { _root_.Go.OpenSpec.ofChange s with cond := some uptoSmall }

/-- 'laws.FnExactSplitsOf', WHERE WHAT IT READS IS OF BULK AT MOST 1048576: true; the input reads as it did. -/
def fnExactSplitsOfUptoRow : OpenClaim := { program := "ytallcholbbfkdaadoor", sum := "95d802c7ef11f409c374e28826c4923e3d65a069446cb41f70a1fce5c5e28f46", func := "loop.example/g00630/laws.FnExactSplitsOf", spec := "fnExactSplitsOf", inPlace := ["internal/reflectlite.ValueOf", "(internal/reflectlite.Value).Type", "(internal/reflectlite.Value).IsNil", "internal/reflectlite.TypeOf", "(internal/reflectlite.Value).Elem", "(internal/reflectlite.Value).Set"], unfollowed := true, recurses := true, named := ["loop.example/g00630/impl.errSplit", "errors.errorType"], ifaces := true, apart := false, laid := [("errors.errorType", laid_errors_errorType), ("loop.example/g00630/impl.errSplit", laid_loop_example_g00630_impl_errSplit)], narrowed := true }
def FnExactSplitsOfUptoSaid : Prop := fnExactSplitsOfUptoRow.holds Tryd.pinned (OpenSpec.upto fnExactSplitsOfSpec)

/-- 'laws.FnSplits', WHERE WHAT IT READS IS OF BULK AT MOST 1048576: true; the input reads as it did. -/
def fnSplitsUptoRow : OpenClaim := { program := "ytallcholbbfkdaadoor", sum := "95d802c7ef11f409c374e28826c4923e3d65a069446cb41f70a1fce5c5e28f46", func := "loop.example/g00630/laws.FnSplits", spec := "fnSplits", inPlace := ["internal/reflectlite.ValueOf", "(internal/reflectlite.Value).Type", "(internal/reflectlite.Value).IsNil", "internal/reflectlite.TypeOf", "(internal/reflectlite.Value).Elem", "(internal/reflectlite.Value).Set"], unfollowed := true, recurses := true, named := ["loop.example/g00630/impl.errSplit", "errors.errorType"], ifaces := true, apart := false, laid := [("errors.errorType", laid_errors_errorType), ("loop.example/g00630/impl.errSplit", laid_loop_example_g00630_impl_errSplit)], narrowed := true }
def FnSplitsUptoSaid : Prop := fnSplitsUptoRow.holds Tryd.pinned (OpenSpec.upto fnSplitsSpec)

/-- 'laws.FnExactJobOk', WHERE WHAT IT READS IS OF BULK AT MOST 1048576: true; the input reads as it did. -/
def fnExactJobOkUptoRow : OpenClaim := { program := "ytallcholbbfkdaadoor", sum := "95d802c7ef11f409c374e28826c4923e3d65a069446cb41f70a1fce5c5e28f46", func := "loop.example/g00630/laws.FnExactJobOk", spec := "fnExactJobOk", inPlace := ["internal/reflectlite.TypeOf"], unfollowed := true, recurses := true, named := ["loop.example/g00630/impl.errJob"], ifaces := true, apart := false, laid := [("loop.example/g00630/impl.errJob", laid_loop_example_g00630_impl_errJob)], narrowed := true }
def FnExactJobOkUptoSaid : Prop := fnExactJobOkUptoRow.holds Tryd.pinned (OpenSpec.upto fnExactJobOkSpec)

/-- 'laws.FnExactMapTask', WHERE WHAT IT READS IS OF BULK AT MOST 1048576: true; the input reads as it did. -/
def fnExactMapTaskUptoRow : OpenClaim := { program := "ytallcholbbfkdaadoor", sum := "95d802c7ef11f409c374e28826c4923e3d65a069446cb41f70a1fce5c5e28f46", func := "loop.example/g00630/laws.FnExactMapTask", spec := "fnExactMapTask", inPlace := ["internal/reflectlite.ValueOf", "(internal/reflectlite.Value).Type", "(internal/reflectlite.Value).IsNil", "internal/reflectlite.TypeOf", "(internal/reflectlite.Value).Elem", "(internal/reflectlite.Value).Set"], unfollowed := true, recurses := true, named := ["loop.example/g00630/impl.errTask", "loop.example/g00630/impl.errJob", "errors.errorType"], ifaces := true, apart := false, laid := [("errors.errorType", laid_errors_errorType), ("loop.example/g00630/impl.errJob", laid_loop_example_g00630_impl_errJob), ("loop.example/g00630/impl.errTask", laid_loop_example_g00630_impl_errTask)], narrowed := true }
def FnExactMapTaskUptoSaid : Prop := fnExactMapTaskUptoRow.holds Tryd.pinned (OpenSpec.upto fnExactMapTaskSpec)

/-- 'laws.FnMapOne', WHERE WHAT IT READS IS OF BULK AT MOST 1048576: true; the input reads as it did. -/
def fnMapOneUptoRow : OpenClaim := { program := "ytallcholbbfkdaadoor", sum := "95d802c7ef11f409c374e28826c4923e3d65a069446cb41f70a1fce5c5e28f46", func := "loop.example/g00630/laws.FnMapOne", spec := "fnMapOne", inPlace := ["internal/reflectlite.ValueOf", "(internal/reflectlite.Value).Type", "(internal/reflectlite.Value).IsNil", "internal/reflectlite.TypeOf", "(internal/reflectlite.Value).Elem", "(internal/reflectlite.Value).Set"], unfollowed := true, recurses := true, named := ["loop.example/g00630/impl.errTask", "loop.example/g00630/impl.errJob", "errors.errorType"], ifaces := true, apart := false, laid := [("errors.errorType", laid_errors_errorType), ("loop.example/g00630/impl.errJob", laid_loop_example_g00630_impl_errJob), ("loop.example/g00630/impl.errTask", laid_loop_example_g00630_impl_errTask)], narrowed := true }
def FnMapOneUptoSaid : Prop := fnMapOneUptoRow.holds Tryd.pinned (OpenSpec.upto fnMapOneSpec)

/-- 'laws.FnJobMore', WHERE WHAT IT READS IS OF BULK AT MOST 1048576: true; the input reads as it did. -/
def fnJobMoreUptoRow : OpenClaim := { program := "ytallcholbbfkdaadoor", sum := "95d802c7ef11f409c374e28826c4923e3d65a069446cb41f70a1fce5c5e28f46", func := "loop.example/g00630/laws.FnJobMore", spec := "fnJobMore", inPlace := ["internal/reflectlite.ValueOf", "(internal/reflectlite.Value).Type", "(internal/reflectlite.Value).IsNil", "internal/reflectlite.TypeOf", "(internal/reflectlite.Value).Elem", "(internal/reflectlite.Value).Set"], unfollowed := true, recurses := true, named := ["loop.example/g00630/impl.errJob", "errors.errorType"], ifaces := true, apart := false, laid := [("errors.errorType", laid_errors_errorType), ("loop.example/g00630/impl.errJob", laid_loop_example_g00630_impl_errJob)], narrowed := true }
def FnJobMoreUptoSaid : Prop := fnJobMoreUptoRow.holds Tryd.pinned (OpenSpec.upto fnJobMoreSpec)

end Rows
end Go.Proofs.YtallcholbbfkdaaDoor
