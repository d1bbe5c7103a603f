/-
  No cell of these rows narrows 'for every input' (looked for: loops, veiled, ifaces, maps, wideKeys, modest, calm, conditions, laid).
  DERIVED. THE GIVEN ROWS OF THIS SEAT. 4 by the template 'for every input the law returns true; each argument reads behind the call as it read before'; 0 by the template 'total and deterministic' (their statements: YtlalbcdbcalaiacTotals.lean).
  GIVEN WITH THE SEED: the statements are not yours to turn. If you find one false, say at which input.
  Laid BY PROGRAM, IN A SANDBOX (cutbox-rows.mjs): the forced cells as the released guide's own fill.sh prints them over the translation 64da4533671b1b64… (all of the seat's roots in one cut). By AI agents, Wed Nov 11 2026. No macro, syntax, notation, axiom, sorry.
-/
import Derived.Test.YtlalbcdbcalaiacChecked
import GoSem.Claim
import GoSem.ClaimJoined
import GoSem.ClaimMapViews
import Derived.JoinedTies
import Derived.KernelRfl
namespace Go.Proofs.Ytlalbcdbcalaiac
/- THE CELL 'sum', in the pinned program and in every row, IS THE sha256 OF THE DUMP (.gsa) THAT YtlalbcdbcalaiacProg.lean LOADS. Nothing in Lean hashes anything: it is a label: what it is worth is what the hold of that sum in a sandbox is worth. -/
noncomputable def Try.pinned : Pinned := { name := "ytlalbcdbcalaiac", sum := "64da4533671b1b64b9706a00b41dc6744bcde56c152d338cf356759cbd919779", checked := Try.checked }
namespace Rows
def none {H : Type} : Left H := { results := [], args := [] }

/-- 'laws.FnExactParted': WHATEVER THE INPUT: true; the input reads as it did. -/
def fnExactPartedSpec : ChangeSpec := { name := "fnExactParted", fn := fun _ => fun
  | [d1, d2] => { results := [.lit (.bool true)], args := [d1, d2] }
  | _ => none }
def fnExactPartedRow : OpenClaim := { program := "ytlalbcdbcalaiac", sum := "64da4533671b1b64b9706a00b41dc6744bcde56c152d338cf356759cbd919779", func := "loop.example/g00630/laws.FnExactParted", spec := "fnExactParted", unfollowed := true, recurses := true, apart := false }
def FnExactPartedSaid : Prop := fnExactPartedRow.holds Try.pinned (OpenSpec.ofChange fnExactPartedSpec)

/-- ITS FALSE NEIGHBOUR: 'it returns false'. Refute it at one input. -/
def fnExactPartedWrong : ChangeSpec := { name := "fnExactParted", fn := fun _ => fun
  | [d1, d2] => { results := [.lit (.bool false)], args := [d1, d2] }
  | _ => none }
def FnExactPartedWrongFalsely : Prop := fnExactPartedRow.holds Try.pinned (OpenSpec.ofChange fnExactPartedWrong)

/-- 'laws.FnExactRangeOf': WHATEVER THE INPUT: true; the input reads as it did. -/
def fnExactRangeOfSpec : ChangeSpec := { name := "fnExactRangeOf", fn := fun _ => fun
  | [d1, d2] => { results := [.lit (.bool true)], args := [d1, d2] }
  | _ => none }
def fnExactRangeOfRow : OpenClaim := { program := "ytlalbcdbcalaiac", sum := "64da4533671b1b64b9706a00b41dc6744bcde56c152d338cf356759cbd919779", func := "loop.example/g00630/laws.FnExactRangeOf", spec := "fnExactRangeOf", apart := false }
def FnExactRangeOfSaid : Prop := fnExactRangeOfRow.holds Try.pinned (OpenSpec.ofChange fnExactRangeOfSpec)

/-- ITS FALSE NEIGHBOUR: 'it returns false'. Refute it at one input. -/
def fnExactRangeOfWrong : ChangeSpec := { name := "fnExactRangeOf", fn := fun _ => fun
  | [d1, d2] => { results := [.lit (.bool false)], args := [d1, d2] }
  | _ => none }
def FnExactRangeOfWrongFalsely : Prop := fnExactRangeOfRow.holds Try.pinned (OpenSpec.ofChange fnExactRangeOfWrong)

/-- 'laws.FnExactRangeParted': WHATEVER THE INPUT: true; the input reads as it did. -/
def fnExactRangePartedSpec : ChangeSpec := { name := "fnExactRangeParted", fn := fun _ => fun
  | [d1, d2] => { results := [.lit (.bool true)], args := [d1, d2] }
  | _ => none }
def fnExactRangePartedRow : OpenClaim := { program := "ytlalbcdbcalaiac", sum := "64da4533671b1b64b9706a00b41dc6744bcde56c152d338cf356759cbd919779", func := "loop.example/g00630/laws.FnExactRangeParted", spec := "fnExactRangeParted", unfollowed := true, recurses := true, apart := false }
def FnExactRangePartedSaid : Prop := fnExactRangePartedRow.holds Try.pinned (OpenSpec.ofChange fnExactRangePartedSpec)

/-- ITS FALSE NEIGHBOUR: 'it returns false'. Refute it at one input. -/
def fnExactRangePartedWrong : ChangeSpec := { name := "fnExactRangeParted", fn := fun _ => fun
  | [d1, d2] => { results := [.lit (.bool false)], args := [d1, d2] }
  | _ => none }
def FnExactRangePartedWrongFalsely : Prop := fnExactRangePartedRow.holds Try.pinned (OpenSpec.ofChange fnExactRangePartedWrong)

/-- 'laws.FnExactCutsOf': WHATEVER THE INPUT: true; the input reads as it did. -/
def fnExactCutsOfSpec : ChangeSpec := { name := "fnExactCutsOf", fn := fun _ => fun
  | [d1, d2] => { results := [.lit (.bool true)], args := [d1, d2] }
  | _ => none }
def fnExactCutsOfRow : OpenClaim := { program := "ytlalbcdbcalaiac", sum := "64da4533671b1b64b9706a00b41dc6744bcde56c152d338cf356759cbd919779", func := "loop.example/g00630/laws.FnExactCutsOf", spec := "fnExactCutsOf", recurses := true, apart := false }
def FnExactCutsOfSaid : Prop := fnExactCutsOfRow.holds Try.pinned (OpenSpec.ofChange fnExactCutsOfSpec)

/-- ITS FALSE NEIGHBOUR: 'it returns false'. Refute it at one input. -/
def fnExactCutsOfWrong : ChangeSpec := { name := "fnExactCutsOf", fn := fun _ => fun
  | [d1, d2] => { results := [.lit (.bool false)], args := [d1, d2] }
  | _ => none }
def FnExactCutsOfWrongFalsely : Prop := fnExactCutsOfRow.holds Try.pinned (OpenSpec.ofChange fnExactCutsOfWrong)

/- THE SECOND FORM. 'bulk': how many values and letters a reading holds, each counted each time it is reached (what is shared counts as often as it is met; a slice's spare places count too). A statement '..UptoSaid' is the law's where the arguments, and the package variables that the reading takes, are together of bulk at most 1048576: NARROWER than '..Said'. Prove '..Said' where nothing that the law and all that it calls make is longer than what came in: it says more and counts as full. Else prove '..UptoSaid'. A law counts once. -/
mutual
def uptoBulk {H : Type} : DataW H → Nat
  | .lit (.string bytes) => bytes.length + 1
  | .lit _ => 1
  | .nil => 1
  | .ptr d => uptoBulk d + 1
  | .slice elems spare => uptoBulkAll elems + uptoBulkAll spare + 1
  | .agg parts => uptoBulkAll parts + 1
  | .iface _ d => uptoBulk d + 1
  | .map entries => uptoBulkEntries entries + 1
  | .held _ => 1
def uptoBulkAll {H : Type} : List (DataW H) → Nat
  | [] => 0
  | d :: r => uptoBulk d + uptoBulkAll r
def uptoBulkEntries {H : Type} : List (Lit × DataW H) → Nat
  | [] => 0
  | x :: r => uptoBulkEntry x + uptoBulkEntries r
def uptoBulkEntry {H : Type} : Lit × DataW H → Nat
  | (.string bytes, d) => bytes.length + uptoBulk d + 1
  | (_, d) => uptoBulk d + 1
 end
def uptoSmall : (H : Type) → List (DataW H) → Bool := fun _ ds => decide (uptoBulkAll ds ≤ 1048576)
def OpenSpec.upto (s : _root_.Go.ChangeSpec) : _root_.Go.OpenSpec := { _root_.Go.OpenSpec.ofChange s with cond := some uptoSmall }

/-- 'laws.FnExactParted', WHERE WHAT IT READS IS OF BULK AT MOST 1048576: true; the input reads as it did. -/
def fnExactPartedUptoRow : OpenClaim := { program := "ytlalbcdbcalaiac", sum := "64da4533671b1b64b9706a00b41dc6744bcde56c152d338cf356759cbd919779", func := "loop.example/g00630/laws.FnExactParted", spec := "fnExactParted", unfollowed := true, recurses := true, apart := false, narrowed := true }
def FnExactPartedUptoSaid : Prop := fnExactPartedUptoRow.holds Try.pinned (OpenSpec.upto fnExactPartedSpec)

/-- 'laws.FnExactRangeOf', WHERE WHAT IT READS IS OF BULK AT MOST 1048576: true; the input reads as it did. -/
def fnExactRangeOfUptoRow : OpenClaim := { program := "ytlalbcdbcalaiac", sum := "64da4533671b1b64b9706a00b41dc6744bcde56c152d338cf356759cbd919779", func := "loop.example/g00630/laws.FnExactRangeOf", spec := "fnExactRangeOf", apart := false, narrowed := true }
def FnExactRangeOfUptoSaid : Prop := fnExactRangeOfUptoRow.holds Try.pinned (OpenSpec.upto fnExactRangeOfSpec)

/-- 'laws.FnExactRangeParted', WHERE WHAT IT READS IS OF BULK AT MOST 1048576: true; the input reads as it did. -/
def fnExactRangePartedUptoRow : OpenClaim := { program := "ytlalbcdbcalaiac", sum := "64da4533671b1b64b9706a00b41dc6744bcde56c152d338cf356759cbd919779", func := "loop.example/g00630/laws.FnExactRangeParted", spec := "fnExactRangeParted", unfollowed := true, recurses := true, apart := false, narrowed := true }
def FnExactRangePartedUptoSaid : Prop := fnExactRangePartedUptoRow.holds Try.pinned (OpenSpec.upto fnExactRangePartedSpec)

/-- 'laws.FnExactCutsOf', WHERE WHAT IT READS IS OF BULK AT MOST 1048576: true; the input reads as it did. -/
def fnExactCutsOfUptoRow : OpenClaim := { program := "ytlalbcdbcalaiac", sum := "64da4533671b1b64b9706a00b41dc6744bcde56c152d338cf356759cbd919779", func := "loop.example/g00630/laws.FnExactCutsOf", spec := "fnExactCutsOf", recurses := true, apart := false, narrowed := true }
def FnExactCutsOfUptoSaid : Prop := fnExactCutsOfUptoRow.holds Try.pinned (OpenSpec.upto fnExactCutsOfSpec)

end Rows
end Go.Proofs.Ytlalbcdbcalaiac
