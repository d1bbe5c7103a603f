/-
  How the arguments of the laws are opened: a laws.Row by value, a slice of them, a slice of strings, a slice of bytes, each as a list of plain values with the cells that hold it. Conditions: those of each statement.
-/
import Derived.Test.YtlalbcdbcalaiabRows
import Derived.WalkKit
import Derived.ProofKit
import Derived.OpenShut
import Derived.ShutString
import Derived.ChangeOld
import Derived.Below
import Derived.Lib.SmallJoins
import Derived.SliceStrings
namespace Go.Proofs.Ytlalbcdbcalaiab
open Go.ChangeShapes Go.WideShapes Go.ChangeAt Go.RowKit Go.Joins

theorem own : ownKnob Try.prog.godebug = none := by kernel_rfl
theorem laidOut : laidOutB Try.prog = true := by kernel_rfl
end Go.Proofs.Ytlalbcdbcalaiab
