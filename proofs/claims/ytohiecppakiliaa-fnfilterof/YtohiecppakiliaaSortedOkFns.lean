
/-
  impl.SortedOk and spec.SortedOk by their contracts: the rows are valid and in order. Condition: at most 1048576 rows.
-/
import Derived.Test.YtohiecppakiliaaSortedFns
namespace Go.Proofs.Ytohiecppakiliaa
open Go.RowKit

def sortedOk (rs : List RowV) : Bool := rowsOk rs && adjOk rs
end Go.Proofs.Ytohiecppakiliaa
