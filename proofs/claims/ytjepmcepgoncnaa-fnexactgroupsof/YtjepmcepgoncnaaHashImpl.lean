
/-
  impl.HashOf and impl.PartOf by their contracts. Conditions: texts have at most maxLen bytes.
-/
import Derived.Test.YtjepmcepgoncnaaHash
namespace Go.Proofs.Ytjepmcepgoncnaa
open Go.RowKit

/-- What PartOf returns. -/
def partOf (s : ByteArray) (n : Int) : Int := if s.size ≤ 12 ∧ 1 ≤ n ∧ n ≤ 8 then fnv s.data.toList % n else -1
end Go.Proofs.Ytjepmcepgoncnaa
