/-
  laws.eqRow at two equal rows. No conditions.
-/
import Derived.Test.YtohiecppakiliaaRowOk
namespace Go.Proofs.Ytohiecppakiliaa
open Go.RowKit

end Go.Proofs.Ytohiecppakiliaa
