/-
  laws.eqRow at two equal rows. No conditions.
-/
import Derived.Test.YtjnljobncdpkkabRowOk
namespace Go.Proofs.Ytjnljobncdpkkab
open Go.RowKit

end Go.Proofs.Ytjnljobncdpkkab
