
/-
  How a laws.Filter by value is opened, as plain values. No conditions.
-/
import Derived.Test.YtpnbbedfbglekaaFilterOk
import Derived.Test.YtpnbbedfbglekaaOpen
namespace Go.Proofs.Ytpnbbedfbglekaa
open Go.ChangeShapes Go.WideShapes Go.ChangeAt Go.RowKit Go.Joins Go.Deep
section
variable {H : Type} {enc : TypeId × Value → H} {W : World} {base : Nat}
end
end Go.Proofs.Ytpnbbedfbglekaa
