/-
  The texts on marks and on owned slices together. No conditions.
-/
import Derived.Test.YtnmlnenepceabaaMark
import Derived.Test.YtnmlnenepceabaaGrow
