/-
  The texts on marks and on owned slices together. No conditions.
-/
import Derived.Test.YtbcdpgjjfllgjaaMark
import Derived.Test.YtbcdpgjjfllgjaaGrow
