/-
  The texts on marks and on owned slices together. No conditions.
-/
import Derived.Test.YtgdbpckobngmjaaMark
import Derived.Test.YtgdbpckobngmjaaGrow
