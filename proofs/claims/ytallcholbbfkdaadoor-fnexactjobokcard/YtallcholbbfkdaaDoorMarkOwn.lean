/-
  The texts on marks and on owned slices together. No conditions.
-/
import Derived.Test.YtallcholbbfkdaaDoorMark
import Derived.Test.YtallcholbbfkdaaDoorGrow
