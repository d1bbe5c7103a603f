/-
  The texts on marks and on owned slices together. No conditions.
-/
import Derived.Test.YtlalbcdbcalaiacMark
import Derived.Test.YtlalbcdbcalaiacGrow
