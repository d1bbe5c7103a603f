/-
  The texts on marks and on owned slices together. No conditions.
-/
import Derived.Test.YtlalbcdbcalaiabMark
import Derived.Test.YtlalbcdbcalaiabGrow
