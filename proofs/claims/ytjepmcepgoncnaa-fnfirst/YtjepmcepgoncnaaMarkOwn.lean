/-
  The texts on marks and on owned slices together. No conditions.
-/
import Derived.Test.YtjepmcepgoncnaaMark
import Derived.Test.YtjepmcepgoncnaaGrow
