/-
  The texts on marks and on owned slices together. No conditions.
-/
import Derived.Test.YtjhicjhgpbighaaMark
import Derived.Test.YtjhicjhgpbighaaGrow
