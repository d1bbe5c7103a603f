/-
  The texts on marks and on owned slices together. No conditions.
-/
import Derived.Test.YtjceapcfalnmaaaMark
import Derived.Test.YtjceapcfalnmaaaGrow
