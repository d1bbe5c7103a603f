/-
  The texts on marks and on owned slices together. No conditions.
-/
import Derived.Test.YtbpimgfaceanmaaMark
import Derived.Test.YtbpimgfaceanmaaGrow
