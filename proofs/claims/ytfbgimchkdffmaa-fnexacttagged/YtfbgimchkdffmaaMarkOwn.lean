/-
  The texts on marks and on owned slices together. No conditions.
-/
import Derived.Test.YtfbgimchkdffmaaMark
import Derived.Test.YtfbgimchkdffmaaGrow
