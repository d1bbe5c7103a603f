/-
  The texts on marks and on owned slices together. No conditions.
-/
import Derived.Test.YtjnljobncdpkkaaMark
import Derived.Test.YtjnljobncdpkkaaGrow
