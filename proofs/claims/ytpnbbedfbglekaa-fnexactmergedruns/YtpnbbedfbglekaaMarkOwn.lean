/-
  The texts on marks and on owned slices together. No conditions.
-/
import Derived.Test.YtpnbbedfbglekaaMark
import Derived.Test.YtpnbbedfbglekaaGrow
