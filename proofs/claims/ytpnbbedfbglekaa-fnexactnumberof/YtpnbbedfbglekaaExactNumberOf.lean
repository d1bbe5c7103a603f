/-
  laws.FnExactNumberOf returns true for every string: impl.NumberOf and spec.NumberOf return the same number. No conditions.
-/
import Derived.Test.YtpnbbedfbglekaaDecimal
namespace Go.Proofs.Ytpnbbedfbglekaa
open Go.RowKit

set_option maxRecDepth 100000 in
theorem walk_ExactNumberOf (s : ByteArray) (w : World) (hs : s.size ≤ maxLen) :
    Calls Try.prog 6 #[.string s] w fun e w' => e = .returned (.bool true) ∧ Below w.heap.size w w' := by
  by_cases hb : 1048576 < s.size
  · unfold maxLen at hs
    go_enter Try.func6, Try.ntmps6
    go_wp2
    go_ret
    exact ⟨rfl, Below.refl _ _⟩
  go_enter Try.func6, Try.ntmps6
  go_wp2_with (first | (go_at_call 27; refine (specNumberOf_any s _ hs).mono ?_; rintro e w' ⟨rfl, rfl⟩) | (go_at_call 28; refine (implNumberOf_any s _ hs).mono ?_; rintro e w' ⟨rfl, rfl⟩))
  go_ret
  exact ⟨rfl, Below.refl _ _⟩
end Go.Proofs.Ytpnbbedfbglekaa
