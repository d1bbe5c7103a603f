/-
  laws.FnExactFrameOf returns true for every string: impl.FrameOf and spec.FrameOf return the same. No conditions.
-/
import Derived.Test.YtpnbbedfbglekaaFrame
namespace Go.Proofs.Ytpnbbedfbglekaa
open Go.RowKit

set_option maxRecDepth 100000 in
theorem walk_ExactFrameOf (s : ByteArray) (w : World) (hs : s.size ≤ maxLen) :
    Calls Try.prog 4 #[.string s] w fun e w' => e = .returned (.bool true) ∧ Below w.heap.size w w' := by
  by_cases hb : 1048576 < s.size
  · unfold maxLen at hs
    go_enter Try.func4, Try.ntmps4
    go_wp2
    go_ret
    exact ⟨rfl, Below.refl _ _⟩
  have CS := fun w => specFrameOf_any s w hs
  have CI := fun w => implFrameOf_any s w hs
  generalize frameS s = t at *
  go_enter Try.func4, Try.ntmps4
  go_wp2_with fail
  refine (CS _).mono ?_
  rintro e w1 ⟨rfl, hb1⟩
  go_wp2_with fail
  refine (CI _).mono ?_
  rintro e w2 ⟨rfl, hb2⟩
  have B := hb1.trans (hb2.mono hb1.size)
  clear hb1 hb2
  go_wp2_with fail
  go_ret
  exact ⟨rfl, B⟩
end Go.Proofs.Ytpnbbedfbglekaa
