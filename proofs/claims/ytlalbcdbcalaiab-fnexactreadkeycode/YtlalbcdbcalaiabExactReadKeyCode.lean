/-
  laws.FnExactReadKeyCode returns true for every string: impl.ReadKeyCode and spec.ReadKeyCode return the same. No conditions.
-/
import Derived.Test.YtlalbcdbcalaiabReadStr
namespace Go.Proofs.Ytlalbcdbcalaiab
open Go.RowKit

theorem walk_ExactReadKeyCode (s : ByteArray) (w : World) (hs : s.size ≤ maxLen) :
    Calls Try.prog 6 #[.string s] w fun e w' => e = .returned (.bool true) ∧ Below w.heap.size w w' := by
  unfold maxLen at hs
  by_cases hb : 1048576 < s.size
  · go_enter Try.func6, Try.ntmps6
    go_wp2_with fail
    go_ret
    exact ⟨rfl, Below.refl _ _⟩
  have hx : ∃ (a : ByteArray) (b : Int) (c : Bool), keyRes s = .tuple #[.string a, .int .i64 b, .bool c] := by
    unfold keyRes; split <;> exact ⟨_, _, _, rfl⟩
  obtain ⟨a, b, c, hx⟩ := hx
  have E := Lib.hid hx
  clear hx
  go_enter Try.func6, Try.ntmps6
  go_wp2_with fail
  refine (specReadKeyCode_any s _ (by omega)).mono ?_
  rintro e w1 ⟨rfl, rfl⟩
  rw [E.out]
  go_wp2_with fail
  refine (implReadKeyCode_any s _ (by omega)).mono ?_
  rintro e w1 ⟨rfl, hb1⟩
  rw [E.out]
  go_wp2_with fail
  go_ret
  exact ⟨rfl, hb1⟩
end Go.Proofs.Ytlalbcdbcalaiab
