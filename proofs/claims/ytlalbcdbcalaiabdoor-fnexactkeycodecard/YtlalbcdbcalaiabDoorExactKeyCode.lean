/-
  laws.FnExactKeyCode returns true for every string: impl.KeyCode and spec.KeyCode return the same string. Condition: the variable internal/bytealg.MaxLen holds some int.
-/
import Derived.Test.YtlalbcdbcalaiabDoorCode
namespace Go.Proofs.YtlalbcdbcalaiabDoor
open Go.RowKit

theorem walk_ExactKeyCode (s : ByteArray) (w : World) (hs : s.size ≤ maxLen) (m : Int) (hm : w.cell? ⟨0, 0, none⟩ = some (.int .i64 m)) :
    Calls Tryd.prog 3 #[.string s] w fun e w' => e = .returned (.bool true) ∧ Below w.heap.size w w' := by
  have hs' := hs
  unfold maxLen at hs'
  by_cases hb : 1048576 < s.size
  · go_enter Tryd.func3, Tryd.ntmps3
    go_wp2_with fail
    go_ret
    exact ⟨rfl, Below.refl _ _⟩
  go_enter Tryd.func3, Tryd.ntmps3
  go_wp2_with fail
  refine (specKeyCode_any s _ hs).mono ?_
  rintro e w' ⟨rfl, rfl⟩
  go_wp2_with fail
  refine (implKeyCode_any s m _ hs hm).mono ?_
  rintro e w1 ⟨rfl, hb1⟩
  go_wp2_with fail
  go_ret
  exact ⟨rfl, hb1⟩
end Go.Proofs.YtlalbcdbcalaiabDoor
