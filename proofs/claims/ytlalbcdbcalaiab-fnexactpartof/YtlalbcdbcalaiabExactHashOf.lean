/-
  laws.FnExactHashOf returns true for every string: impl.HashOf and spec.HashOf return the same number. No conditions.
-/
import Derived.Test.YtlalbcdbcalaiabHash
namespace Go.Proofs.Ytlalbcdbcalaiab
open Go.RowKit

theorem specHashOf_no (s : ByteArray) (w : World) (hs : s.size ≤ maxLen) (h : ¬ s.size ≤ 12) :
    Calls Try.prog 36 #[.string s] w fun e w' => e = .returned (.int .i64 (-1)) ∧ w = w' := by
  unfold maxLen at hs
  go_enter Try.func36, Try.ntmps36
  go_wp2
  go_ret
  exact ⟨rfl, rfl⟩
theorem specHashOf_yes (s : ByteArray) (w : World) (h : s.size ≤ 12) :
    Calls Try.prog 36 #[.string s] w fun e w' => e = .returned (.int .i64 (fnv s.data.toList)) ∧ w = w' := by
  go_enter Try.func36, Try.ntmps36
  go_wp2_with (go_at_call 58; refine (l2Hash_any s _ (by unfold maxLen; omega)).mono ?_; rintro e w' ⟨rfl, rfl⟩)
  go_ret
  exact ⟨rfl, rfl⟩
theorem implHashOf_no (s : ByteArray) (w : World) (hs : s.size ≤ maxLen) (h : ¬ s.size ≤ 12) :
    Calls Try.prog 37 #[.string s] w fun e w' => e = .returned (.int .i64 (-1)) ∧ w = w' := by
  unfold maxLen at hs
  have hd : decide ((s.size : Int) ≤ 12) = false := by simp; omega
  go_enter Try.func37, Try.ntmps37
  go_wp2
  go_ret
  exact ⟨rfl, rfl⟩
theorem implHashOf_yes (s : ByteArray) (w : World) (h : s.size ≤ 12) :
    Calls Try.prog 37 #[.string s] w fun e w' => e = .returned (.int .i64 (fnv s.data.toList)) ∧ w = w' := by
  have hz := fnv_bd s.data.toList
  obtain ⟨hz0, hz1⟩ := hz
  have hd : decide ((s.size : Int) ≤ 12) = true := by simp; omega
  go_enter Try.func37, Try.ntmps37
  go_wp2_with (first | (go_at_call 59; refine (fnvOf_any s _ (by unfold maxLen; omega)).mono ?_; rintro e w' ⟨rfl, rfl⟩) | go_in)
  go_ret
  exact ⟨rfl, rfl⟩
theorem walk_ExactHashOf (s : ByteArray) (w : World) (hs : s.size ≤ maxLen) :
    Calls Try.prog 10 #[.string s] w fun e w' => e = .returned (.bool true) ∧ Below w.heap.size w w' := by
  by_cases hb : 1048576 < s.size
  · unfold maxLen at hs
    go_enter Try.func10, Try.ntmps10
    go_wp2
    go_ret
    exact ⟨rfl, Below.refl _ _⟩
  by_cases h : s.size ≤ 12
  · go_enter Try.func10, Try.ntmps10
    go_wp2_with (first | (go_at_call 36; refine (specHashOf_yes s _ h).mono ?_; rintro e w' ⟨rfl, rfl⟩) | (go_at_call 37; refine (implHashOf_yes s _ h).mono ?_; rintro e w' ⟨rfl, rfl⟩))
    go_ret
    exact ⟨rfl, Below.refl _ _⟩
  · go_enter Try.func10, Try.ntmps10
    go_wp2_with (first | (go_at_call 36; refine (specHashOf_no s _ hs h).mono ?_; rintro e w' ⟨rfl, rfl⟩) | (go_at_call 37; refine (implHashOf_no s _ hs h).mono ?_; rintro e w' ⟨rfl, rfl⟩))
    go_ret
    exact ⟨rfl, Below.refl _ _⟩
end Go.Proofs.Ytlalbcdbcalaiab
