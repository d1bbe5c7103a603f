/-
  laws.FnExactPartOf returns true for every string and every number: impl.PartOf and spec.PartOf return the same number. No conditions.
-/
import Derived.Test.YtlalbcdbcalaiabExactHashOf
namespace Go.Proofs.Ytlalbcdbcalaiab
open Go.RowKit

/-- What PartOf returns. -/
def partOf (s : ByteArray) (n : Int) : Int := if s.size ≤ 12 ∧ 1 ≤ n ∧ n ≤ 8 then fnv s.data.toList % n else -1
theorem specPartOf_any (s : ByteArray) (n : Int) (w : World) (hs : s.size ≤ maxLen) :
    Calls Try.prog 38 #[.string s, .int .i64 n] w fun e w' => e = .returned (.int .i64 (partOf s n)) ∧ w = w' := by
  have hz := fnv_bd s.data.toList
  obtain ⟨hz0, hz1⟩ := hz
  by_cases h : s.size ≤ 12
  · by_cases h1 : 1 ≤ n
    · by_cases h2 : n ≤ 8
      · have E := Lib.hid (show partOf s n = fnv s.data.toList % n from if_pos ⟨h, h1, h2⟩)
        have hd : decide (n ≤ 8) = true := by simpa using h2
        have hd1 : decide (1 ≤ n) = true := by simpa using h1
        go_enter Try.func38, Try.ntmps38
        go_wp2_with (first | (go_at_call 58; refine (l2Hash_any s _ hs).mono ?_; rintro e w' ⟨rfl, rfl⟩) | go_in)
        go_ret
        exact ⟨ret_int E.out.symm, rfl⟩
      · have E := Lib.hid (show partOf s n = -1 from if_neg (by omega))
        have hd : decide (n ≤ 8) = false := by simpa using h2
        have hd1 : decide (1 ≤ n) = true := by simpa using h1
        go_enter Try.func38, Try.ntmps38
        go_wp2
        go_ret
        exact ⟨ret_int E.out.symm, rfl⟩
    · have E := Lib.hid (show partOf s n = -1 from if_neg (by omega))
      have hd1 : decide (1 ≤ n) = false := by simpa using h1
      go_enter Try.func38, Try.ntmps38
      go_wp2
      go_ret
      exact ⟨ret_int E.out.symm, rfl⟩
  · have E := Lib.hid (show partOf s n = -1 from if_neg (by omega))
    unfold maxLen at hs
    go_enter Try.func38, Try.ntmps38
    go_wp2
    go_ret
    exact ⟨ret_int E.out.symm, rfl⟩
theorem implPartOf_any (s : ByteArray) (n : Int) (w : World) (hs : s.size ≤ maxLen) :
    Calls Try.prog 39 #[.string s, .int .i64 n] w fun e w' => e = .returned (.int .i64 (partOf s n)) ∧ w = w' := by
  have hz := fnv_bd s.data.toList
  obtain ⟨hz0, hz1⟩ := hz
  by_cases h : s.size ≤ 12
  · have ht : decide ((s.size : Int) ≤ 12) = true := by simp; omega
    by_cases h1 : 1 ≤ n
    · by_cases h2 : n ≤ 8
      · have E := Lib.hid (show partOf s n = fnv s.data.toList % n from if_pos ⟨h, h1, h2⟩)
        have hd : decide (n ≤ 8) = true := by simpa using h2
        have hd1 : decide (1 ≤ n) = true := by simpa using h1
        go_enter Try.func39, Try.ntmps39
        go_wp2_with (first | (go_at_call 37; refine (implHashOf_yes s _ h).mono ?_; rintro e w' ⟨rfl, rfl⟩) | go_in)
        go_ret
        exact ⟨ret_int E.out.symm, rfl⟩
      · have E := Lib.hid (show partOf s n = -1 from if_neg (by omega))
        have hd : decide (n ≤ 8) = false := by simpa using h2
        have hd1 : decide (1 ≤ n) = true := by simpa using h1
        go_enter Try.func39, Try.ntmps39
        go_wp2
        go_ret
        exact ⟨ret_int E.out.symm, rfl⟩
    · have E := Lib.hid (show partOf s n = -1 from if_neg (by omega))
      have hd1 : decide (1 ≤ n) = false := by simpa using h1
      go_enter Try.func39, Try.ntmps39
      go_wp2
      go_ret
      exact ⟨ret_int E.out.symm, rfl⟩
  · have E := Lib.hid (show partOf s n = -1 from if_neg (by omega))
    unfold maxLen at hs
    have ht : decide ((s.size : Int) ≤ 12) = false := by simp; omega
    go_enter Try.func39, Try.ntmps39
    go_wp2
    go_ret
    exact ⟨ret_int E.out.symm, rfl⟩
theorem walk_ExactPartOf (s : ByteArray) (n : Int) (w : World) (hs : s.size ≤ maxLen) (_hn : (Lit.int .i64 n).wf = true) :
    Calls Try.prog 11 #[.string s, .int .i64 n] w fun e w' => e = .returned (.bool true) ∧ Below w.heap.size w w' := by
  have hs' := hs
  unfold maxLen at hs'
  go_enter Try.func11, Try.ntmps11
  go_wp2_with (first | (go_at_call 38; refine (specPartOf_any s n _ hs).mono ?_; rintro e w' ⟨rfl, rfl⟩) | (go_at_call 39; refine (implPartOf_any s n _ hs).mono ?_; rintro e w' ⟨rfl, rfl⟩))
  all_goals
    go_ret
    exact ⟨rfl, Below.refl _ _⟩
end Go.Proofs.Ytlalbcdbcalaiab
