/-
  impl.HashOf and impl.PartOf by their contracts. Conditions: texts have at most maxLen bytes.
-/
import Derived.Test.YtpnbbedfbglekaaHash
namespace Go.Proofs.Ytpnbbedfbglekaa
open Go.RowKit

theorem implHashOf_no (s : ByteArray) (w : World) (hs : s.size ≤ maxLen) (h : ¬ s.size ≤ 12) :
    Calls Try.prog 90 #[.string s] w fun e w' => e = .returned (.int .i64 (-1)) ∧ w = w' := by
  unfold maxLen at hs
  have hd : decide ((s.size : Int) ≤ 12) = false := by simp; omega
  go_enter Try.func90, Try.ntmps90
  go_wp2
  go_ret
  exact ⟨rfl, rfl⟩
theorem implHashOf_yes (s : ByteArray) (w : World) (h : s.size ≤ 12) :
    Calls Try.prog 90 #[.string s] w fun e w' => e = .returned (.int .i64 (fnv s.data.toList)) ∧ w = w' := by
  have hz := fnv_bd s.data.toList
  obtain ⟨hz0, hz1⟩ := hz
  have hd : decide ((s.size : Int) ≤ 12) = true := by simp; omega
  go_enter Try.func90, Try.ntmps90
  go_wp2_with (first | (go_at_call 133; refine (fnvOf_any s _ (by unfold maxLen; omega)).mono ?_; rintro e w' ⟨rfl, rfl⟩) | go_in)
  go_ret
  exact ⟨rfl, rfl⟩
/-- What PartOf returns. -/
def partOf (s : ByteArray) (n : Int) : Int := if s.size ≤ 12 ∧ 1 ≤ n ∧ n ≤ 8 then fnv s.data.toList % n else -1
theorem implPartOf_any (s : ByteArray) (n : Int) (w : World) (hs : s.size ≤ maxLen) :
    Calls Try.prog 38 #[.string s, .int .i64 n] w fun e w' => e = .returned (.int .i64 (partOf s n)) ∧ w = w' := by
  have hz := fnv_bd s.data.toList
  obtain ⟨hz0, hz1⟩ := hz
  by_cases h : s.size ≤ 12
  · have ht : decide ((s.size : Int) ≤ 12) = true := by simp; omega
    by_cases h1 : 1 ≤ n
    · by_cases h2 : n ≤ 8
      · have E := Lib.hid (show partOf s n = fnv s.data.toList % n from if_pos ⟨h, h1, h2⟩)
        have hd : decide (n ≤ 8) = true := by simpa using h2
        have hd1 : decide (1 ≤ n) = true := by simpa using h1
        go_enter Try.func38, Try.ntmps38
        go_wp2_with (first | (go_at_call 90; refine (implHashOf_yes s _ h).mono ?_; rintro e w' ⟨rfl, rfl⟩) | go_in)
        go_ret
        exact ⟨ret_int E.out.symm, rfl⟩
      · have E := Lib.hid (show partOf s n = -1 from if_neg (by omega))
        have hd : decide (n ≤ 8) = false := by simpa using h2
        have hd1 : decide (1 ≤ n) = true := by simpa using h1
        go_enter Try.func38, Try.ntmps38
        go_wp2
        go_ret
        exact ⟨ret_int E.out.symm, rfl⟩
    · have E := Lib.hid (show partOf s n = -1 from if_neg (by omega))
      have hd1 : decide (1 ≤ n) = false := by simpa using h1
      go_enter Try.func38, Try.ntmps38
      go_wp2
      go_ret
      exact ⟨ret_int E.out.symm, rfl⟩
  · have E := Lib.hid (show partOf s n = -1 from if_neg (by omega))
    unfold maxLen at hs
    have ht : decide ((s.size : Int) ≤ 12) = false := by simp; omega
    go_enter Try.func38, Try.ntmps38
    go_wp2
    go_ret
    exact ⟨ret_int E.out.symm, rfl⟩
end Go.Proofs.Ytpnbbedfbglekaa
