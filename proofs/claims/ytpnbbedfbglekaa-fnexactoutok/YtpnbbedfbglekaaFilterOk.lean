
/-
  Filters as plain values: impl.FilterOk and spec.FilterOk return the same bool; laws.szFilter and laws.toFilter by their contracts. Conditions: texts have at most maxLen bytes, the size is an int64.
-/
import Derived.Test.YtpnbbedfbglekaaRowOk
namespace Go.Proofs.Ytpnbbedfbglekaa
open Go.RowKit

/-- A filter, as plain values. -/
structure FilV where
  n : Int
  bits : ByteArray
def FilV.Ok (f : FilV) : Prop := (Lit.int .i64 f.n).wf = true ∧ f.bits.size ≤ maxLen
def FilV.v (f : FilV) : Value := .agg #[.int .i64 f.n, .string f.bits]
def sizeB (n : Int) : Bool := decide (8 ≤ n ∧ n ≤ 256 ∧ n % 8 = 0)
def filB (n : Int) (b : ByteArray) : Bool := decide (8 ≤ n ∧ n ≤ 256 ∧ n % 8 = 0 ∧ (b.size : Int) = n / 8)
def szF (b : ByteArray) (left : Int) : Int := if left < b.size then -1 else left - b.size
theorem szF_bd (b : ByteArray) (left : Int) (h0 : 0 ≤ left) (h1 : left ≤ 1048576) : szF b left = -1 ∨ (0 ≤ szF b left ∧ szF b left ≤ 1048576) := by
  unfold szF; split <;> omega

set_option maxRecDepth 100000 in
theorem implFilterSize_any (n : Int) (w : World) :
    Calls Try.prog 137 #[.int .i64 n] w fun e w' => e = .returned (.bool (sizeB n)) ∧ w = w' := by
  by_cases h1 : 8 ≤ n
  case neg =>
    have E := Lib.hid (show sizeB n = false from decide_eq_false (by omega))
    have d1 : decide (8 ≤ n) = false := by simpa using h1
    go_enter Try.func137, Try.ntmps137
    go_wp2
    go_ret
    exact ⟨ret_bool E.out.symm, rfl⟩
  by_cases h2 : n ≤ 256
  case neg =>
    have E := Lib.hid (show sizeB n = false from decide_eq_false (by omega))
    have d1 : decide (8 ≤ n) = true := by simpa using h1
    have d2 : decide (n ≤ 256) = false := by simpa using h2
    go_enter Try.func137, Try.ntmps137
    go_wp2
    go_ret
    exact ⟨ret_bool E.out.symm, rfl⟩
  have d1 : decide (8 ≤ n) = true := by simpa using h1
  have d2 : decide (n ≤ 256) = true := by simpa using h2
  have E := Lib.hid (show sizeB n = (n % 8 == 0) by simp [sizeB, h1, h2]; rfl)
  go_enter Try.func137, Try.ntmps137
  go_wp2
  go_ret
  exact ⟨ret_bool E.out.symm, rfl⟩

set_option maxRecDepth 100000 in
theorem specFilterSize_any (n : Int) (w : World) :
    Calls Try.prog 155 #[.int .i64 n] w fun e w' => e = .returned (.bool (sizeB n)) ∧ w = w' := by
  by_cases h1 : 8 ≤ n
  case neg =>
    have E := Lib.hid (show sizeB n = false from decide_eq_false (by omega))
    have d1 : decide (8 ≤ n) = false := by simpa using h1
    go_enter Try.func155, Try.ntmps155
    go_wp2
    go_ret
    exact ⟨ret_bool E.out.symm, rfl⟩
  by_cases h2 : n ≤ 256
  case neg =>
    have E := Lib.hid (show sizeB n = false from decide_eq_false (by omega))
    have d1 : decide (8 ≤ n) = true := by simpa using h1
    have d2 : decide (n ≤ 256) = false := by simpa using h2
    go_enter Try.func155, Try.ntmps155
    go_wp2
    go_ret
    exact ⟨ret_bool E.out.symm, rfl⟩
  have d1 : decide (8 ≤ n) = true := by simpa using h1
  have d2 : decide (n ≤ 256) = true := by simpa using h2
  have E := Lib.hid (show sizeB n = (n % 8 == 0) by simp [sizeB, h1, h2]; rfl)
  go_enter Try.func155, Try.ntmps155
  go_wp2
  go_ret
  exact ⟨ret_bool E.out.symm, rfl⟩

set_option maxRecDepth 100000 in
theorem implFilterOk_any (n : Int) (b : ByteArray) (w : World) (_hb : b.size ≤ maxLen) :
    Calls Try.prog 96 #[.agg #[.int .i64 n, .string b]] w fun e w' => e = .returned (.bool (filB n b)) ∧ Below w.heap.size w w' := by
  unfold maxLen at _hb
  cases hs : sizeB n
  · have E := Lib.hid (show filB n b = false from decide_eq_false (by have := of_decide_eq_false hs; omega))
    go_enter Try.func96, Try.ntmps96
    go_wp2_with (first | (go_at_call 137; refine (implFilterSize_any n _).mono ?_; rintro e w' ⟨rfl, rfl⟩) | go_in)
    go_ret
    exact ⟨ret_bool E.out.symm, bl1 _ _⟩
  · have h := of_decide_eq_true hs
    obtain ⟨h1, h2, h3⟩ := h
    have E := Lib.hid (show filB n b = ((b.size : Int) == n / 8) by simp only [filB, h1, h2, h3, true_and]; rfl)
    go_enter Try.func96, Try.ntmps96
    go_wp2_with (first | (go_at_call 137; refine (implFilterSize_any n _).mono ?_; rintro e w' ⟨rfl, rfl⟩) | go_in)
    go_ret
    exact ⟨ret_bool E.out.symm, bl1 _ _⟩

end Go.Proofs.Ytpnbbedfbglekaa
