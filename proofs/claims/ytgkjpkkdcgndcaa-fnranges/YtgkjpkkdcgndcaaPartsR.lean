/-
  The parts by ranges, and their numbers. No conditions.
-/
import Derived.Test.YtgkjpkkdcgndcaaRangePartedFns
namespace Go.Proofs.Ytgkjpkkdcgndcaa
open Go.RowKit
theorem partsR_yes {l : List RowV} {ss : List ByteArray} (h : rangePartedB l ss = true) : rangePartedS l ss = partsL (rangeF ss) (ss.length + 1) l := if_pos h
theorem partsR_no {l : List RowV} {ss : List ByteArray} (h : rangePartedB l ss = false) : rangePartedS l ss = [] := if_neg (by rw [h]; simp)
theorem partsR_rows (l : List RowV) (ss : List ByteArray) : rowsIn (rangePartedS l ss) ≤ l.length := by
  cases h : rangePartedB l ss
  · rw [partsR_no h]; exact Nat.zero_le _
  · rw [partsR_yes h, rowsIn_partsL _ _ _ (fun r _ => rangeF_lt ss r)]; exact Nat.le_refl _
theorem partsR_len (l : List RowV) (ss : List ByteArray) : (rangePartedS l ss).length ≤ ss.length + 1 := by
  cases h : rangePartedB l ss
  · rw [partsR_no h]; exact Nat.zero_le _
  · rw [partsR_yes h, partsL_length]; exact Nat.le_refl _
end Go.Proofs.Ytgkjpkkdcgndcaa
