/-
  spec.l1Less by its contract: the order of rows. No conditions.
-/
import Derived.Test.YtallcholbbfkdaaDoorRowOk
namespace Go.Proofs.YtallcholbbfkdaaDoor
open Go.RowKit

def lessB (k : ByteArray) (t : Int) (v : ByteArray) (k2 : ByteArray) (t2 : Int) (v2 : ByteArray) : Bool :=
  if (!k.toList == k2.toList) = true then Op.bytesLess k.toList k2.toList else if (t != t2) = true then decide (t < t2) else Op.bytesLess v.toList v2.toList
theorem l1Less_any (k v : ByteArray) (t : Int) (k2 v2 : ByteArray) (t2 : Int) (w : World) :
    Calls Tryd.prog 109 #[.agg #[.string k, .int .i64 t, .string v], .agg #[.string k2, .int .i64 t2, .string v2]] w fun e w' => e = .returned (.bool (lessB k t v k2 t2 v2)) ∧ Below w.heap.size w w' := by
  by_cases h : (!k.toList == k2.toList) = true
  · have E := Lib.hid (show lessB k t v k2 t2 v2 = _ from if_pos h)
    go_enter Tryd.func109, Tryd.ntmps109
    go_wp2
    go_ret
    exact ⟨ret_bool E.out.symm, bl2 _ _ _⟩
  · replace h : (!k.toList == k2.toList) = false := by simpa using h
    by_cases h2 : (t != t2) = true
    · have E := Lib.hid (show lessB k t v k2 t2 v2 = decide (t < t2) by simp only [lessB, h, h2]; rfl)
      go_enter Tryd.func109, Tryd.ntmps109
      go_wp2
      go_ret
      exact ⟨ret_bool E.out.symm, bl2 _ _ _⟩
    · replace h2 : (t != t2) = false := by simpa using h2
      have E := Lib.hid (show lessB k t v k2 t2 v2 = Op.bytesLess v.toList v2.toList by simp only [lessB, h, h2]; rfl)
      go_enter Tryd.func109, Tryd.ntmps109
      go_wp2
      go_ret
      exact ⟨ret_bool E.out.symm, bl2 _ _ _⟩
end Go.Proofs.YtallcholbbfkdaaDoor
