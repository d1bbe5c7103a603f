/-
  laws.FnExactReadRow returns true for every string: impl.ReadRow and spec.ReadRow return the same. No conditions.
-/
import Derived.Test.YtlalbcdbcalaiabReadRow
import Derived.Test.YtlalbcdbcalaiabEqRow
namespace Go.Proofs.Ytlalbcdbcalaiab
open Go.RowKit

theorem walk_ExactReadRow (s : ByteArray) (w : World) (hs : s.size ≤ maxLen) :
    Calls Try.prog 7 #[.string s] w fun e w' => e = .returned (.bool true) ∧ Below w.heap.size w w' := by
  unfold maxLen at hs
  by_cases hb : 1048576 < s.size
  · go_enter Try.func7, Try.ntmps7
    go_wp2_with fail
    go_ret
    exact ⟨rfl, Below.refl _ _⟩
  obtain ⟨a, t, v, b, c, hx⟩ := rowRes_form s
  have E := Lib.hid hx
  clear hx
  go_enter Try.func7, Try.ntmps7
  go_wp2_with fail
  refine (specReadRow_any s _ (by omega)).mono ?_
  rintro e w1 ⟨rfl, hb1⟩
  rw [E.out]
  go_wp2_with fail
  refine (implReadRow_any s _ (by omega)).mono ?_
  rintro e w2 ⟨rfl, hb2⟩
  rw [E.out]
  have bA := (Bk.new w1 #[.string a, .int .i64 t, .string v] 32).below hb2
  have B2 := (hb1.alloc hb1.size (.cells #[.string a, .int .i64 t, .string v] 32)).trans (hb2.mono (by have := hb1.size; simp; omega))
  have e0 := bA.cell 0
  have e1 := bA.cell 1
  have e2 := bA.cell 2
  have hlt := bA.lt
  simp at e0 e1 e2
  clear hb1 hb2
  go_wp2_with fail
  refine (eqRow_same ⟨a, t, v⟩ _).mono ?_
  rintro e w3 ⟨rfl, hb3⟩
  clear e0 e1 e2
  go_wp2_with fail
  go_ret
  exact ⟨rfl, (B2.alloc B2.size _).trans (hb3.mono (by have := B2.size; simp; omega))⟩
end Go.Proofs.Ytlalbcdbcalaiab
