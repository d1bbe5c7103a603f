
/-
  laws.FnExactFilterOk returns true for every filter: impl.FilterOk and spec.FilterOk return the same bool. No conditions.
-/
import Derived.Test.YtpnbbedfbglekaaOpenFilter
namespace Go.Proofs.Ytpnbbedfbglekaa
open Go.RowKit

/-- The two cells of a filter at the head of block B. -/
def At2 (w : World) (B : Nat) (x y : Value) : Prop := w.cell? ⟨B, 0, none⟩ = some x ∧ w.cell? ⟨B, 1, none⟩ = some y
theorem At2.keep {w w' : World} {B : Nat} {x y : Value} (h : At2 w B x y) (hb : Below w.heap.size w w') (hB : B < w.heap.size) : At2 w' B x y :=
  ⟨(hb.cell (p := ⟨B, 0, none⟩) hB).trans h.1, (hb.cell (p := ⟨B, 1, none⟩) hB).trans h.2⟩
theorem At2.new (w : World) (x y : Value) (t : TypeId) : At2 (w.alloc (.cells #[x, y] t)) w.heap.size x y := by
  simp [At2, go_sem]

end Go.Proofs.Ytpnbbedfbglekaa
