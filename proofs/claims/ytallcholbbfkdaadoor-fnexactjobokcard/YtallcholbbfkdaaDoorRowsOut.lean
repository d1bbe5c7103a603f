/-
  What a function that returns rows in new memory does. No conditions.
-/
import Derived.Test.YtallcholbbfkdaaDoorSort
namespace Go.Proofs.YtallcholbbfkdaaDoor
open Go.RowKit
def RowsOut (w : World) (ss : List RowV) (e : Ending) (w' : World) : Prop := ∃ a c, e = .returned (.slice a ss.length c) ∧ Below w.heap.size w w' ∧ w'.ownsRow w.heap.size 68 3 (.slice a ss.length c) ss.length (flat ss)
theorem RowsOut.none (w w' : World) (hb : Below w.heap.size w w') : RowsOut w [] (.returned (.slice Option.none 0 0)) w' := ⟨Option.none, 0, rfl, hb, World.ownsRow_nil _ _ _ _⟩
theorem RowsOut.of {w w' : World} {base : Nat} {ss : List RowV} {v : Value} (hb : Below w.heap.size w w') (h : w'.ownsRow base 68 3 v ss.length (flat ss)) (hB : w.heap.size ≤ base) : RowsOut w ss (.returned v) w' := by
  obtain ⟨a, c, rfl⟩ := own_slice' h
  exact ⟨a, c, rfl, hb, own_base' h hB⟩
theorem rowsOk_le {rs : List RowV} (h : rowsOk rs = true) : rs.length ≤ 120 := by
  unfold rowsOk at h
  exact of_decide_eq_true (Bool.and_eq_true _ _ ▸ h).1
end Go.Proofs.YtallcholbbfkdaaDoor
