/-
  laws.eqRow at two equal rows. No conditions.
-/
import Derived.Test.YtallcholbbfkdaaDoorRowOk
namespace Go.Proofs.YtallcholbbfkdaaDoor
open Go.RowKit

theorem eqRow_same (r : RowV) (w : World) :
    Calls Tryd.prog 44 #[.agg #[.string r.key, .int .i64 r.tag, .string r.val], .agg #[.string r.key, .int .i64 r.tag, .string r.val]] w fun e w' => e = .returned (.bool true) ∧ Below w.heap.size w w' := by
  obtain ⟨k, t, v⟩ := r
  go_enter Tryd.func44, Tryd.ntmps44
  go_wp2
  go_ret
  exact ⟨rfl, bl2 _ _ _⟩
end Go.Proofs.YtallcholbbfkdaaDoor
