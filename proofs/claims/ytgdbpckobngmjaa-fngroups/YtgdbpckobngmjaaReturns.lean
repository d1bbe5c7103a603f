/-
  The methods returns of both kinds of a join by their contracts.
-/
import Derived.Test.YtgdbpckobngmjaaKinds
namespace Go.Proofs.Ytgdbpckobngmjaa
open Go.RowKit
def JK.ret (k : JK) (x y : Bool) : Bool :=
  match k with
  | .both a b => x && y || x && a || y && b
  | .keep b => x && (y == b)
set_option maxRecDepth 100000 in
set_option maxHeartbeats 1000000 in
theorem bothReturns_any (a b x y : Bool) (w : World) :
    Calls Try.prog 169 #[.agg #[.bool a, .bool b], .bool x, .bool y] w fun e w' => e = .returned (.bool ((JK.both a b).ret x y)) ∧ Below w.heap.size w w' := by
  have hb := bl1 w (.cells #[.bool a, .bool b] 168)
  go_enter Try.func169, Try.ntmps169
  cases x <;> cases y <;> cases a <;> cases b <;> (go_wp2_with fail; go_ret; exact ⟨rfl, hb⟩)
set_option maxRecDepth 100000 in
set_option maxHeartbeats 1000000 in
theorem keepReturns_any (b x y : Bool) (w : World) :
    Calls Try.prog 170 #[.agg #[.bool b], .bool x, .bool y] w fun e w' => e = .returned (.bool ((JK.keep b).ret x y)) ∧ Below w.heap.size w w' := by
  have hb := bl1 w (.cells #[.bool b] 170)
  go_enter Try.func170, Try.ntmps170
  cases x <;> cases y <;> cases b <;> (go_wp2_with fail; go_ret; exact ⟨rfl, hb⟩)
end Go.Proofs.Ytgdbpckobngmjaa
