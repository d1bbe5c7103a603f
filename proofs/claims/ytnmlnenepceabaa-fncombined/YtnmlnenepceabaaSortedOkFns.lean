
/-
  impl.SortedOk and spec.SortedOk by their contracts: the rows are valid and in order. Condition: at most 1048576 rows.
-/
import Derived.Test.YtnmlnenepceabaaSortedFns
namespace Go.Proofs.Ytnmlnenepceabaa
open Go.RowKit

def sortedOk (rs : List RowV) : Bool := rowsOk rs && adjOk rs
set_option maxRecDepth 100000 in
set_option maxHeartbeats 1000000 in
theorem implSortedOk_any (a : Option Addr) (n cap : Nat) (rs : List RowV) (w : World) (hm : n ≤ 1048576) (hok : ∀ r ∈ rs, r.Ok) (hR : Rd w w.heap.size 3 a n (flat rs)) :
    Calls Try.prog 90 #[.slice a n cap] w fun e w' => e = .returned (.bool (sortedOk rs)) ∧ Below w.heap.size w w' := by
  have C1 := implRowsOk_any a n cap rs w hm hok hR
  have E := Lib.hid (show sortedOk rs = (rowsOk rs && adjOk rs) from rfl)
  generalize rowsOk rs = p at *
  go_enter Try.func90, Try.ntmps90
  go_wp2_with fail
  refine C1.mono ?_
  rintro e w1 ⟨rfl, hb1⟩
  cases p
  · go_wp2_with fail
    go_ret
    exact ⟨ret_bool E.out.symm, hb1⟩
  have hR' := (hR.below hb1 (Nat.le_refl _)).more hb1.size
  go_wp2_with fail
  refine (isSorted_any a n cap rs _ hm hR').mono ?_
  rintro e w2 ⟨rfl, hb2⟩
  go_wp2_with fail
  go_ret
  exact ⟨ret_bool E.out.symm, hb1.trans (hb2.mono hb1.size)⟩
end Go.Proofs.Ytnmlnenepceabaa
