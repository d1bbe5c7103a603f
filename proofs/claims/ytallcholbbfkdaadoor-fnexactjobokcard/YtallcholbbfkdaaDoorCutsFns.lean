
/-
  impl.cutsOk, impl.cutsUpTo, impl.RangeOf, spec.l2Cuts, spec.l2Range and spec.RangeOf by their contracts. Conditions: those of each statement.
-/
import Derived.Test.YtallcholbbfkdaaDoorCutsMath
import Derived.Test.YtallcholbbfkdaaDoorRowsMem
import Derived.Deep.QuietTactic
import Derived.BigQuiet
namespace Go.Proofs.YtallcholbbfkdaaDoor
open Go.RowKit

def MaxS (ss : List ByteArray) : Prop := ∀ s ∈ ss, s.size ≤ maxLen
theorem MaxS.at_ {ss : List ByteArray} {k : Nat} {s : ByteArray} (h : MaxS ss) (hs : ss[k]? = some s) : s.size ≤ maxLen := h s (List.mem_of_getElem? hs)

/-- No cut ahead of k is greater than key. -/
def NotTo (ss : List ByteArray) (key : ByteArray) (k : Nat) : Prop := ∀ j x, j < k → ss[j]? = some x → Op.bytesLess key.toList x.toList = false
theorem NotTo.succ {ss : List ByteArray} {key s : ByteArray} {k : Nat} (h : NotTo ss key k) (hs : ss[k]? = some s) (h1 : Op.bytesLess key.toList s.toList = false) : NotTo ss key (k + 1) := fun j x hj hx => by
  rcases Nat.lt_or_ge j k with h2 | h2
  · exact h j x h2 hx
  · obtain rfl : j = k := by omega
    rw [hs] at hx; injection hx with e; rw [← e]; exact h1
end Go.Proofs.YtallcholbbfkdaaDoor
