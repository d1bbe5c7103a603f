/-
  laws.FnSorted returns true for every code. No conditions.
-/
import Derived.Test.YtohiecppakiliaaOpenBytes
import Derived.Test.YtohiecppakiliaaAlike
import Derived.Test.YtohiecppakiliaaSortedList
import Derived.Test.YtohiecppakiliaaSortedOkFns
namespace Go.Proofs.Ytohiecppakiliaa
open Go.RowKit

theorem IsBy.keep' {w w' : World} {a : Option Addr} {n : Nat} (h : IsBy w w.heap.size a n) (hb : Below w.heap.size w w') : IsBy w' w'.heap.size a n := by
  obtain ⟨xs, h1, h2⟩ := h
  exact ⟨xs, (h1.below hb (Nat.le_refl _)).more hb.size, h2⟩
theorem sortL_ok {rs : List RowV} (h : ∀ r ∈ rs, r.Ok) : ∀ r ∈ sortL rs, r.Ok := fun r hr => h r ((sortL_perm' rs).mem_iff.1 hr)
theorem rowsOk_perm {a b : List RowV} (p : a.Perm b) : rowsOk a = rowsOk b := by
  unfold rowsOk
  rw [p.length_eq, p.all_eq]
end Go.Proofs.Ytohiecppakiliaa
