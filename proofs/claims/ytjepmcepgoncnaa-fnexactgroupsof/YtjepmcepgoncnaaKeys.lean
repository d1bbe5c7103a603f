/-
  The keys of sorted rows as lists of bytes, in order. No conditions.
-/
import Derived.Test.YtjepmcepgoncnaaRowOrd
import Derived.Test.YtjepmcepgoncnaaStrMem
import Derived.Sort.OwnSorted
namespace Go.Proofs.Ytjepmcepgoncnaa
open Go.RowKit

/-- The bytes of strings. -/
def bytesL (ss : List ByteArray) : List (List UInt8) := ss.map fun s => s.data.toList
def keysB (rs : List RowV) : List ByteArray := rs.map RowV.key
theorem bytesL_enc (ss : List ByteArray) : (bytesL ss).map Go.Proofs.encStr = strC ss := by simp [bytesL, strC, Go.Proofs.encStr]
/-- The keys of the sorted rows. -/
def sortedK (rs : List RowV) : List (List UInt8) := bytesL (keysB (sortL rs))
theorem sortedK_length (rs : List RowV) : (sortedK rs).length = rs.length := by simp [sortedK, bytesL, keysB, sortL_length]
theorem notLess_key {r x : RowV} (h : r.less x = false) : x.key.data.toList ≤ r.key.data.toList := by
  rcases (notLess_iff r x).1 h with h | ⟨h, _⟩
  · exact List.le_of_lt h
  · rw [h]; exact List.le_refl _
theorem sortedK_sorted (rs : List RowV) : (sortedK rs).Pairwise (· ≤ ·) := by
  rw [sortedK, bytesL, keysB, List.map_map, List.pairwise_map]
  exact (sortL_asc rs).imp fun h => notLess_key h
theorem sortedK_get {rs : List RowV} {k : Nat} {r : RowV} (h : (sortL rs)[k]? = some r) : (sortedK rs)[k]? = some r.key.data.toList := by simp [sortedK, bytesL, keysB, h]
end Go.Proofs.Ytjepmcepgoncnaa
