/-
  laws.szStringS, laws.toStringS and laws.eqStringS by their contracts. Conditions: at most 1048576 strings.
-/
import Derived.Test.YtallcholbbfkdaaDoorCutsFns
namespace Go.Proofs.YtallcholbbfkdaaDoor
open Go.RowKit

theorem infoStr : (Tryd.prog.info? 9).map (fun i => (i.zero, i.size, i.bytes)) = some (some (.string ⟨#[]⟩), 1, 16) := by kernel_rfl
theorem strC_take_succ {ss : List ByteArray} {k : Nat} {s : ByteArray} (h : ss[k]? = some s) : strC (ss.take (k + 1)) = strC (ss.take k) ++ [.string s] := by
  have hk := (List.getElem?_eq_some_iff.1 h).1
  have e : ss[k] = s := by rw [List.getElem?_eq_getElem hk] at h; injection h
  unfold strC
  rw [List.take_succ_eq_append_getElem hk, List.map_append, e]; rfl
theorem take_set1 {xs A : List Value} {k : Nat} (a : Value) (h : xs.take k = A) (hl : k < xs.length) : (xs.set k a).take (k + 1) = A ++ [a] := by
  subst h
  rw [List.take_succ_eq_append_getElem (by simpa using hl), List.take_set_of_le (Nat.le_refl _)]
  simp
end Go.Proofs.YtallcholbbfkdaaDoor
