
/-
  impl.rowsWhere: the rows that a function wants come in their order; slices.Collect: they are collected into a new slice. Conditions: at most 1048576 rows; the wanted function returns a bool and makes new memory only.
-/
import Derived.Test.YtallcholbbfkdaaDoorRowsMem
import Derived.RangeFuncNested
import Derived.RangeFuncBound
import Derived.RangeFuncCalls
import Derived.RangeFuncLeaves
import Derived.RangeFuncBox
import Derived.Shelf.Abstract
import Derived.Shelf.RegionOpen
import Derived.WalkKit
import Derived.OwnWalkIn
import Derived.TacticsInMore
import Derived.LoopNIn
import Derived.LoopIn
import Derived.Maps.AppendAt
namespace Go.Proofs.YtallcholbbfkdaaDoor
open Go.RowKit Go.Shelf
attribute [local go_sem] Oper.semAt_some
def rowV (r : RowV) : Value := .agg #[.string r.key, .int .i64 r.tag, .string r.val]
theorem abide_below {β : Type} {B : Nat} {J : β → World → Prop} (hJ : AbidesFrom B J) {s : β} {W W' : World} (h : J s W) (hb : Below W.heap.size W W') : J s W' :=
  hJ s W W' none h (gb_of_below hb none) (fun _ e => by cases e)
theorem filter_take_succ {rs : List RowV} {p : RowV → Bool} {k : Nat} {r : RowV} (h : rs[k]? = some r) (hp : p r = true) : (rs.take (k + 1)).filter p = (rs.take k).filter p ++ [r] := by
  obtain ⟨hk, rfl⟩ := List.getElem?_eq_some_iff.1 h
  rw [List.take_succ_eq_append_getElem hk, List.filter_append]; simp [hp]
theorem filter_take_skip {rs : List RowV} {p : RowV → Bool} {k : Nat} {r : RowV} (h : rs[k]? = some r) (hp : p r = false) : (rs.take (k + 1)).filter p = (rs.take k).filter p := by
  obtain ⟨hk, rfl⟩ := List.getElem?_eq_some_iff.1 h
  rw [List.take_succ_eq_append_getElem hk, List.filter_append]; simp [hp]
theorem filter_prefix {rs : List RowV} {p : RowV → Bool} (k : Nat) : (rs.take k).filter p <+: rs.filter p := by
  refine ⟨(rs.drop k).filter p, ?_⟩
  rw [← List.filter_append, List.take_append_drop]
end Go.Proofs.YtallcholbbfkdaaDoor
