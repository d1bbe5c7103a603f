/-
  Parts of a slice that can be read: its head and its rest (for seats without joins). Conditions: those of each statement.
-/
import Derived.Test.YtallcholbbfkdaaDoorRowsMem
import Derived.Deep.MidRow
import Derived.Test.YtallcholbbfkdaaDoorOpen
import Derived.Test.YtallcholbbfkdaaDoorLeading
import Derived.Test.YtallcholbbfkdaaDoorRowOrd
import Derived.Test.YtallcholbbfkdaaDoorSides
import Derived.Test.YtallcholbbfkdaaDoorAppendAny
import Derived.Test.YtallcholbbfkdaaDoorStepG
import Derived.StillTailTactics
import Derived.Deep.RegionHeld3
namespace Go.Proofs.YtallcholbbfkdaaDoor
open Go.RowKit
/-- Where a slice goes on from k. -/
def fromA (a : Option Addr) (cap k : Nat) : Option Addr := if cap = k then a else a.map (·.add (k * 3))
theorem Rd.from_ {w : World} {B n k cap : Nat} {a : Option Addr} {rs : List RowV} (h : Rd w B 3 a n (flat rs)) (hk : k ≤ n) (hn : n ≤ cap) : Rd w B 3 (fromA a cap k) (n - k) (flat (rs.drop k)) := by
  have hl : rs.length = n := h.rows_length
  refine ⟨by rw [flat_length, List.length_drop, hl], fun hp => ?_⟩
  obtain ⟨b, off, rfl, hb, hc⟩ := h.2 (by omega)
  refine ⟨b, off + k * 3, ?_, hb, fun j u hu => ?_⟩
  · unfold fromA
    rw [if_neg (by omega)]
    simp [Addr.add_mid]
  · have e : flat rs = flat (rs.take k) ++ flat (rs.drop k) := by rw [← flat_append, List.take_append_drop]
    have := hc (k * 3 + j) u (by
      rw [e, List.getElem?_append_right (by rw [flat_length, List.length_take]; omega), flat_length, List.length_take, show k * 3 + j - min k rs.length * 3 = j by rw [hl, Nat.min_eq_left hk]; omega]
      exact hu)
    rw [Nat.add_assoc]; exact this
theorem Rd.head {w : World} {B n k : Nat} {a : Option Addr} {rs : List RowV} (h : Rd w B 3 a n (flat rs)) (hk : k ≤ n) : Rd w B 3 a k (flat (rs.take k)) := by
  have hl : rs.length = n := h.rows_length
  refine ⟨by rw [flat_length, List.length_take, hl, Nat.min_eq_left hk], fun hp => ?_⟩
  obtain ⟨b, off, rfl, hb, hc⟩ := h.2 (by omega)
  refine ⟨b, off, rfl, hb, fun j u hu => hc j u ?_⟩
  have e : flat rs = flat (rs.take k) ++ flat (rs.drop k) := by rw [← flat_append, List.take_append_drop]
  rw [e, List.getElem?_append_left (List.getElem?_eq_some_iff.1 hu).1]
  exact hu
end Go.Proofs.YtallcholbbfkdaaDoor
