
/-
  impl.sidesOf by its contract. Conditions: at most 1048576 rows.
-/
import Derived.Test.YtallcholbbfkdaaDoorRowsMem
import Derived.Test.YtallcholbbfkdaaDoorSort
import Derived.Deep.MidRow
namespace Go.Proofs.YtallcholbbfkdaaDoor
open Go.RowKit
/-- What a row contributes to a pair, as plain values. -/
structure SideV where
  val : ByteArray
  has : Bool
def SideV.cells (s : SideV) : List Value := [.string s.val, .bool s.has]
def flatD (l : List SideV) : List Value := l.flatMap SideV.cells
theorem flatD_snoc (l : List SideV) (s : SideV) : flatD (l ++ [s]) = flatD l ++ [.string s.val, .bool s.has] := by simp [flatD, SideV.cells]
def rowSide (r : RowV) : SideV := ⟨r.val, true⟩
def sidesL (rs : List RowV) : List SideV := if rs.length = 0 then [⟨⟨#[]⟩, false⟩] else rs.map rowSide
def sidesK (rs : List RowV) (k : Nat) : List SideV := (rs.take k).map rowSide
theorem cell_side_new (W : World) (v : ByteArray) (b : Bool) (t : TypeId) : ∀ j u, [Value.string v, .bool b][j]? = some u → (W.alloc (.cells #[.string v, .bool b] t)).cell? ((⟨W.heap.size, 0, none⟩ : Addr).add j) = some u := by
  intro j u hu
  rw [Addr.add_mid, Nat.zero_add]
  rcases j with _ | _ | j <;> simp at hu <;> subst hu <;> simp [go_sem]
end Go.Proofs.YtallcholbbfkdaaDoor
