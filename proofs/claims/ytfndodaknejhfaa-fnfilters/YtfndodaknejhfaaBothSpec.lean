
/-
  spec.FilterBoth by its contract. Conditions: texts have at most maxLen bytes.
-/
import Derived.Test.YtfndodaknejhfaaByteRow
namespace Go.Proofs.Ytfndodaknejhfaa
open Go.RowKit
theorem At2.below {w w' : World} {B b : Nat} {x y : Value} (h : At2 w b x y) (hb : Below B w w') (hB : b < B) : At2 w' b x y :=
  ⟨(hb.cell (p := ⟨b, 0, none⟩) hB).trans h.1, (hb.cell (p := ⟨b, 1, none⟩) hB).trans h.2⟩
def orS (x x2 : ByteArray) : ByteArray := ⟨(orBytes x.size x.data.toList x2.data.toList).toArray⟩
def bothS (n : Int) (x : ByteArray) (n2 : Int) (x2 : ByteArray) : Value := if bothB n x n2 x2 then .tuple #[.agg #[.int .i64 n, .string (orS x x2)], .bool true] else .tuple #[noFil, .bool false]
theorem filB_size {n : Int} {x : ByteArray} (h : filB n x = true) : (x.size : Int) = n / 8 := (of_decide_eq_true h).2.2.2
end Go.Proofs.Ytfndodaknejhfaa
