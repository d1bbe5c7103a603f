/-
  Plain values of rows, used by the other texts. No conditions.
-/
import Derived.Test.YtlalbcdbcalaiabRows
import Derived.WalkKit
namespace Go.Proofs.Ytlalbcdbcalaiab
open Go.RowKit

/-- A row, as plain values. -/
structure RowV where
  key : ByteArray
  tag : Int
  val : ByteArray
def RowV.Ok (r : RowV) : Prop := r.key.size ≤ maxLen ∧ (Lit.int .i64 r.tag).wf = true ∧ r.val.size ≤ maxLen
instance : Inhabited RowV := ⟨⟨⟨#[]⟩, 0, ⟨#[]⟩⟩⟩
/-- The cells of a row. -/
def RowV.cells (r : RowV) : List Value := [.string r.key, .int .i64 r.tag, .string r.val]
/-- A slice of rows that came in: it is nil, or it leads to the cells of its rows. -/
def IsRows (w : World) (a : Option Addr) (len cap : Nat) (rs : List RowV) : Prop :=
  rs.length = len ∧ len ≤ cap ∧ cap ≤ maxLen ∧ (∀ r ∈ rs, r.Ok) ∧
  (0 < len → ∃ b off, a = some ⟨b, off, none⟩ ∧ b < w.heap.size ∧ ∀ i, i < len → w.cell? ⟨b, off + 3 * i, none⟩ = some (.string (rs[i]!).key) ∧ w.cell? ⟨b, off + (3 * i + 1), none⟩ = some (.int .i64 (rs[i]!).tag) ∧ w.cell? ⟨b, off + (3 * i + 2), none⟩ = some (.string (rs[i]!).val))
/-- A slice of strings that came in. -/
def IsStrs (w : World) (a : Option Addr) (len cap : Nat) (ss : List ByteArray) : Prop :=
  ss.length = len ∧ len ≤ cap ∧ cap ≤ maxLen ∧ (∀ s ∈ ss, s.size ≤ maxLen) ∧
  (0 < len → ∃ b off, a = some ⟨b, off, none⟩ ∧ b < w.heap.size ∧ ∀ i, i < len → w.cell? ⟨b, off + i, none⟩ = some (.string (ss[i]?.getD ByteArray.empty)))
end Go.Proofs.Ytlalbcdbcalaiab
