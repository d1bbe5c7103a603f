
/-
  laws.big and laws.sameRows by their contracts: two equal lists of rows are found to be so. Condition: at most 1048576 rows.
-/
import Derived.Test.YtfndodaknejhfaaSort
import Derived.Laws.StructEq
namespace Go.Proofs.Ytfndodaknejhfaa
open Go.RowKit

/-- Rows that '==' finds equal. -/
def RowV.same (x y : RowV) : Bool := x.key.toList == y.key.toList && (x.tag == y.tag && x.val.toList == y.val.toList)
theorem RowV.same_iff (x y : RowV) : x.same y = true ↔ x = y := by
  obtain ⟨k, t, v⟩ := x
  obtain ⟨k', t', v'⟩ := y
  simp only [RowV.same, Bool.and_eq_true, beq_iff_eq, RowV.mk.injEq]
  constructor
  · rintro ⟨h1, h2, h3⟩
    refine ⟨?_, h2, ?_⟩
    · rw [ByteArray.toList_eq, ByteArray.toList_eq] at h1
      exact ByteArray.ext (Array.toList_inj.1 h1)
    · rw [ByteArray.toList_eq, ByteArray.toList_eq] at h3
      exact ByteArray.ext (Array.toList_inj.1 h3)
  · rintro ⟨rfl, rfl, rfl⟩
    exact ⟨rfl, rfl, rfl⟩
theorem row_eql (x y : RowV) (w : World) : (binOp .eql 32 (.agg #[.string x.key, .int .i64 x.tag, .string x.val]) (.agg #[.string y.key, .int .i64 y.tag, .string y.val])).run Try.prog w = .ok (.bool (x.same y)) w := by
  have u3 := Try.underlying9
  have u4 := Try.underlying2
  have hS : Try.prog.underlying 32 = some (.struct (Try.prog.fieldsOf 32)) := by kernel_rfl
  have hp : Try.prog.stoodInHeld 32 = false := by kernel_rfl
  rw [run_eql_struct, show (10000 : Nat) = 9999 + 1 from rfl, run_equalIn_agg w 9999 32 _ _ hS hp]
  simp only [Program.fieldsOf, Try.underlying32]
  go_simp
  unfold RowV.same
  by_cases h1 : x.key.toList = y.key.toList <;> by_cases h2 : x.tag = y.tag <;> by_cases h3 : x.val.toList = y.val.toList <;> simp [h1, h2, h3]
theorem big_any (a : Option Addr) (n cap : Nat) (w : World) (hn : n ≤ maxLen) :
    Calls Try.prog 15 #[.slice a n cap] w fun e w' => e = .returned (.bool (decide (1048576 < n))) ∧ w = w' := by
  unfold maxLen at hn
  go_enter Try.func15, Try.ntmps15
  go_wp2
  go_ret
  exact ⟨ret_bool (by rw [decide_eq_decide]; omega), rfl⟩
/-- How often a row is among some. -/
def manyN (rs : List RowV) (r : RowV) : Nat := rs.countP fun x => x.same r
theorem manyN_take {rs : List RowV} {r x : RowV} {k : Nat} (h : rs[k]? = some x) : manyN (rs.take (k + 1)) r = manyN (rs.take k) r + (x.same r).toNat := by
  obtain ⟨hk, e⟩ := List.getElem?_eq_some_iff.1 h
  unfold manyN
  rw [List.take_succ_eq_append_getElem hk, e, List.countP_append]
  cases hx : x.same r <;> simp [hx]
theorem manyN_le (rs : List RowV) (r : RowV) : manyN rs r ≤ rs.length := List.countP_le_length
theorem manyN_perm {a b : List RowV} (h : a.Perm b) (r : RowV) : manyN a r = manyN b r := h.countP_eq _
end Go.Proofs.Ytfndodaknejhfaa
