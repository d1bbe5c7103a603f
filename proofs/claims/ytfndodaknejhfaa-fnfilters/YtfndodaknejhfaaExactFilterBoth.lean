
/-
  laws.FnExactFilterBoth returns true for all filters: impl.FilterBoth and spec.FilterBoth return the same. No conditions.
-/
import Derived.Test.YtfndodaknejhfaaBothSpec
import Derived.Test.YtfndodaknejhfaaResVar
namespace Go.Proofs.Ytfndodaknejhfaa
open Go.RowKit

theorem both_same (n : Int) (x : ByteArray) (n2 : Int) (x2 : ByteArray) : bothV n x n2 x2 = bothS n x n2 x2 := by
  unfold bothV bothS
  cases h : bothB n x n2 x2
  · rfl
  simp only [bothB, Bool.and_eq_true, beq_iff_eq] at h
  obtain ⟨⟨h1, h2⟩, rfl⟩ := h
  have e1 := filB_size h1
  have e2 := filB_size h2
  have f1 := filB_facts h1
  have l1 : x.data.toList.length = x.size := by simp
  have l2 : x2.data.toList.length = x2.size := by simp
  have p1 := padL_length x f1.2.2
  have p2 := padL_length x2 (by omega)
  have hm : (n / 8).toNat = x.size := by omega
  have E : bytesOf n (orBytes 32 (padL x) (padL x2)) = orS x x2 := by
    unfold bytesOf orS orBytes
    rw [hm, List.take_of_length_le (l := padL x) (by omega), List.take_of_length_le (l := padL x2) (by omega), show (padL x).drop 32 = [] from List.drop_eq_nil_of_le (by omega), List.append_nil, List.take_zipWith, show x.data.toList.drop x.size = [] from List.drop_eq_nil_of_le (by omega), List.append_nil]
    have g1 : (padL x).take x.size = x.data.toList.take x.size := by unfold padL; rw [List.take_append_of_le_length (by omega)]
    have g2 : (padL x2).take x.size = x2.data.toList.take x.size := by unfold padL; rw [List.take_append_of_le_length (by omega)]
    rw [g1, g2]
  simp only [E, if_true]
def bothN (n : Int) (x : ByteArray) (n2 : Int) (x2 : ByteArray) : Int := if bothB n x n2 x2 then n else 0
def bothT (n : Int) (x : ByteArray) (n2 : Int) (x2 : ByteArray) : ByteArray := if bothB n x n2 x2 then orS x x2 else ⟨#[]⟩
theorem both_form (n : Int) (x : ByteArray) (n2 : Int) (x2 : ByteArray) : bothS n x n2 x2 = .tuple #[.agg #[.int .i64 (bothN n x n2 x2), .string (bothT n x n2 x2)], .bool (bothB n x n2 x2)] := by
  unfold bothS bothN bothT
  cases bothB n x n2 x2 <;> rfl
end Go.Proofs.Ytfndodaknejhfaa
