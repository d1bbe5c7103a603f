/-
  The order of rows is that of their encodings; of two rows one is less or they are the same. No conditions but those of each statement.
-/
import Derived.Test.YtgeepfoknhhcjaaDoorKeyPieces
import Derived.Test.YtgeepfoknhhcjaaDoorExactLess
import Derived.Test.YtgeepfoknhhcjaaDoorRowOrd
namespace Go.Proofs.YtgeepfoknhhcjaaDoor
open Go.RowKit

theorem tagB_less {t u : Int} (h0 : 0 ≤ t) (h3 : t ≤ 3) (g0 : 0 ≤ u) (g3 : u ≤ 3) : (tagB t < tagB u) = (t < u) ∧ (tagB t = tagB u) = (t = u) := by
  have e : ∀ x : Int, 0 ≤ x → x ≤ 3 → x = 0 ∨ x = 1 ∨ x = 2 ∨ x = 3 := fun x _ _ => by omega
  rcases e t h0 h3 with rfl | rfl | rfl | rfl <;> rcases e u g0 g3 with rfl | rfl | rfl | rfl <;> decide
theorem rowB_list (k : ByteArray) (t : Int) (v : ByteArray) : (rowB k t v).data.toList = escs k.data.toList ++ 0 :: 0 :: (tagB t :: (escs v.data.toList ++ [0, 0])) := by
  unfold rowB
  rw [ByteArray.data_append, ByteArray.data_append, Array.toList_append, Array.toList_append, codeB_list, codeB_list]
  simp
theorem rowB_less {k : ByteArray} {t : Int} {v k2 : ByteArray} {t2 : Int} {v2 : ByteArray} (h : okB k t v = true) (h2 : okB k2 t2 v2 = true) :
    Op.bytesLess (rowB k t v).toList (rowB k2 t2 v2).toList = lessB k t v k2 t2 v2 := by
  obtain ⟨_, _, a0, a3⟩ := okB_parts h
  obtain ⟨_, _, b0, b3⟩ := okB_parts h2
  obtain ⟨e1, e2⟩ := tagB_less a0 a3 b0 b3
  rw [ByteArray.toList_eq, ByteArray.toList_eq, rowB_list, rowB_list, code_less]
  have e3 : Op.bytesLess (tagB t :: (escs v.data.toList ++ [0, 0])) (tagB t2 :: (escs v2.data.toList ++ [0, 0])) = (decide (t < t2) || (t == t2 && Op.bytesLess v.data.toList v2.data.toList)) := by
    rw [Op.bytesLess, code_less]
    have f1 : decide (tagB t < tagB t2) = decide (t < t2) := by simp only [e1]
    have f2 : (tagB t == tagB t2) = (t == t2) := by rw [Bool.eq_iff_iff, beq_iff_eq, beq_iff_eq, e2]
    rw [f1, f2]
    simp [Op.bytesLess]
  rw [e3]
  unfold lessB
  rw [ByteArray.toList_eq, ByteArray.toList_eq, ByteArray.toList_eq, ByteArray.toList_eq]
  by_cases hk : k.data.toList = k2.data.toList
  · rw [hk, bytesLess_irrefl]
    by_cases ht : t = t2
    · subst ht; simp
    · have : (t == t2) = false := beq_eq_false_iff_ne.2 ht
      simp [this, ht]
  · have : (k.data.toList == k2.data.toList) = false := beq_eq_false_iff_ne.2 hk
    simp [this]
/-- Of two rows one is less, or they are the same. -/
theorem less_three (a b : RowV) : (a.less b = true ∧ b.less a = false ∧ a.same b = false) ∨ (a.less b = false ∧ b.less a = true ∧ a.same b = false) ∨ (a.less b = false ∧ b.less a = false ∧ a.same b = true) := by
  cases h : a.less b <;> cases g : b.less a
  · right; right
    exact ⟨rfl, rfl, (RowV.same_iff a b).2 (ordRow.anti a b h g)⟩
  · right; left
    refine ⟨rfl, rfl, ?_⟩
    rw [Bool.eq_false_iff]; intro e
    rw [(RowV.same_iff a b).1 e] at g h
    rw [h] at g; cases g
  · left
    refine ⟨rfl, rfl, ?_⟩
    rw [Bool.eq_false_iff]; intro e
    rw [(RowV.same_iff a b).1 e] at g h
    rw [g] at h; cases h
  · exfalso
    have := ordRow.asym a b h
    rw [g] at this; cases this
end Go.Proofs.YtgeepfoknhhcjaaDoor
