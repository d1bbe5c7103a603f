/-
  Adding a key to a filter: it is found then, stays found, and adding it again changes nothing; a new filter has no key. No conditions but those of each statement.
-/
import Derived.Test.YtfndodaknejhfaaFilterMath
namespace Go.Proofs.Ytfndodaknejhfaa
open Go.RowKit

theorem add_again {n : Int} {x s : ByteArray} (h : addOk n x s = true) : filB n (addS n s x) = true ∧ hasB n (addS n s x) s = true ∧ addS n s (addS n s x) = addS n s x ∧ LeB x.data.toList (addS n s x).data.toList ∧ (addS n s x).size = x.size := by
  simp only [addOk, Bool.and_eq_true, decide_eq_true_eq] at h
  obtain ⟨hf, hs⟩ := h
  obtain ⟨q0, q1, q4, q5, q2⟩ := filB_all hf
  have l1 : x.data.toList.length = x.size := by simp
  have hp : ∀ k, plN n s k / 8 < x.data.toList.length := fun k => by rw [l1]; exact plN_lt n s _ q0 q4 q5 k
  have hd : (addS n s x).data.toList = addL n s x.data.toList := by simp [addS]
  have hz : (addS n s x).size = x.size := by
    have l2 : (addS n s x).data.toList.length = (addS n s x).size := by simp
    rw [← l2, hd, addL_length, l1]
  have hf2 : filB n (addS n s x) = true := by unfold filB at *; rw [hz]; exact hf
  have hh : hasB n (addS n s x) s = true := by rw [hasB_eq hf2 hs, hd]; exact hasK_addL n s _ hp
  refine ⟨hf2, hh, ?_, ?_, hz⟩
  · unfold hasB at hh
    rw [Bool.and_eq_true, decide_eq_true_eq] at hh
    exact hh.2
  · rw [hd]; exact leB_addL n s _ hp
theorem hasL_zero (m i : Nat) : hasL (List.replicate m 0) i = false := by
  have hz : (List.replicate m (0 : UInt8)).getD (i / 8) 0 = 0 := by
    rw [List.getD_eq_getElem?_getD, List.getElem?_replicate]
    split <;> rfl
  unfold hasL bitC
  rw [hz]
  have h8 : i % 8 < 8 := Nat.mod_lt _ (by omega)
  generalize i % 8 = r at *
  rcases (show r = 0 ∨ r = 1 ∨ r = 2 ∨ r = 3 ∨ r = 4 ∨ r = 5 ∨ r = 6 ∨ r = 7 by omega) with rfl | rfl | rfl | rfl | rfl | rfl | rfl | rfl <;> decide
theorem new_none {n : Int} {s : ByteArray} (h : sizeB n = true) : hasB n (ofS [] n) s = false := by
  by_cases hs : s.size ≤ 12
  · have hb := of_decide_eq_true h
    have hd : (ofS [] n).data.toList = List.replicate (n / 8).toNat 0 := by simp [ofS, ofL, zeroL]
    have hz : ((ofS [] n).size : Int) = n / 8 := ofS_size [] n hb.1
    have hf : filB n (ofS [] n) = true := decide_eq_true ⟨hb.1, hb.2.1, hb.2.2, hz⟩
    rw [hasB_eq hf hs, hd]
    unfold hasK
    rw [hasL_zero]; rfl
  · unfold hasB addOk
    rw [decide_eq_false hs, Bool.and_false, Bool.false_and]
theorem new_size (n : Int) : (ofT [] n).size ≤ 32 := by
  unfold ofT
  split
  · rename_i h
    simp only [ofOk, Bool.and_eq_true] at h
    have hb := of_decide_eq_true h.2
    have := ofS_size [] n hb.1
    omega
  · decide
theorem addT_size (n : Int) (x s : ByteArray) (h : x.size ≤ 32) : (addT n x s).size ≤ 32 := by
  unfold addT
  split
  · rename_i h2; rw [(add_again h2).2.2.2.2]; exact h
  · decide
end Go.Proofs.Ytfndodaknejhfaa
