/-
  The cuts of rows: the keys of the sorted rows are the sorted keys; what impl and spec pick of them is the same. No conditions.
-/
import Derived.Test.YtlalbcdbcalaiacSort
import Derived.Test.YtlalbcdbcalaiacKeysSort
import Derived.Test.YtlalbcdbcalaiacCutsMath
namespace Go.Proofs.Ytlalbcdbcalaiac
open Go.RowKit

theorem less_le {r x : RowV} (h : r.less x = true) : r.key.data.toList ≤ x.key.data.toList := by
  unfold RowV.less lessB at h
  rw [ByteArray.toList_eq, ByteArray.toList_eq] at h
  by_cases e : r.key.data.toList = x.key.data.toList
  · rw [e]; exact List.le_refl _
  · rw [if_pos (by rw [Bool.not_eq_true', beq_eq_false_iff_ne]; exact e), bytesLess_eq] at h
    exact List.le_of_lt (by simpa using h)
theorem notLess_le {r x : RowV} (h : r.less x = false) : x.key.data.toList ≤ r.key.data.toList := by
  unfold RowV.less lessB at h
  rw [ByteArray.toList_eq, ByteArray.toList_eq] at h
  by_cases e : r.key.data.toList = x.key.data.toList
  · rw [e]; exact List.le_refl _
  · rw [if_pos (by rw [Bool.not_eq_true', beq_eq_false_iff_ne]; exact e), bytesLess_eq] at h
    exact List.not_lt.1 (by simpa using h)
theorem ins_perm (r : RowV) (out : List RowV) : (ins r out).Perm (out ++ [r]) := by
  unfold ins
  conv => rhs; rw [← List.take_append_drop (insPos r out) out]
  rw [List.append_assoc, List.append_assoc]
  exact List.Perm.append_left _ List.perm_append_comm
theorem sortL_perm (rs : List RowV) : (sortL rs).Perm rs := by
  rcases List.eq_nil_or_concat rs with rfl | ⟨l, r, rfl⟩
  · exact List.Perm.refl _
  · rw [List.concat_eq_append, sortL_snoc]
    exact (ins_perm r _).trans ((sortL_perm l).append_right [r])
termination_by rs.length
decreasing_by simp_all
def KeyLe (a b : RowV) : Prop := a.key.data.toList ≤ b.key.data.toList
theorem insPos_before : ∀ (r : RowV) (out : List RowV), ∀ x ∈ out.take (insPos r out), KeyLe x r
  | _, [], x, h => by simp at h
  | r, y :: out, x, h => by
    unfold insPos at h
    split at h
    · simp at h
    · rename_i hl
      rw [List.take_succ_cons, List.mem_cons] at h
      rcases h with rfl | h
      · exact notLess_le (by simpa using hl)
      · exact insPos_before r out x h
theorem insPos_after : ∀ (r : RowV) (out : List RowV), out.Pairwise KeyLe → ∀ x ∈ out.drop (insPos r out), KeyLe r x
  | _, [], _, x, h => by simp at h
  | r, y :: out, hp, x, h => by
    unfold insPos at h
    split at h
    · rename_i hl
      rw [List.drop_zero, List.mem_cons] at h
      rcases h with rfl | h
      · exact less_le hl
      · exact List.le_trans (less_le hl) ((List.pairwise_cons.1 hp).1 x h)
    · rw [List.drop_succ_cons] at h
      exact insPos_after r out (List.pairwise_cons.1 hp).2 x h
theorem ins_sorted {r : RowV} {out : List RowV} (hp : out.Pairwise KeyLe) : (ins r out).Pairwise KeyLe := by
  unfold ins
  have hall : (out.take (insPos r out) ++ out.drop (insPos r out)).Pairwise KeyLe := by rw [List.take_append_drop]; exact hp
  have h := List.pairwise_append.1 hall
  rw [List.append_assoc, List.pairwise_append]
  refine ⟨h.1, ?_, ?_⟩
  · rw [List.singleton_append, List.pairwise_cons]
    exact ⟨insPos_after r out hp, h.2.1⟩
  · intro a ha b hb
    rw [List.singleton_append, List.mem_cons] at hb
    rcases hb with rfl | hb
    · exact insPos_before _ out a ha
    · exact h.2.2 a ha b hb
theorem sortL_sorted (rs : List RowV) : (sortL rs).Pairwise KeyLe := by
  rcases List.eq_nil_or_concat rs with rfl | ⟨l, r, rfl⟩
  · exact List.Pairwise.nil
  · rw [List.concat_eq_append, sortL_snoc]
    exact ins_sorted (sortL_sorted l)
termination_by rs.length
decreasing_by simp_all
/-- The keys of the sorted rows are the sorted keys. -/
theorem sortedK_eq (rs : List RowV) : sortedK rs = bytesL (keysB (sortL rs)) := by
  unfold sortedK
  refine List.Perm.eq_of_pairwise (le := fun a b : List UInt8 => decide (a ≤ b) = true) (fun a b _ _ h1 h2 => List.le_antisymm (by simpa using h1) (by simpa using h2)) (List.pairwise_mergeSort (fun a b c h1 h2 => by simpa using List.le_trans (by simpa using h1) (by simpa using h2)) (fun a b => by simpa using List.le_total a b) _) ?_ ((List.mergeSort_perm _ _).trans ?_)
  · rw [bytesL, keysB, List.map_map, List.pairwise_map]
    exact (sortL_sorted rs).imp fun h => by simpa [KeyLe] using h
  · rw [bytesL, keysB, bytesL, keysB]
    exact (((sortL_perm rs).map _).map _).symm

/-- What is picked of the sorted keys. -/
def cutsL (K : List (List UInt8)) (n : Nat) : List (List UInt8) := (List.range (n - 1)).map fun j => K[(j + 1) * K.length / n]!
theorem cutsL_length (K : List (List UInt8)) (n : Nat) : (cutsL K n).length = n - 1 := by simp [cutsL]
theorem cutsL_get {K : List (List UInt8)} {n j : Nat} (h : j < n - 1) : (cutsL K n).toArray[j]! = K[(j + 1) * K.length / n]! := by
  rw [getElem!_pos _ j (by simpa [cutsL] using h)]; simp [cutsL]
theorem pick_lt {len n i : Nat} (hl : 0 < len) (hi : i < n) : i * len / n < len := by
  rw [Nat.div_lt_iff_lt_mul (by omega), Nat.mul_comm]
  exact Nat.mul_lt_mul_of_pos_left hi hl
/-- One pick is at most the next. -/
theorem cutsL_le {K : List (List UInt8)} {n j : Nat} (hK : K.Pairwise (· ≤ ·)) (hl : 0 < K.length) (h : j + 1 < n - 1) : (cutsL K n).toArray[j]! ≤ (cutsL K n).toArray[j + 1]! := by
  rw [cutsL_get (by omega), cutsL_get h]
  have h1 := pick_lt (i := j + 1) (n := n) hl (by omega)
  have h2 := pick_lt (i := j + 1 + 1) (n := n) hl (by omega)
  rw [getElem!_pos K _ h1, getElem!_pos K _ h2]
  have hle : (j + 1) * K.length / n ≤ (j + 1 + 1) * K.length / n := Nat.div_le_div_right (Nat.mul_le_mul_right _ (by omega))
  rcases Nat.lt_or_ge ((j + 1) * K.length / n) ((j + 1 + 1) * K.length / n) with hlt | hge
  · exact (List.pairwise_iff_getElem.1 hK) _ _ h1 h2 hlt
  · have e : (j + 1) * K.length / n = (j + 1 + 1) * K.length / n := by omega
    simp only [e]; exact List.le_refl _
theorem compact_last (d : Array (List UInt8)) : ∀ q, 0 < q → ∃ ys, Lib.compactUpTo d q = ys ++ [d[q - 1]!]
  | 0, h => absurd h (by omega)
  | q + 1, _ => by
    rw [Lib.compactUpTo_succ]
    by_cases hk : Lib.keeps d q = true
    · rw [if_pos hk]; exact ⟨_, rfl⟩
    · rw [if_neg hk, List.append_nil]
      have : ¬ (q = 0 ∨ d[q]! ≠ d[q - 1]!) := by simpa [Lib.keeps] using hk
      obtain ⟨h0, h1⟩ := not_or.1 this
      obtain ⟨ys, hy⟩ := compact_last d q (by omega)
      exact ⟨ys, by rw [hy, Nat.add_sub_cancel, Classical.not_not.1 h1]⟩
theorem compact_zero (d : Array (List UInt8)) : Lib.compactUpTo d 0 = [] := rfl
/-- What is kept is what is greater than the last. -/
theorem keeps_lt {d : Array (List UInt8)} {q : Nat} (hq : 0 < q) (hle : d[q - 1]! ≤ d[q]!) : Lib.keeps d q = Op.bytesLess d[q - 1]! d[q]! := by
  rw [bytesLess_eq, Bool.eq_iff_iff]
  simp only [Lib.keeps, decide_eq_true_eq]
  constructor
  · rintro (h | h)
    · omega
    · by_cases h' : d[q - 1]! < d[q]!
      · exact h'
      · exact absurd (List.le_antisymm (List.not_lt.1 h') hle) h
  · intro h
    right
    intro e
    rw [e] at h
    exact List.lt_irrefl _ h
/-- The cuts. -/
def cutsR (rs : List RowV) (n : Nat) : List (List UInt8) := if rs.length = 0 then [] else Lib.compact (cutsL (sortedK rs) n)
end Go.Proofs.Ytlalbcdbcalaiac
