/-
  The cuts of rows: what impl and spec pick of the keys of the sorted rows is the same. No conditions.
-/
import Derived.Test.YtjepmcepgoncnaaKeys
import Derived.Lib.SlicesCompact
import Derived.Test.YtjepmcepgoncnaaCutsMath
namespace Go.Proofs.Ytjepmcepgoncnaa
open Go.RowKit

/-- What is picked of the sorted keys. -/
def cutsL (K : List (List UInt8)) (n : Nat) : List (List UInt8) := (List.range (n - 1)).map fun j => K[(j + 1) * K.length / n]!
theorem cutsL_length (K : List (List UInt8)) (n : Nat) : (cutsL K n).length = n - 1 := by simp [cutsL]
theorem cutsL_get {K : List (List UInt8)} {n j : Nat} (h : j < n - 1) : (cutsL K n).toArray[j]! = K[(j + 1) * K.length / n]! := by
  rw [getElem!_pos _ j (by simpa [cutsL] using h)]; simp [cutsL]
theorem pick_lt {len n i : Nat} (hl : 0 < len) (hi : i < n) : i * len / n < len := by
  rw [Nat.div_lt_iff_lt_mul (by omega), Nat.mul_comm]
  exact Nat.mul_lt_mul_of_pos_left hi hl
/-- One pick is at most the next. -/
theorem cutsL_le {K : List (List UInt8)} {n j : Nat} (hK : K.Pairwise (· ≤ ·)) (hl : 0 < K.length) (h : j + 1 < n - 1) : (cutsL K n).toArray[j]! ≤ (cutsL K n).toArray[j + 1]! := by
  rw [cutsL_get (by omega), cutsL_get h]
  have h1 := pick_lt (i := j + 1) (n := n) hl (by omega)
  have h2 := pick_lt (i := j + 1 + 1) (n := n) hl (by omega)
  rw [getElem!_pos K _ h1, getElem!_pos K _ h2]
  have hle : (j + 1) * K.length / n ≤ (j + 1 + 1) * K.length / n := Nat.div_le_div_right (Nat.mul_le_mul_right _ (by omega))
  rcases Nat.lt_or_ge ((j + 1) * K.length / n) ((j + 1 + 1) * K.length / n) with hlt | hge
  · exact (List.pairwise_iff_getElem.1 hK) _ _ h1 h2 hlt
  · have e : (j + 1) * K.length / n = (j + 1 + 1) * K.length / n := by omega
    simp only [e]; exact List.le_refl _
theorem compact_last (d : Array (List UInt8)) : ∀ q, 0 < q → ∃ ys, Lib.compactUpTo d q = ys ++ [d[q - 1]!]
  | 0, h => absurd h (by omega)
  | q + 1, _ => by
    rw [Lib.compactUpTo_succ]
    by_cases hk : Lib.keeps d q = true
    · rw [if_pos hk]; exact ⟨_, rfl⟩
    · rw [if_neg hk, List.append_nil]
      have : ¬ (q = 0 ∨ d[q]! ≠ d[q - 1]!) := by simpa [Lib.keeps] using hk
      obtain ⟨h0, h1⟩ := not_or.1 this
      obtain ⟨ys, hy⟩ := compact_last d q (by omega)
      exact ⟨ys, by rw [hy, Nat.add_sub_cancel, Classical.not_not.1 h1]⟩
theorem compact_zero (d : Array (List UInt8)) : Lib.compactUpTo d 0 = [] := rfl
/-- What is kept is what is greater than the last. -/
theorem keeps_lt {d : Array (List UInt8)} {q : Nat} (hq : 0 < q) (hle : d[q - 1]! ≤ d[q]!) : Lib.keeps d q = Op.bytesLess d[q - 1]! d[q]! := by
  rw [bytesLess_eq, Bool.eq_iff_iff]
  simp only [Lib.keeps, decide_eq_true_eq]
  constructor
  · rintro (h | h)
    · omega
    · by_cases h' : d[q - 1]! < d[q]!
      · exact h'
      · exact absurd (List.le_antisymm (List.not_lt.1 h') hle) h
  · intro h
    right
    intro e
    rw [e] at h
    exact List.lt_irrefl _ h
/-- The cuts. -/
def cutsR (rs : List RowV) (n : Nat) : List (List UInt8) := if rs.length = 0 then [] else Lib.compact (cutsL (sortedK rs) n)
end Go.Proofs.Ytjepmcepgoncnaa
