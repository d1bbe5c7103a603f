/-
  Reading a pair of a slice of pairs. No conditions but those of each statement.
-/
import Derived.Test.YtgdbpckobngmjaaPairsMath
namespace Go.Proofs.Ytgdbpckobngmjaa
open Go.RowKit
theorem flatP_cons (p : PairV) (l : List PairV) : flatP (p :: l) = .string p.key :: .string p.l :: .string p.r :: .bool p.hl :: .bool p.hr :: flatP l := rfl
theorem flatP_append (a b : List PairV) : flatP (a ++ b) = flatP a ++ flatP b := by simp [flatP]
theorem flatP_length (l : List PairV) : (flatP l).length = l.length * 5 := by
  induction l with
  | nil => rfl
  | cons x l ih => rw [flatP_cons]; simp only [List.length_cons, ih]; omega
theorem flatP_one (l : List PairV) : ∀ u ∈ flatP l, u.oneCell' = true := by
  intro u hu
  unfold flatP at hu
  obtain ⟨p, _, hp⟩ := List.mem_flatMap.1 hu
  simp [PairV.cells] at hp
  rcases hp with rfl | rfl | rfl | rfl | rfl <;> rfl
theorem flatP_get : ∀ (l : List PairV) (k : Nat) (p : PairV), l[k]? = some p → (flatP l)[k * 5]? = some (.string p.key) ∧ (flatP l)[k * 5 + 1]? = some (.string p.l) ∧ (flatP l)[k * 5 + 2]? = some (.string p.r) ∧ (flatP l)[k * 5 + 3]? = some (.bool p.hl) ∧ (flatP l)[k * 5 + 4]? = some (.bool p.hr)
  | [], _, _, h => by simp at h
  | x :: l, 0, p, h => by
    obtain rfl : x = p := by simpa using h
    exact ⟨rfl, rfl, rfl, rfl, rfl⟩
  | x :: l, k + 1, p, h => by
    have g := flatP_get l k p (by simpa using h)
    rw [flatP_cons, show (k + 1) * 5 = k * 5 + 1 + 1 + 1 + 1 + 1 by omega, show k * 5 + 1 + 1 + 1 + 1 + 1 + 1 = (k * 5 + 1) + 1 + 1 + 1 + 1 + 1 by omega, show k * 5 + 1 + 1 + 1 + 1 + 1 + 2 = (k * 5 + 2) + 1 + 1 + 1 + 1 + 1 by omega, show k * 5 + 1 + 1 + 1 + 1 + 1 + 3 = (k * 5 + 3) + 1 + 1 + 1 + 1 + 1 by omega, show k * 5 + 1 + 1 + 1 + 1 + 1 + 4 = (k * 5 + 4) + 1 + 1 + 1 + 1 + 1 by omega]
    simpa only [List.getElem?_cons_succ] using g
theorem Rd.pair {w : World} {B n k : Nat} {a : Option Addr} {l : List PairV} (h : Rd w B 5 a n (flatP l)) (hk : k < n) :
    ∃ b off p, a = some ⟨b, off, none⟩ ∧ b < B ∧ l[k]? = some p ∧ w.cell? ⟨b, off + k * 5, none⟩ = some (.string p.key) ∧ w.cell? ⟨b, off + k * 5 + 1, none⟩ = some (.string p.l) ∧ w.cell? ⟨b, off + k * 5 + 2, none⟩ = some (.string p.r) ∧ w.cell? ⟨b, off + k * 5 + 3, none⟩ = some (.bool p.hl) ∧ w.cell? ⟨b, off + k * 5 + 4, none⟩ = some (.bool p.hr) := by
  obtain ⟨b, off, e, hb, hc⟩ := h.2 (by omega)
  have hl := h.1
  rw [flatP_length] at hl
  have hkl : k < l.length := by omega
  obtain ⟨g0, g1, g2, g3, g4⟩ := flatP_get l k l[k] (List.getElem?_eq_getElem hkl)
  exact ⟨b, off, l[k], e, hb, List.getElem?_eq_getElem hkl, hc _ _ g0, by rw [Nat.add_assoc]; exact hc _ _ g1, by rw [Nat.add_assoc]; exact hc _ _ g2, by rw [Nat.add_assoc]; exact hc _ _ g3, by rw [Nat.add_assoc]; exact hc _ _ g4⟩
theorem Rd.pairs_length {w : World} {B n : Nat} {a : Option Addr} {l : List PairV} (h : Rd w B 5 a n (flatP l)) : l.length = n := by
  have hl := h.1
  rw [flatP_length] at hl
  omega
end Go.Proofs.Ytgdbpckobngmjaa
