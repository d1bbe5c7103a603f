
/-
  The cuts of CutsOf are cuts: strictly ascending, short, fewer than asked, and keys of the rows; laws.sameTexts; the draw of rows and a number. Conditions: those of each statement.
-/
import Derived.Test.YtgkjpkkdcgndcaaDrawCuts
import Derived.Test.YtgkjpkkdcgndcaaSame
namespace Go.Proofs.Ytgkjpkkdcgndcaa
open Go.RowKit

theorem cutsL_mono {K : List (List UInt8)} {n : Nat} (hK : K.Pairwise (· ≤ ·)) (hl : 0 < K.length) (i : Nat) : ∀ t, i + t < n - 1 → (cutsL K n).toArray[i]! ≤ (cutsL K n).toArray[i + t]!
  | 0, _ => List.le_refl _
  | t + 1, h => List.le_trans (cutsL_mono hK hl i t (by omega)) (cutsL_le (j := i + t) hK hl (by omega))
theorem cutsR_asc (rs : List RowV) (n : Nat) : (cutsR rs n).Pairwise (· < ·) := by
  unfold cutsR
  split
  · exact List.Pairwise.nil
  · rename_i h0
    have hl : 0 < (sortedK rs).length := by rw [sortedK_length]; omega
    have hK := sortedK_sorted rs
    unfold Lib.compact Lib.compactUpTo
    rw [List.pairwise_map]
    refine (List.pairwise_lt_range.filter _).imp_of_mem ?_
    intro i j _ hj hlt
    have hk := (List.mem_filter.1 hj).2
    have hjn := List.mem_range.1 (List.mem_filter.1 hj).1
    rw [cutsL_length] at hjn
    have hne : (cutsL (sortedK rs) n).toArray[j]! ≠ (cutsL (sortedK rs) n).toArray[j - 1]! := by
      rcases of_decide_eq_true (show decide (j = 0 ∨ (cutsL (sortedK rs) n).toArray[j]! ≠ (cutsL (sortedK rs) n).toArray[j - 1]!) = true from hk) with h | h
      · omega
      · exact h
    have h1 := cutsL_mono (n := n) hK hl i (j - 1 - i) (by omega)
    rw [show i + (j - 1 - i) = j - 1 by omega] at h1
    have h2 := cutsL_mono (n := n) hK hl (j - 1) 1 (by omega)
    rw [show j - 1 + 1 = j by omega] at h2
    have h3 : (cutsL (sortedK rs) n).toArray[j - 1]! < (cutsL (sortedK rs) n).toArray[j]! := by
      by_cases h' : (cutsL (sortedK rs) n).toArray[j - 1]! < (cutsL (sortedK rs) n).toArray[j]!
      · exact h'
      · exact absurd (List.le_antisymm (List.not_lt.1 h') h2) hne
    exact List.lt_of_le_of_lt h1 h3
theorem cutsR_mem {rs : List RowV} {n : Nat} {b : List UInt8} (h : b ∈ cutsR rs n) : ∃ r ∈ rs, r.key = ⟨b.toArray⟩ := by
  unfold cutsR at h
  split at h
  · cases h
  · rename_i h0
    have hl : 0 < (sortedK rs).length := by rw [sortedK_length]; omega
    unfold Lib.compact Lib.compactUpTo at h
    obtain ⟨j, hj, rfl⟩ := List.mem_map.1 h
    have hj2 := List.mem_range.1 (List.mem_filter.1 hj).1
    rw [cutsL_length] at hj2
    rw [cutsL_get hj2]
    have hp := pick_lt (i := j + 1) (n := n) hl (by omega)
    rw [getElem!_pos (sortedK rs) _ hp]
    have hm := List.getElem_mem hp
    generalize (sortedK rs)[(j + 1) * (sortedK rs).length / n] = b at hm
    unfold sortedK bytesL keysB at hm
    obtain ⟨x, hx, rfl⟩ := List.mem_map.1 hm
    obtain ⟨r, hr, rfl⟩ := List.mem_map.1 hx
    exact ⟨r, (sortL_perm' rs).mem_iff.1 hr, rfl⟩
theorem cutsR_length {rs : List RowV} {n : Nat} (hn : 0 < n) : (cutsR rs n).length < n := by
  unfold cutsR
  split
  · exact hn
  · have := Lib.compact_length_le (cutsL (sortedK rs) n)
    rw [cutsL_length] at this
    omega
theorem cutS_yes {rs : List RowV} {N : Int} (h : (rowsOk rs && inP N) = true) : cutS rs N = (cutsR rs N.toNat).map fun b => ⟨b.toArray⟩ := by
  unfold cutS; rw [if_pos h]
theorem cutS_key {rs : List RowV} {N : Int} (h : (rowsOk rs && inP N) = true) {s : ByteArray} (hs : s ∈ cutS rs N) : ∃ r ∈ rs, r.key = s := by
  rw [cutS_yes h] at hs
  obtain ⟨b, hb, rfl⟩ := List.mem_map.1 hs
  exact cutsR_mem hb
theorem cutS_less {rs : List RowV} {N : Int} (h : (rowsOk rs && inP N) = true) {j : Nat} {p s : ByteArray} (hp : (cutS rs N)[j]? = some p) (hs : (cutS rs N)[j + 1]? = some s) : Op.bytesLess p.toList s.toList = true := by
  rw [cutS_yes h, List.getElem?_map] at hp hs
  obtain ⟨b, hb, rfl⟩ := Option.map_eq_some_iff.1 hp
  obtain ⟨c, hc, rfl⟩ := Option.map_eq_some_iff.1 hs
  rw [bytesLess_eq, ByteArray.toList_eq, ByteArray.toList_eq, decide_eq_true_eq]
  obtain ⟨h1, e1⟩ := List.getElem?_eq_some_iff.1 hb
  obtain ⟨h2, e2⟩ := List.getElem?_eq_some_iff.1 hc
  have := (List.pairwise_iff_getElem.1 (cutsR_asc rs N.toNat)) j (j + 1) h1 h2 (by omega)
  rw [e1, e2] at this
  exact this
theorem cutS_lt {rs : List RowV} {N : Int} (h : (rowsOk rs && inP N) = true) : ((cutS rs N).length : Int) < N ∧ N ≤ 8 := by
  have h2 : inP N = true := by
    cases h3 : inP N
    · rw [h3, Bool.and_false] at h; cases h
    · rfl
  have hN : 1 ≤ N ∧ N ≤ 8 := by simpa [inP] using h2
  rw [cutS_yes h, List.length_map]
  have := cutsR_length (rs := rs) (n := N.toNat) (by omega)
  omega
theorem cutS_ok {rs : List RowV} {N : Int} (h : (rowsOk rs && inP N) = true) : cutsB (cutS rs N) = true := by
  have hl := cutS_lt h
  have hr : rowsOk rs = true := by
    cases h3 : rowsOk rs
    · rw [h3, Bool.false_and] at h; cases h
    · rfl
  have hsz : ∀ s ∈ cutS rs N, s.size ≤ 12 := by
    intro s hs
    obtain ⟨r, hm, rfl⟩ := cutS_key h hs
    unfold rowsOk at hr
    rw [Bool.and_eq_true] at hr
    have := List.all_eq_true.1 hr.2 r hm
    simp only [RowV.ok, okB, decide_eq_true_eq] at this
    omega
  rw [cutsB_all (k := (cutS rs N).length) ?_ (Nat.le_refl _)]
  · simp; omega
  · intro j hj
    have hg : (cutS rs N)[j]? = some (cutS rs N)[j] := List.getElem?_eq_getElem hj
    match j, hj, hg with
    | 0, hj, hg => exact badAt_zero hg (hsz _ (List.getElem_mem hj))
    | j + 1, hj, hg =>
      have hp : (cutS rs N)[j]? = some (cutS rs N)[j] := List.getElem?_eq_getElem (by omega)
      rw [badAt_succ hp hg (hsz _ (List.getElem_mem hj)), cutS_less h hp hg]
      rfl
end Go.Proofs.Ytgkjpkkdcgndcaa
