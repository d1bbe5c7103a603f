/-
  The order of rows is total; the rows sorted by insertion ascend and are the rows in another order. No conditions.
-/
import Derived.Test.YtallcholbbfkdaaDoorAscMath
import Derived.Test.YtallcholbbfkdaaDoorSort
import Derived.Sort.Walk0
namespace Go.Proofs.YtallcholbbfkdaaDoor

theorem less_iff (a b : RowV) : a.less b = true ↔ a.key.data.toList < b.key.data.toList ∨ a.key.data.toList = b.key.data.toList ∧ (a.tag < b.tag ∨ a.tag = b.tag ∧ a.val.data.toList < b.val.data.toList) := by
  unfold RowV.less lessB
  rw [ByteArray.toList_eq, ByteArray.toList_eq, ByteArray.toList_eq, ByteArray.toList_eq]
  by_cases h : a.key.data.toList = b.key.data.toList
  · rw [if_neg (by rw [h]; simp)]
    by_cases ht : a.tag = b.tag
    · rw [if_neg (by simp [ht]), bytesLess_eq]
      simp [h, ht, List.lt_irrefl]
    · rw [if_pos (by simpa using ht)]
      simp [h, ht, List.lt_irrefl]
  · rw [if_pos (by rw [Bool.not_eq_true', beq_eq_false_iff_ne]; exact h), bytesLess_eq]
    simp [h]
theorem notLess_iff (a b : RowV) : a.less b = false ↔ b.key.data.toList < a.key.data.toList ∨ b.key.data.toList = a.key.data.toList ∧ (b.tag < a.tag ∨ b.tag = a.tag ∧ b.val.data.toList ≤ a.val.data.toList) := by
  rw [← Bool.not_eq_true, less_iff]
  constructor
  · intro h
    obtain ⟨h1, h2⟩ := not_or.1 h
    rcases List.le_iff_lt_or_eq.1 (List.not_lt.1 h1) with h3 | h3
    · exact .inl h3
    · refine .inr ⟨h3, ?_⟩
      obtain ⟨h4, h5⟩ := not_or.1 (not_and.1 h2 h3.symm)
      by_cases e : b.tag = a.tag
      · exact .inr ⟨e, List.not_lt.1 (not_and.1 h5 e.symm)⟩
      · exact .inl (by omega)
  · rintro (h | ⟨h, h2⟩) (k | ⟨k, k2⟩)
    · exact List.lt_asymm h k
    · rw [k] at h; exact List.lt_irrefl _ h
    · rw [h] at k; exact List.lt_irrefl _ k
    · rcases h2 with h2 | ⟨h2, h3⟩ <;> rcases k2 with k2 | ⟨k2, k3⟩
      · omega
      · omega
      · omega
      · exact absurd k3 (List.not_lt.2 h3)
theorem ext_data {a b : ByteArray} (h : a.data.toList = b.data.toList) : a = b := by
  apply ByteArray.ext
  exact Array.toList_inj.1 h
theorem ordRow : OrdB RowV.less where
  asym a b h := by
    rw [notLess_iff]
    rcases (less_iff a b).1 h with h | ⟨h, h2 | ⟨h2, h3⟩⟩
    · exact .inl h
    · exact .inr ⟨h, .inl h2⟩
    · exact .inr ⟨h, .inr ⟨h2, List.le_of_lt h3⟩⟩
  trans a b c h1 h2 := by
    rw [notLess_iff] at *
    rcases h1 with h | ⟨h, h1⟩ <;> rcases h2 with k | ⟨k, k1⟩
    · exact .inl (List.lt_trans h k)
    · exact .inl (by rw [← k]; exact h)
    · exact .inl (by rw [h]; exact k)
    · refine .inr ⟨h.trans k, ?_⟩
      rcases h1 with h1 | ⟨h1, h2⟩ <;> rcases k1 with k1 | ⟨k1, k2⟩
      · exact .inl (by omega)
      · exact .inl (by omega)
      · exact .inl (by omega)
      · exact .inr ⟨by omega, List.le_trans h2 k2⟩
  anti a b h1 h2 := by
    rw [notLess_iff] at *
    obtain ⟨k, t, v⟩ := a
    obtain ⟨k', t', v'⟩ := b
    simp only at *
    rcases h1 with h1 | ⟨h1, h3⟩
    · rcases h2 with h2 | ⟨h2, _⟩
      · exact absurd h2 (List.lt_asymm h1)
      · rw [h2] at h1; exact absurd h1 (List.lt_irrefl _)
    · rcases h2 with h2 | ⟨h2, h4⟩
      · rw [h1] at h2; exact absurd h2 (List.lt_irrefl _)
      · rcases h3 with h3 | ⟨h3, h5⟩ <;> rcases h4 with h4 | ⟨h4, h6⟩
        · omega
        · omega
        · omega
        · rw [ext_data h2, h4, ext_data (List.le_antisymm h6 h5)]
theorem insPos_le : ∀ (r : RowV) (out : List RowV), insPos r out ≤ out.length
  | _, [] => Nat.le_refl _
  | r, y :: out => by
    unfold insPos
    split
    · simp
    · have := insPos_le r out; simpa using this
theorem ins_asc {r : RowV} {out : List RowV} (h : Asc RowV.less out) : Asc RowV.less (ins r out) := by
  have hp : ∀ (out : List RowV), (insPos r out = 0 ∨ ∃ z, out[insPos r out - 1]? = some z ∧ r.less z = false) ∧ (out.length ≤ insPos r out ∨ ∃ z, out[insPos r out]? = some z ∧ z.less r = false) := by
    intro out
    induction out with
    | nil => exact ⟨.inl rfl, .inl (Nat.le_refl _)⟩
    | cons y out ih =>
      by_cases hl : r.less y = true
      · have e : insPos r (y :: out) = 0 := by rw [insPos, if_pos hl]
        rw [e]
        exact ⟨.inl rfl, .inr ⟨y, rfl, ordRow.asym _ _ hl⟩⟩
      · have e : insPos r (y :: out) = insPos r out + 1 := by rw [insPos, if_neg hl]
        rw [e]
        refine ⟨.inr ?_, ?_⟩
        · rw [Nat.add_sub_cancel]
          rcases ih.1 with h0 | ⟨z, hz, hr⟩
          · rw [h0]; exact ⟨y, rfl, by simpa using hl⟩
          · by_cases h1 : insPos r out = 0
            · rw [h1]; exact ⟨y, rfl, by simpa using hl⟩
            · refine ⟨z, ?_, hr⟩
              obtain ⟨m, hm⟩ : ∃ m, insPos r out = m + 1 := ⟨insPos r out - 1, by omega⟩
              rw [hm] at hz ⊢
              simpa using hz
        · rcases ih.2 with h0 | ⟨z, hz, hr⟩
          · exact .inl (by simpa using h0)
          · exact .inr ⟨z, by simpa using hz, hr⟩
  unfold ins
  rw [List.append_assoc]
  exact h.insert ordRow (hp out).1 (hp out).2
theorem sortL_asc (rs : List RowV) : Asc RowV.less (sortL rs) := by
  rcases List.eq_nil_or_concat rs with rfl | ⟨l, r, rfl⟩
  · exact Asc.nil
  · rw [List.concat_eq_append, sortL_snoc]
    exact ins_asc (sortL_asc l)
termination_by rs.length
decreasing_by simp_all
theorem ins_perm' (r : RowV) (out : List RowV) : (ins r out).Perm (r :: out) := by
  unfold ins
  rw [List.append_assoc]
  exact insert_perm out _ r
theorem sortL_perm' (rs : List RowV) : (sortL rs).Perm rs := by
  rcases List.eq_nil_or_concat rs with rfl | ⟨l, r, rfl⟩
  · exact List.Perm.refl _
  · rw [List.concat_eq_append, sortL_snoc]
    exact (ins_perm' r _).trans (((sortL_perm' l).cons r).trans (List.perm_append_singleton r l).symm)
termination_by rs.length
decreasing_by simp_all
/-- Whatever ascends and has the same rows is the list that insertion yields. -/
theorem sortL_unique {d rs : List RowV} (h : Asc RowV.less d) (p : d.Perm rs) : d = sortL rs := Asc.unique ordRow h (sortL_asc rs) (p.trans (sortL_perm' rs).symm)
theorem sortL_of_perm {a b : List RowV} (p : a.Perm b) : sortL a = sortL b := sortL_unique (sortL_asc a) ((sortL_perm' a).trans p)
end Go.Proofs.YtallcholbbfkdaaDoor
