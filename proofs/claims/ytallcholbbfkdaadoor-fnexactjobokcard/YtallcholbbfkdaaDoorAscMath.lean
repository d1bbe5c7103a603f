/-
  Lists that ascend by an order: inserting, merging by rotation, and that an ascending permutation is one list. No conditions beyond those of each statement.
-/
import Derived.Test.YtallcholbbfkdaaDoorPlain
namespace Go.Proofs.YtallcholbbfkdaaDoor

section
variable {α : Type}
/-- No element precedes one ahead of it. -/
def Asc (lt : α → α → Bool) (l : List α) : Prop := l.Pairwise fun a b => lt b a = false
/-- What is asked of an order. -/
structure OrdB (lt : α → α → Bool) : Prop where
  asym : ∀ a b, lt a b = true → lt b a = false
  trans : ∀ a b c, lt b a = false → lt c b = false → lt c a = false
  anti : ∀ a b, lt a b = false → lt b a = false → a = b
variable {lt : α → α → Bool}
theorem OrdB.refl (h : OrdB lt) (a : α) : lt a a = false := by
  cases e : lt a a
  · rfl
  · rw [h.asym a a e] at e; cases e
theorem Asc.nil : Asc lt ([] : List α) := List.Pairwise.nil
theorem Asc.one (x : α) : Asc lt [x] := List.pairwise_singleton _ _
theorem Asc.take {l : List α} (h : Asc lt l) (k : Nat) : Asc lt (l.take k) := List.Pairwise.sublist (List.take_sublist k l) h
theorem Asc.drop {l : List α} (h : Asc lt l) (k : Nat) : Asc lt (l.drop k) := List.Pairwise.sublist (List.drop_sublist k l) h
theorem Asc.append {a b : List α} (ha : Asc lt a) (hb : Asc lt b) (h : ∀ x ∈ a, ∀ y ∈ b, lt y x = false) : Asc lt (a ++ b) := List.pairwise_append.2 ⟨ha, hb, h⟩
/-- Of ascending elements, all up to one are at most that one. -/
theorem Asc.le_at {l : List α} (h : Asc lt l) (o : OrdB lt) {i j : Nat} {x y : α} (hx : l[i]? = some x) (hy : l[j]? = some y) (hij : i ≤ j) : lt y x = false := by
  obtain ⟨hi, ei⟩ := List.getElem?_eq_some_iff.1 hx
  obtain ⟨hj, ej⟩ := List.getElem?_eq_some_iff.1 hy
  rcases Nat.lt_or_ge i j with h1 | h1
  · have := List.pairwise_iff_getElem.1 h i j hi hj h1
    rw [ei, ej] at this; exact this
  · obtain rfl : i = j := by omega
    rw [ei] at ej; subst ej; exact o.refl _
theorem Asc.take_le {l : List α} (h : Asc lt l) (o : OrdB lt) {q : Nat} {x : α} (hq : q = 0 ∨ ∃ z, l[q - 1]? = some z ∧ lt x z = false) : ∀ y ∈ l.take q, lt x y = false := by
  intro y hy
  obtain ⟨i, hi, e⟩ := List.mem_iff_getElem.1 hy
  rw [List.length_take] at hi
  have hyi : l[i]? = some y := by rw [List.getElem?_eq_getElem (by omega), ← e]; simp
  rcases hq with rfl | ⟨z, hz, hl⟩
  · omega
  · exact o.trans _ _ _ (h.le_at o hyi hz (by omega)) hl
theorem Asc.le_drop {l : List α} (h : Asc lt l) (o : OrdB lt) {q : Nat} {x : α} (hq : l.length ≤ q ∨ ∃ z, l[q]? = some z ∧ lt z x = false) : ∀ y ∈ l.drop q, lt y x = false := by
  intro y hy
  obtain ⟨i, hi, e⟩ := List.mem_iff_getElem.1 hy
  rw [List.length_drop] at hi
  have hyi : l[q + i]? = some y := by rw [List.getElem?_eq_getElem (by omega), ← e]; simp
  rcases hq with hq | ⟨z, hz, hl⟩
  · omega
  · exact o.trans _ _ _ hl (h.le_at o hz hyi (by omega))
theorem Asc.insert {l : List α} (h : Asc lt l) (o : OrdB lt) {q : Nat} {x : α} (h1 : q = 0 ∨ ∃ z, l[q - 1]? = some z ∧ lt x z = false) (h2 : l.length ≤ q ∨ ∃ z, l[q]? = some z ∧ lt z x = false) : Asc lt (l.take q ++ x :: l.drop q) := by
  refine (h.take q).append (List.pairwise_cons.2 ⟨fun y hy => h.le_drop o h2 y hy, h.drop q⟩) fun y hy z hz => ?_
  rcases List.mem_cons.1 hz with rfl | hz
  · exact h.take_le o h1 y hy
  · exact o.trans _ _ _ (h.take_le o h1 y hy) (h.le_drop o h2 z hz)
theorem insert_perm (l : List α) (q : Nat) (x : α) : (l.take q ++ x :: l.drop q).Perm (x :: l) := by
  have := (List.perm_middle (a := x) (l₁ := l.take q) (l₂ := l.drop q))
  rwa [List.take_append_drop] at this
/-- Two ascending lists, cut so that what is ahead of the cuts precedes nothing wrongly: the two halves. -/
theorem sym_halves {A B : List α} (hA : Asc lt A) (hB : Asc lt B) (o : OrdB lt) {s e : Nat} (hs : s ≤ A.length) (he : e ≤ B.length)
    (h1 : s = 0 ∨ B.length ≤ e ∨ ∃ x y, A[s - 1]? = some x ∧ B[e]? = some y ∧ lt y x = false)
    (h2 : e = 0 ∨ A.length ≤ s ∨ ∃ x y, B[e - 1]? = some x ∧ A[s]? = some y ∧ lt x y = true)
    {L R : List α} (hL : Asc lt L) (hR : Asc lt R) (pL : L.Perm (A.take s ++ B.take e)) (pR : R.Perm (A.drop s ++ B.drop e)) : Asc lt (L ++ R) ∧ (L ++ R).Perm (A ++ B) := by
  constructor
  · refine hL.append hR fun x hx y hy => ?_
    have hx := pL.mem_iff.1 hx
    have hy := pR.mem_iff.1 hy
    rcases List.mem_append.1 hx with hx | hx <;> rcases List.mem_append.1 hy with hy | hy
    · obtain ⟨i, hi, ei⟩ := List.mem_iff_getElem.1 hx
      obtain ⟨j, hj, ej⟩ := List.mem_iff_getElem.1 hy
      rw [List.length_take] at hi
      rw [List.length_drop] at hj
      exact hA.le_at o (i := i) (j := s + j) (by rw [List.getElem?_eq_getElem (by omega), ← ei]; simp) (by rw [List.getElem?_eq_getElem (by omega), ← ej]; simp) (by omega)
    · rcases h1 with rfl | h1 | ⟨p, q, hp, hq, hl⟩
      · simp at hx
      · rw [List.drop_eq_nil_of_le h1] at hy; cases hy
      · exact o.trans _ _ _ (hA.take_le o (q := s) (.inr ⟨p, hp, o.refl p⟩) x hx) (o.trans _ _ _ hl (hB.le_drop o (q := e) (.inr ⟨q, hq, o.refl q⟩) y hy))
    · rcases h2 with rfl | h2 | ⟨p, q, hp, hq, hl⟩
      · simp at hx
      · rw [List.drop_eq_nil_of_le h2] at hy; cases hy
      · exact o.trans _ _ _ (hB.take_le o (q := e) (.inr ⟨p, hp, o.refl p⟩) x hx) (o.trans _ _ _ (o.asym _ _ hl) (hA.le_drop o (q := s) (.inr ⟨q, hq, o.refl q⟩) y hy))
    · obtain ⟨i, hi, ei⟩ := List.mem_iff_getElem.1 hx
      obtain ⟨j, hj, ej⟩ := List.mem_iff_getElem.1 hy
      rw [List.length_take] at hi
      rw [List.length_drop] at hj
      exact hB.le_at o (i := i) (j := e + j) (by rw [List.getElem?_eq_getElem (by omega), ← ei]; simp) (by rw [List.getElem?_eq_getElem (by omega), ← ej]; simp) (by omega)
  · refine (pL.append pR).trans ?_
    have h1 : (A.take s ++ B.take e ++ (A.drop s ++ B.drop e)).Perm (A.take s ++ A.drop s ++ (B.take e ++ B.drop e)) := by
      rw [List.append_assoc, List.append_assoc]
      refine List.Perm.append_left _ ?_
      rw [← List.append_assoc, ← List.append_assoc]
      exact List.Perm.append_right _ List.perm_append_comm
    rwa [List.take_append_drop, List.take_append_drop] at h1
/-- Ascending permutations are one list. -/
theorem Asc.unique (o : OrdB lt) : ∀ {a b : List α}, Asc lt a → Asc lt b → a.Perm b → a = b
  | [], b, _, _, p => (List.nil_perm.1 p).symm
  | x :: a, [], _, _, p => (List.perm_nil.1 p)
  | x :: a, y :: b, ha, hb, p => by
    have ha' := List.pairwise_cons.1 ha
    have hb' := List.pairwise_cons.1 hb
    have hxy : x = y := by
      have hx : x ∈ y :: b := p.mem_iff.1 (List.mem_cons_self ..)
      have hy : y ∈ x :: a := p.mem_iff.2 (List.mem_cons_self ..)
      rcases List.mem_cons.1 hx with h | hx
      · exact h
      · rcases List.mem_cons.1 hy with h | hy
        · exact h.symm
        · exact o.anti _ _ (hb'.1 x hx) (ha'.1 y hy)
    subst hxy
    rw [Asc.unique o ha'.2 hb'.2 (List.Perm.cons_inv p)]
end
end Go.Proofs.YtallcholbbfkdaaDoor
