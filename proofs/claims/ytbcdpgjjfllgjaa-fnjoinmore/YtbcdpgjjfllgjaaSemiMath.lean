/-
  What FnSemi asks of the pairs: those with a partner, those without one, and the left join. No conditions but those of each statement.
-/
import Derived.Test.YtbcdpgjjfllgjaaJoinLaws
namespace Go.Proofs.Ytbcdpgjjfllgjaa
open Go.RowKit
theorem flatMap_none {α β : Type} (l : List α) : (l.flatMap fun _ => ([] : List β)) = [] := by
  induction l with
  | nil => rfl
  | cons x l ih => rw [List.flatMap_cons, ih]; rfl
theorem filter_map_none {α β : Type} {q : β → Bool} {f : α → β} (h : ∀ x, q (f x) = false) (l : List α) : (l.map f).filter q = [] := by
  rw [List.filter_eq_nil_iff]
  intro x hx
  obtain ⟨y, _, rfl⟩ := List.mem_map.1 hx
  rw [h]; decide
theorem one_semi {key : ByteArray} {a b : List ByteArray} {p : PairV} (h : p ∈ oneK 5 key a b) : p.key = key ∧ b ≠ [] := by
  cases b with
  | nil => simp [oneK] at h
  | cons y b =>
    refine ⟨?_, by simp⟩
    simp [oneK] at h
    obtain ⟨x, _, rfl⟩ := h
    rfl
theorem one_anti {key : ByteArray} {a b : List ByteArray} {p : PairV} (h : p ∈ oneK 6 key a b) : p.key = key ∧ b = [] := by
  cases b with
  | nil =>
    refine ⟨?_, rfl⟩
    simp [oneK] at h
    obtain ⟨x, _, rfl⟩ := h
    rfl
  | cons y b => simp [oneK] at h
theorem semi_anti_keys {a b : List RowV} {p q : PairV} (hp : p ∈ l5J 5 a b) (hq : q ∈ l5J 6 a b) : (p.key.toList == q.key.toList) = false := by
  unfold l5J at hp hq
  obtain ⟨k, _, hk⟩ := List.mem_flatMap.1 hp
  obtain ⟨m, _, hm⟩ := List.mem_flatMap.1 hq
  obtain ⟨e1, h1⟩ := one_semi hk
  obtain ⟨e2, h2⟩ := one_anti hm
  rw [beq_eq_false_iff_ne]
  intro e
  have := ext_toList e
  rw [e1, e2] at this
  rw [this] at h1
  exact h1 h2
theorem flatMap_two {α β γ δ : Type} {f : α → List β} {g : α → List γ} {h : α → List δ} (hh : ∀ x, (f x).length + (g x).length = (h x).length) : ∀ l : List α, (l.flatMap f).length + (l.flatMap g).length = (l.flatMap h).length
  | [] => by simp
  | x :: l => by
    have ih := flatMap_two hh l
    have := hh x
    rw [List.flatMap_cons, List.flatMap_cons, List.flatMap_cons, List.length_append, List.length_append, List.length_append]
    omega
theorem semi_anti_length (a b : List RowV) : (l5J 5 a b).length + (l5J 6 a b).length = a.length := by
  rw [← lonelyL_length a b]
  unfold l5J lonelyL
  refine flatMap_two (fun key => ?_) _
  cases valsK (sortL b) key with
  | nil =>
    have e1 : oneK 5 key (valsK (sortL a) key) [] = [] := by simp only [oneK]; simp [flatMap_none]
    have e2 : oneK 6 key (valsK (sortL a) key) [] = (valsK (sortL a) key).map (leftP key) := by simp only [oneK]; simp [flatMap_one, leftP]
    rw [e1, e2]; simp
  | cons y l =>
    have e1 : oneK 6 key (valsK (sortL a) key) (y :: l) = [] := by simp only [oneK]; simp [flatMap_none]
    have e2 : oneK 5 key (valsK (sortL a) key) (y :: l) = (valsK (sortL a) key).map (leftP key) := by simp only [oneK]; simp [flatMap_one, leftP]
    rw [e1, e2]; simp
theorem one_left {key : ByteArray} (a b : List ByteArray) : (oneK 2 key a b).filter (fun p => !p.hr) = oneK 6 key a b := by
  cases b with
  | nil =>
    simp only [oneK]
    simp [flatMap_one]
  | cons y b =>
    have e2 : oneK 6 key a (y :: b) = [] := by simp only [oneK]; simp [flatMap_none]
    have e1 : oneK 2 key a (y :: b) = a.flatMap fun x => (y :: b).map (bothP key x) := by simp only [oneK]; simp; rfl
    rw [e1, e2, List.filter_flatMap]
    have : ∀ x, ((y :: b).map (bothP key x)).filter (fun p => !p.hr) = [] := fun x => filter_map_none (fun _ => rfl) _
    simp only [this]
    exact flatMap_none a
theorem left_anti (a b : List RowV) : (l5J 2 a b).filter (fun p => !p.hr) = l5J 6 a b := by
  unfold l5J
  rw [List.filter_flatMap]
  exact flatMap_congr' fun key _ => one_left _ _
/-- How many of the first i are left alone. -/
def aloneN (l : List PairV) (i : Nat) : Nat := (l.take i).countP fun p => !p.hr
theorem aloneN_zero (l : List PairV) : aloneN l 0 = 0 := rfl
theorem aloneN_yes {l : List PairV} {i : Nat} {p : PairV} (h : l[i]? = some p) (hr : p.hr = false) : aloneN l (i + 1) = aloneN l i + 1 := by
  unfold aloneN
  rw [List.take_add_one, h, Option.toList_some, List.countP_append]
  simp [hr]
theorem aloneN_no {l : List PairV} {i : Nat} {p : PairV} (h : l[i]? = some p) (hr : p.hr = true) : aloneN l (i + 1) = aloneN l i := by
  unfold aloneN
  rw [List.take_add_one, h, Option.toList_some, List.countP_append]
  simp [hr]
theorem alone_at {l : List PairV} {i : Nat} {p : PairV} (h : l[i]? = some p) (hr : p.hr = false) : (l.filter fun p => !p.hr)[aloneN l i]? = some p := by
  obtain ⟨hi, e⟩ := List.getElem?_eq_some_iff.1 h
  have hs : l = l.take i ++ p :: l.drop (i + 1) := by
    rw [← e, ← List.drop_eq_getElem_cons hi, List.take_append_drop]
  unfold aloneN
  rw [List.countP_eq_length_filter]
  have e2 : (l.filter fun p => !p.hr) = ((l.take i).filter fun p => !p.hr) ++ p :: ((l.drop (i + 1)).filter fun p => !p.hr) := by
    have e3 := congrArg (List.filter fun p : PairV => !p.hr) hs
    rw [List.filter_append, List.filter_cons_of_pos (by simp [hr])] at e3
    exact e3
  rw [e2, List.getElem?_append_right (Nat.le_refl _), Nat.sub_self]
  rfl
theorem aloneN_all {l : List PairV} {i : Nat} (h : l.length ≤ i) : aloneN l i = (l.filter fun p => !p.hr).length := by
  unfold aloneN
  rw [List.take_of_length_le h, List.countP_eq_length_filter]
theorem aloneN_le (l : List PairV) (i : Nat) : aloneN l i ≤ i := by
  unfold aloneN
  have := List.countP_le_length (p := fun p : PairV => !p.hr) (l := l.take i)
  rw [List.length_take] at this
  omega
end Go.Proofs.Ytbcdpgjjfllgjaa
