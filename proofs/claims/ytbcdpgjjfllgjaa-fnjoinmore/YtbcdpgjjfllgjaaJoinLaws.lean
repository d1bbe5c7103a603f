/-
  What the laws on joins ask of joins with nothing and with itself. No conditions beyond those of each statement.
-/
import Derived.Test.YtbcdpgjjfllgjaaJoinFns
namespace Go.Proofs.Ytbcdpgjjfllgjaa
open Go.RowKit
theorem rows_by_keys {g : ByteArray → List ByteArray → List PairV} (hg : ∀ k v, (g k v).length = v.length) : ∀ (K : List ByteArray) (l : List RowV), Rising K → (∀ r ∈ l, r.key ∈ K) → (K.flatMap fun k => g k (valsK l k)).length = l.length
  | [], l, _, h => by
    have : l = [] := List.eq_nil_iff_forall_not_mem.2 fun r hr => by have := h r hr; cases this
    subst this
    rfl
  | x :: K, l, hK, h => by
    obtain ⟨k1, k2⟩ := List.pairwise_cons.1 hK
    have hxK : x ∉ K := fun h => by have := k1 x h; rw [bl_irrefl] at this; cases this
    have ih := rows_by_keys hg K (l.filter fun r => !isKey x r) k2 (fun r hr => by
      rw [List.mem_filter] at hr
      refine (List.mem_cons.1 (h r hr.1)).resolve_left fun e => ?_
      rw [isKey_iff.2 e] at hr
      simp at hr)
    have e : (K.flatMap fun k => g k (valsK l k)) = K.flatMap fun k => g k (valsK (l.filter fun r => !isKey x r) k) := flatMap_congr' fun y hy => by
      have hne : y ≠ x := fun e => hxK (e ▸ hy)
      rw [valsK_rest hne]
    rw [List.flatMap_cons, List.length_append, e, ih, hg]
    unfold valsK
    rw [List.length_map]
    have : ∀ l : List RowV, (l.filter (isKey x)).length + (l.filter fun r => !isKey x r).length = l.length := by
      intro l
      induction l with
      | nil => rfl
      | cons r l ih2 => cases hr : isKey x r <;> simp [hr] <;> omega
    exact this l
theorem flatMap_len_le {α β γ : Type} {f : α → List β} {g : α → List γ} : ∀ {l : List α}, (∀ x ∈ l, (f x).length ≤ (g x).length) → (l.flatMap f).length ≤ (l.flatMap g).length
  | [], _ => by simp
  | x :: l, h => by
    have ih := flatMap_len_le (l := l) fun y hy => h y (List.mem_cons_of_mem _ hy)
    have := h x (List.mem_cons_self)
    rw [List.flatMap_cons, List.flatMap_cons, List.length_append, List.length_append]
    omega
theorem keys_all (a b : List RowV) : Rising (keysOf (sortL (a ++ b))) ∧ ∀ x, x ∈ keysOf (sortL (a ++ b)) ↔ (∃ r ∈ a, r.key = x) ∨ ∃ r ∈ b, r.key = x := by
  refine ⟨keysOf_rising (asc_keys (sortL_asc _)), fun x => ?_⟩
  rw [keysOf_mem]
  constructor
  · rintro ⟨r, hr, e⟩
    rw [(sortL_perm' _).mem_iff, List.mem_append] at hr
    rcases hr with hr | hr
    · exact .inl ⟨r, hr, e⟩
    · exact .inr ⟨r, hr, e⟩
  · rintro (⟨r, hr, e⟩ | ⟨r, hr, e⟩)
    · exact ⟨r, by rw [(sortL_perm' _).mem_iff, List.mem_append]; exact .inl hr, e⟩
    · exact ⟨r, by rw [(sortL_perm' _).mem_iff, List.mem_append]; exact .inr hr, e⟩
theorem keys_left (a b : List RowV) : ∀ r ∈ sortL a, r.key ∈ keysOf (sortL (a ++ b)) := fun r hr => ((keys_all a b).2 r.key).2 (.inl ⟨r, (sortL_perm' a).mem_iff.1 hr, rfl⟩)
/-- A row of the left side alone, for each. -/
def lonelyL (a b : List RowV) : List PairV := (keysOf (sortL (a ++ b))).flatMap fun key => (valsK (sortL a) key).map (leftP key)
theorem lonelyL_length (a b : List RowV) : (lonelyL a b).length = a.length := by
  have := rows_by_keys (g := fun k v => v.map (leftP k)) (by simp) (keysOf (sortL (a ++ b))) (sortL a) (keys_all a b).1 (keys_left a b)
  rw [sortL_length] at this
  exact this
theorem valsK_nil (key : ByteArray) : valsK (sortL []) key = [] := rfl
theorem flatMap_one {α β : Type} (f : α → β) (l : List α) : (l.flatMap fun x => [f x]) = l.map f := by
  induction l with
  | nil => rfl
  | cons x l ih => rw [List.flatMap_cons, ih]; rfl
theorem none_left {n : Int} (hn : n = 2 ∨ n = 4 ∨ n = 6) (a : List RowV) : l5J n a [] = lonelyL a [] := by
  unfold l5J lonelyL
  refine flatMap_congr' fun key _ => ?_
  rw [valsK_nil]
  rcases hn with rfl | rfl | rfl <;> simp [oneK, leftP, flatMap_one]
theorem none_none {n : Int} (hn : n = 1 ∨ n = 3 ∨ n = 5) (a : List RowV) : l5J n a [] = [] := by
  unfold l5J
  rw [List.flatMap_eq_nil_iff]
  intro key _
  rw [valsK_nil]
  rcases hn with rfl | rfl | rfl <;> simp [oneK]
theorem self_semi (a : List RowV) : l5J 5 a a = lonelyL a a := by
  unfold l5J lonelyL
  refine flatMap_congr' fun key _ => ?_
  cases h : valsK (sortL a) key with
  | nil => simp [oneK]
  | cons x l => simp [oneK, leftP, flatMap_one]
theorem self_anti (a : List RowV) : l5J 6 a a = [] := by
  unfold l5J
  rw [List.flatMap_eq_nil_iff]
  intro key _
  cases h : valsK (sortL a) key with
  | nil => simp [oneK]
  | cons x l => simp [oneK]
theorem self_full (a : List RowV) : l5J 4 a a = l5J 1 a a := by
  unfold l5J
  refine flatMap_congr' fun key _ => ?_
  cases h : valsK (sortL a) key with
  | nil => simp [oneK]
  | cons x l => simp [oneK]
theorem self_many (a : List RowV) : a.length ≤ (l5J 1 a a).length := by
  rw [← lonelyL_length a a]
  unfold l5J lonelyL
  refine flatMap_len_le fun key _ => ?_
  rw [List.length_map]
  generalize valsK (sortL a) key = v
  have h : ∀ u : List ByteArray, 0 < v.length → u.length ≤ (u.flatMap fun x => v.map fun y => (⟨key, x, y, true, true⟩ : PairV)).length := by
    intro u hv
    induction u with
    | nil => simp
    | cons x u ih =>
      rw [List.flatMap_cons, List.length_append, List.length_map, List.length_cons]
      omega
  rcases Nat.eq_zero_or_pos v.length with h0 | h0
  · omega
  · have := h v h0
    simpa [oneK] using this
end Go.Proofs.Ytbcdpgjjfllgjaa
