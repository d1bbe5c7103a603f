/-
  Totals of rows: their sums, that they are valid, that the rows' order does not matter. Conditions: those of each statement.
-/
import Derived.Test.YtnmlnenepceabaaLowD
import Derived.Test.YtnmlnenepceabaaLowB
import Derived.Maps.Views
import Derived.Test.YtnmlnenepceabaaDecimal
import Derived.Test.YtnmlnenepceabaaTotMem
import Derived.Test.YtnmlnenepceabaaIterRows
import Derived.Deep.MidRow
import Derived.Maps.OwnSet
import Derived.Laws.ResultCell
import Derived.Test.YtnmlnenepceabaaPlain
import Derived.OwnWalkIn
import Derived.RangeFuncCalls
import Derived.Test.YtnmlnenepceabaaStepOne
import Derived.Test.YtnmlnenepceabaaLowA
import Derived.Test.YtnmlnenepceabaaLowC
namespace Go.Proofs.Ytnmlnenepceabaa
open Go.RowKit
theorem rows_by_keys {g : ByteArray → List ByteArray → List PairV} (hg : ∀ k v, (g k v).length = v.length) : ∀ (K : List ByteArray) (l : List RowV), Rising K → (∀ r ∈ l, r.key ∈ K) → (K.flatMap fun k => g k (valsK l k)).length = l.length
  | [], l, _, h => by
    have : l = [] := List.eq_nil_iff_forall_not_mem.2 fun r hr => by have := h r hr; cases this
    subst this
    rfl
  | x :: K, l, hK, h => by
    obtain ⟨k1, k2⟩ := List.pairwise_cons.1 hK
    have hxK : x ∉ K := fun h => by have := k1 x h; rw [bl_irrefl] at this; cases this
    have ih := rows_by_keys hg K (l.filter fun r => !isKey x r) k2 (fun r hr => by
      rw [List.mem_filter] at hr
      refine (List.mem_cons.1 (h r hr.1)).resolve_left fun e => ?_
      rw [isKey_iff.2 e] at hr
      simp at hr)
    have e : (K.flatMap fun k => g k (valsK l k)) = K.flatMap fun k => g k (valsK (l.filter fun r => !isKey x r) k) := flatMap_congr' fun y hy => by
      have hne : y ≠ x := fun e => hxK (e ▸ hy)
      rw [valsK_rest hne]
    rw [List.flatMap_cons, List.length_append, e, ih, hg]
    unfold valsK
    rw [List.length_map]
    have : ∀ l : List RowV, (l.filter (isKey x)).length + (l.filter fun r => !isKey x r).length = l.length := by
      intro l
      induction l with
      | nil => rfl
      | cons r l ih2 => cases hr : isKey x r <;> simp [hr] <;> omega
    exact this l
theorem flatMap_len_le {α β γ : Type} {f : α → List β} {g : α → List γ} : ∀ {l : List α}, (∀ x ∈ l, (f x).length ≤ (g x).length) → (l.flatMap f).length ≤ (l.flatMap g).length
  | [], _ => by simp
  | x :: l, h => by
    have ih := flatMap_len_le (l := l) fun y hy => h y (List.mem_cons_of_mem _ hy)
    have := h x (List.mem_cons_self)
    rw [List.flatMap_cons, List.flatMap_cons, List.length_append, List.length_append]
    omega
theorem keys_all (a b : List RowV) : Rising (keysOf (sortL (a ++ b))) ∧ ∀ x, x ∈ keysOf (sortL (a ++ b)) ↔ (∃ r ∈ a, r.key = x) ∨ ∃ r ∈ b, r.key = x := by
  refine ⟨keysOf_rising (asc_keys (sortL_asc _)), fun x => ?_⟩
  rw [keysOf_mem]
  constructor
  · rintro ⟨r, hr, e⟩
    rw [(sortL_perm' _).mem_iff, List.mem_append] at hr
    rcases hr with hr | hr
    · exact .inl ⟨r, hr, e⟩
    · exact .inr ⟨r, hr, e⟩
  · rintro (⟨r, hr, e⟩ | ⟨r, hr, e⟩)
    · exact ⟨r, by rw [(sortL_perm' _).mem_iff, List.mem_append]; exact .inl hr, e⟩
    · exact ⟨r, by rw [(sortL_perm' _).mem_iff, List.mem_append]; exact .inr hr, e⟩
theorem keys_left (a b : List RowV) : ∀ r ∈ sortL a, r.key ∈ keysOf (sortL (a ++ b)) := fun r hr => ((keys_all a b).2 r.key).2 (.inl ⟨r, (sortL_perm' a).mem_iff.1 hr, rfl⟩)
/-- A row of the left side alone, for each. -/
def lonelyL (a b : List RowV) : List PairV := (keysOf (sortL (a ++ b))).flatMap fun key => (valsK (sortL a) key).map (leftP key)
theorem lonelyL_length (a b : List RowV) : (lonelyL a b).length = a.length := by
  have := rows_by_keys (g := fun k v => v.map (leftP k)) (by simp) (keysOf (sortL (a ++ b))) (sortL a) (keys_all a b).1 (keys_left a b)
  rw [sortL_length] at this
  exact this
theorem valsK_nil (key : ByteArray) : valsK (sortL []) key = [] := rfl
theorem flatMap_one {α β : Type} (f : α → β) (l : List α) : (l.flatMap fun x => [f x]) = l.map f := by
  induction l with
  | nil => rfl
  | cons x l ih => rw [List.flatMap_cons, ih]; rfl
theorem none_left {n : Int} (hn : n = 2 ∨ n = 4 ∨ n = 6) (a : List RowV) : l5J n a [] = lonelyL a [] := by
  unfold l5J lonelyL
  refine flatMap_congr' fun key _ => ?_
  rw [valsK_nil]
  rcases hn with rfl | rfl | rfl <;> simp [oneK, leftP, flatMap_one]
theorem none_none {n : Int} (hn : n = 1 ∨ n = 3 ∨ n = 5) (a : List RowV) : l5J n a [] = [] := by
  unfold l5J
  rw [List.flatMap_eq_nil_iff]
  intro key _
  rw [valsK_nil]
  rcases hn with rfl | rfl | rfl <;> simp [oneK]
theorem self_semi (a : List RowV) : l5J 5 a a = lonelyL a a := by
  unfold l5J lonelyL
  refine flatMap_congr' fun key _ => ?_
  cases h : valsK (sortL a) key with
  | nil => simp [oneK]
  | cons x l => simp [oneK, leftP, flatMap_one]
theorem self_anti (a : List RowV) : l5J 6 a a = [] := by
  unfold l5J
  rw [List.flatMap_eq_nil_iff]
  intro key _
  cases h : valsK (sortL a) key with
  | nil => simp [oneK]
  | cons x l => simp [oneK]
theorem self_full (a : List RowV) : l5J 4 a a = l5J 1 a a := by
  unfold l5J
  refine flatMap_congr' fun key _ => ?_
  cases h : valsK (sortL a) key with
  | nil => simp [oneK]
  | cons x l => simp [oneK]
theorem self_many (a : List RowV) : a.length ≤ (l5J 1 a a).length := by
  rw [← lonelyL_length a a]
  unfold l5J lonelyL
  refine flatMap_len_le fun key _ => ?_
  rw [List.length_map]
  generalize valsK (sortL a) key = v
  have h : ∀ u : List ByteArray, 0 < v.length → u.length ≤ (u.flatMap fun x => v.map fun y => (⟨key, x, y, true, true⟩ : PairV)).length := by
    intro u hv
    induction u with
    | nil => simp
    | cons x u ih =>
      rw [List.flatMap_cons, List.length_append, List.length_map, List.length_cons]
      omega
  rcases Nat.eq_zero_or_pos v.length with h0 | h0
  · omega
  · have := h v h0
    simpa [oneK] using this
end Go.Proofs.Ytnmlnenepceabaa

namespace Go.Proofs.Ytnmlnenepceabaa
open Go.RowKit
theorem flatMap_none {α β : Type} (l : List α) : (l.flatMap fun _ => ([] : List β)) = [] := by
  induction l with
  | nil => rfl
  | cons x l ih => rw [List.flatMap_cons, ih]; rfl
theorem filter_map_none {α β : Type} {q : β → Bool} {f : α → β} (h : ∀ x, q (f x) = false) (l : List α) : (l.map f).filter q = [] := by
  rw [List.filter_eq_nil_iff]
  intro x hx
  obtain ⟨y, _, rfl⟩ := List.mem_map.1 hx
  rw [h]; decide
theorem one_semi {key : ByteArray} {a b : List ByteArray} {p : PairV} (h : p ∈ oneK 5 key a b) : p.key = key ∧ b ≠ [] := by
  cases b with
  | nil => simp [oneK] at h
  | cons y b =>
    refine ⟨?_, by simp⟩
    simp [oneK] at h
    obtain ⟨x, _, rfl⟩ := h
    rfl
theorem one_anti {key : ByteArray} {a b : List ByteArray} {p : PairV} (h : p ∈ oneK 6 key a b) : p.key = key ∧ b = [] := by
  cases b with
  | nil =>
    refine ⟨?_, rfl⟩
    simp [oneK] at h
    obtain ⟨x, _, rfl⟩ := h
    rfl
  | cons y b => simp [oneK] at h
theorem semi_anti_keys {a b : List RowV} {p q : PairV} (hp : p ∈ l5J 5 a b) (hq : q ∈ l5J 6 a b) : (p.key.toList == q.key.toList) = false := by
  unfold l5J at hp hq
  obtain ⟨k, _, hk⟩ := List.mem_flatMap.1 hp
  obtain ⟨m, _, hm⟩ := List.mem_flatMap.1 hq
  obtain ⟨e1, h1⟩ := one_semi hk
  obtain ⟨e2, h2⟩ := one_anti hm
  rw [beq_eq_false_iff_ne]
  intro e
  have := ext_toList e
  rw [e1, e2] at this
  rw [this] at h1
  exact h1 h2
theorem flatMap_two {α β γ δ : Type} {f : α → List β} {g : α → List γ} {h : α → List δ} (hh : ∀ x, (f x).length + (g x).length = (h x).length) : ∀ l : List α, (l.flatMap f).length + (l.flatMap g).length = (l.flatMap h).length
  | [] => by simp
  | x :: l => by
    have ih := flatMap_two hh l
    have := hh x
    rw [List.flatMap_cons, List.flatMap_cons, List.flatMap_cons, List.length_append, List.length_append, List.length_append]
    omega
theorem semi_anti_length (a b : List RowV) : (l5J 5 a b).length + (l5J 6 a b).length = a.length := by
  rw [← lonelyL_length a b]
  unfold l5J lonelyL
  refine flatMap_two (fun key => ?_) _
  cases valsK (sortL b) key with
  | nil =>
    have e1 : oneK 5 key (valsK (sortL a) key) [] = [] := by simp only [oneK]; simp [flatMap_none]
    have e2 : oneK 6 key (valsK (sortL a) key) [] = (valsK (sortL a) key).map (leftP key) := by simp only [oneK]; simp [flatMap_one, leftP]
    rw [e1, e2]; simp
  | cons y l =>
    have e1 : oneK 6 key (valsK (sortL a) key) (y :: l) = [] := by simp only [oneK]; simp [flatMap_none]
    have e2 : oneK 5 key (valsK (sortL a) key) (y :: l) = (valsK (sortL a) key).map (leftP key) := by simp only [oneK]; simp [flatMap_one, leftP]
    rw [e1, e2]; simp
theorem one_left {key : ByteArray} (a b : List ByteArray) : (oneK 2 key a b).filter (fun p => !p.hr) = oneK 6 key a b := by
  cases b with
  | nil =>
    simp only [oneK]
    simp [flatMap_one]
  | cons y b =>
    have e2 : oneK 6 key a (y :: b) = [] := by simp only [oneK]; simp [flatMap_none]
    have e1 : oneK 2 key a (y :: b) = a.flatMap fun x => (y :: b).map (bothP key x) := by simp only [oneK]; simp; rfl
    rw [e1, e2, List.filter_flatMap]
    have : ∀ x, ((y :: b).map (bothP key x)).filter (fun p => !p.hr) = [] := fun x => filter_map_none (fun _ => rfl) _
    simp only [this]
    exact flatMap_none a
theorem left_anti (a b : List RowV) : (l5J 2 a b).filter (fun p => !p.hr) = l5J 6 a b := by
  unfold l5J
  rw [List.filter_flatMap]
  exact flatMap_congr' fun key _ => one_left _ _
/-- How many of the first i are left alone. -/
def aloneN (l : List PairV) (i : Nat) : Nat := (l.take i).countP fun p => !p.hr
theorem aloneN_zero (l : List PairV) : aloneN l 0 = 0 := rfl
theorem aloneN_yes {l : List PairV} {i : Nat} {p : PairV} (h : l[i]? = some p) (hr : p.hr = false) : aloneN l (i + 1) = aloneN l i + 1 := by
  unfold aloneN
  rw [List.take_add_one, h, Option.toList_some, List.countP_append]
  simp [hr]
theorem aloneN_no {l : List PairV} {i : Nat} {p : PairV} (h : l[i]? = some p) (hr : p.hr = true) : aloneN l (i + 1) = aloneN l i := by
  unfold aloneN
  rw [List.take_add_one, h, Option.toList_some, List.countP_append]
  simp [hr]
theorem alone_at {l : List PairV} {i : Nat} {p : PairV} (h : l[i]? = some p) (hr : p.hr = false) : (l.filter fun p => !p.hr)[aloneN l i]? = some p := by
  obtain ⟨hi, e⟩ := List.getElem?_eq_some_iff.1 h
  have hs : l = l.take i ++ p :: l.drop (i + 1) := by
    rw [← e, ← List.drop_eq_getElem_cons hi, List.take_append_drop]
  unfold aloneN
  rw [List.countP_eq_length_filter]
  have e2 : (l.filter fun p => !p.hr) = ((l.take i).filter fun p => !p.hr) ++ p :: ((l.drop (i + 1)).filter fun p => !p.hr) := by
    have e3 := congrArg (List.filter fun p : PairV => !p.hr) hs
    rw [List.filter_append, List.filter_cons_of_pos (by simp [hr])] at e3
    exact e3
  rw [e2, List.getElem?_append_right (Nat.le_refl _), Nat.sub_self]
  rfl
theorem aloneN_all {l : List PairV} {i : Nat} (h : l.length ≤ i) : aloneN l i = (l.filter fun p => !p.hr).length := by
  unfold aloneN
  rw [List.take_of_length_le h, List.countP_eq_length_filter]
theorem aloneN_le (l : List PairV) (i : Nat) : aloneN l i ≤ i := by
  unfold aloneN
  have := List.countP_le_length (p := fun p : PairV => !p.hr) (l := l.take i)
  rw [List.length_take] at this
  omega
end Go.Proofs.Ytnmlnenepceabaa

namespace Go.Proofs.Ytnmlnenepceabaa
open Go.RowKit
theorem rising_sublist : ∀ {K L : List ByteArray}, Rising K → Rising L → (∀ x ∈ K, x ∈ L) → K.Sublist L
  | [], L, _, _, _ => List.nil_sublist L
  | k :: K, [], _, _, h => by have := h k (List.mem_cons_self); cases this
  | k :: K, y :: L, hK, hL, h => by
    obtain ⟨k1, k2⟩ := List.pairwise_cons.1 hK
    obtain ⟨l1, l2⟩ := List.pairwise_cons.1 hL
    by_cases e : k = y
    · subst e
      refine List.Sublist.cons_cons _ (rising_sublist k2 l2 fun x hx => ?_)
      refine (List.mem_cons.1 (h x (List.mem_cons_of_mem _ hx))).resolve_left fun e => ?_
      subst e
      have := k1 x hx
      rw [bl_irrefl] at this; cases this
    · refine List.Sublist.cons _ (rising_sublist hK l2 fun x hx => ?_)
      refine (List.mem_cons.1 (h x hx)).resolve_left fun e2 => ?_
      subst e2
      have hk : k ∈ L := (List.mem_cons.1 (h k (List.mem_cons_self))).resolve_left e
      have h1 := l1 k hk
      rcases List.mem_cons.1 hx with e3 | hx
      · exact e e3.symm
      · have h2 := k1 x hx
        rw [bl_asymm h1] at h2; cases h2
theorem flatMap_sub {α β : Type} {f g : α → List β} (h : ∀ x, (f x).Sublist (g x)) : ∀ l : List α, (l.flatMap f).Sublist (l.flatMap g)
  | [] => List.Sublist.refl _
  | x :: l => by
    rw [List.flatMap_cons, List.flatMap_cons]
    exact (h x).append (flatMap_sub h l)
theorem sub_flatMap {α β : Type} (f : α → List β) : ∀ {k l : List α}, k.Sublist l → (k.flatMap f).Sublist (l.flatMap f)
  | _, _, .slnil => List.Sublist.refl _
  | _, _, .cons x h => by
    rw [List.flatMap_cons]
    exact (sub_flatMap f h).trans (List.sublist_append_right _ _)
  | _, _, .cons_cons x h => by
    rw [List.flatMap_cons, List.flatMap_cons]
    exact (List.Sublist.refl _).append (sub_flatMap f h)
theorem ins_sub (r : RowV) (l : List RowV) : l.Sublist (ins r l) := by
  unfold ins
  have h : (l.take (insPos r l) ++ l.drop (insPos r l)).Sublist (l.take (insPos r l) ++ [r] ++ l.drop (insPos r l)) :=
    (List.sublist_append_left _ _).append (List.Sublist.refl _)
  rwa [List.take_append_drop] at h
theorem vals_sub (b : List RowV) (r : RowV) (key : ByteArray) : (valsK (sortL b) key).Sublist (valsK (sortL (b ++ [r])) key) := by
  rw [sortL_snoc]
  unfold valsK
  exact ((ins_sub r (sortL b)).filter _).map _
theorem keys_sub (a b : List RowV) (r : RowV) : (keysOf (sortL (a ++ b))).Sublist (keysOf (sortL (a ++ (b ++ [r])))) := by
  refine rising_sublist (keys_all a b).1 (keys_all a (b ++ [r])).1 fun x hx => ?_
  rw [(keys_all a (b ++ [r])).2]
  rcases ((keys_all a b).2 x).1 hx with h | ⟨q, hq, e⟩
  · exact .inl h
  · exact .inr ⟨q, List.mem_append_left _ hq, e⟩
theorem join_sub {n : Int} (hn : ∀ key (v u u' : List ByteArray), u.Sublist u' → (oneK n key v u).Sublist (oneK n key v u')) (a b : List RowV) (r : RowV) : (l5J n a b).Sublist (l5J n a (b ++ [r])) := by
  unfold l5J
  exact (sub_flatMap _ (keys_sub a b r)).trans (flatMap_sub (fun key => hn key _ _ _ (vals_sub b r key)) _)
theorem one_inner (key : ByteArray) (v u : List ByteArray) : oneK 1 key v u = v.flatMap fun x => u.map (bothP key x) := by
  simp only [oneK]; simp; rfl
theorem one_semi_of (key : ByteArray) (v u : List ByteArray) : oneK 5 key v u = if u.length = 0 then [] else v.map (leftP key) := by
  cases u with
  | nil => simp only [oneK]; simp [flatMap_none]
  | cons y u => simp only [oneK]; simp [flatMap_one, leftP]
theorem inner_sub (a b : List RowV) (r : RowV) : (l5J 1 a b).Sublist (l5J 1 a (b ++ [r])) := by
  refine join_sub (fun key v u u' h => ?_) a b r
  rw [one_inner, one_inner]
  exact flatMap_sub (fun x => h.map _) v
theorem anti_less (a b : List RowV) (r : RowV) : (l5J 6 a (b ++ [r])).length ≤ (l5J 6 a b).length := by
  have h : (l5J 5 a b).Sublist (l5J 5 a (b ++ [r])) := by
    refine join_sub (fun key v u u' h => ?_) a b r
    rw [one_semi_of, one_semi_of]
    have hl := h.length_le
    split
    · exact List.nil_sublist _
    · rw [if_neg (by omega)]
      exact List.Sublist.refl _
  have h1 := h.length_le
  have h2 := semi_anti_length a b
  have h3 := semi_anti_length a (b ++ [r])
  omega
/-- One step of finding one list in another. -/
theorem sub_step {x y : PairV} {l f : List PairV} (h : (y :: f).Sublist (x :: l)) : (x = y → f.Sublist l) ∧ (x ≠ y → (y :: f).Sublist l) := by
  constructor
  · rintro rfl
    exact List.cons_sublist_cons.1 h
  · intro hne
    cases h with
    | cons _ h => exact h
    | cons_cons _ h => exact absurd rfl hne
end Go.Proofs.Ytnmlnenepceabaa

namespace Go.Proofs.Ytnmlnenepceabaa
open Go.RowKit
theorem filter_sorted5 (l : List RowV) (p : RowV → Bool) : (sortL l).filter p = sortL (l.filter p) :=
  sortL_unique (List.Pairwise.sublist List.filter_sublist (sortL_asc l)) ((sortL_perm' l).filter p)
theorem rising_eq {K L : List ByteArray} (hK : Rising K) (hL : Rising L) (h : ∀ x, x ∈ K ↔ x ∈ L) : K = L :=
  (rising_sublist hK hL fun x hx => (h x).1 hx).eq_of_length_le (rising_sublist hL hK fun x hx => (h x).2 hx).length_le
theorem flatMap_filter_none {α β : Type} {f : α → List β} {q : α → Bool} (h : ∀ x, q x = false → f x = []) : ∀ l : List α, l.flatMap f = (l.filter q).flatMap f
  | [] => rfl
  | x :: l => by
    have ih := flatMap_filter_none h l
    cases hq : q x
    · rw [List.flatMap_cons, h x hq, List.filter_cons_of_neg (by rw [hq]; decide), ih]; rfl
    · rw [List.flatMap_cons, List.filter_cons_of_pos hq, List.flatMap_cons, ih]
theorem valsK_mem {l : List RowV} {key : ByteArray} : valsK l key ≠ [] ↔ ∃ r ∈ l, r.key = key := by
  unfold valsK
  rw [Ne, List.map_eq_nil_iff, List.filter_eq_nil_iff]
  constructor
  · intro h
    have h' : ∃ r, r ∈ l ∧ isKey key r = true := by
      apply Classical.byContradiction
      intro h2
      exact h fun r hr hk => h2 ⟨r, hr, hk⟩
    obtain ⟨r, hr, hk⟩ := h'
    exact ⟨r, hr, isKey_iff.1 hk⟩
  · rintro ⟨r, hr, e⟩ h
    exact h r hr (isKey_iff.2 e)
/-- A join that tells nothing of a key that the right side lacks goes by the keys of the right side. -/
theorem by_right {n : Int} (hn : ∀ key v, oneK n key v [] = []) (a b : List RowV) : l5J n a b = (keysOf (sortL b)).flatMap fun key => oneK n key (valsK (sortL a) key) (valsK (sortL b) key) := by
  unfold l5J
  rw [flatMap_filter_none (q := fun key => !(valsK (sortL b) key).isEmpty) (fun key h => by
    have : valsK (sortL b) key = [] := by simpa using h
    rw [this]; exact hn _ _)]
  congr 1
  refine rising_eq (List.Pairwise.filter _ (keys_all a b).1) (keysOf_rising (asc_keys (sortL_asc b))) fun x => ?_
  rw [List.mem_filter, (keys_all a b).2, keysOf_mem]
  have e : (!(valsK (sortL b) x).isEmpty) = true ↔ ∃ r ∈ sortL b, r.key = x := by
    rw [← valsK_mem]; simp
  rw [e]
  constructor
  · exact fun h => h.2
  · rintro ⟨r, hr, hk⟩
    exact ⟨.inr ⟨r, (sortL_perm' b).mem_iff.1 hr, hk⟩, r, hr, hk⟩
theorem join_passed {n : Int} (hn : ∀ key v, oneK n key v [] = []) {a b : List RowV} {p : RowV → Bool} (hp : ∀ r ∈ a, (∃ q ∈ b, q.key = r.key) → p r = true) : l5J n (a.filter p) b = l5J n a b := by
  rw [by_right hn, by_right hn]
  refine flatMap_congr' fun key hkey => ?_
  obtain ⟨q, hq, e⟩ := (keysOf_mem _ _).1 hkey
  have hv : valsK (sortL (a.filter p)) key = valsK (sortL a) key := by
    rw [← filter_sorted5]
    unfold valsK
    rw [List.filter_filter]
    congr 1
    refine List.filter_congr fun r hr => ?_
    cases hk : isKey key r
    · rfl
    · rw [hp r ((sortL_perm' a).mem_iff.1 hr) ⟨q, (sortL_perm' b).mem_iff.1 hq, by rw [e, isKey_iff.1 hk]⟩]; rfl
  rw [hv]
theorem inner_none (key : ByteArray) (v : List ByteArray) : oneK 1 key v [] = [] := by
  rw [one_inner]
  exact flatMap_none v
theorem semi_none (key : ByteArray) (v : List ByteArray) : oneK 5 key v [] = [] := by
  rw [one_semi_of]; rfl
end Go.Proofs.Ytnmlnenepceabaa

namespace Go.Proofs.Ytnmlnenepceabaa
open Go.RowKit
theorem groups_of : ∀ (n : Nat) (l : List RowV), l.length ≤ n → KAsc l →
    (∀ g ∈ groupsR l, g.2 = l.filter (isKey g.1) ∧ ∃ r ∈ l, r.key = g.1) ∧ Rising ((groupsR l).map (·.1)) ∧ ∀ r ∈ l, r.key ∈ (groupsR l).map (·.1)
  | _, [], _, _ => ⟨fun g hg => by simp [groupsR_nil] at hg, List.Pairwise.nil, fun r hr => by cases hr⟩
  | 0, _ :: _, h, _ => by simp at h
  | n + 1, r :: l, h, ha => by
    have hge : ∀ x ∈ r :: l, Op.bytesLess x.key.toList r.key.toList = false := by
      intro x hx
      rcases List.mem_cons.1 hx with rfl | hx
      · exact bl_irrefl _
      · exact (List.pairwise_cons.1 ha).1 x hx
    obtain ⟨h1, h2⟩ := lead_filter ha hge
    have hp := leadN_pos r l
    have hl2 : ((r :: l).drop (leadN r.key (r :: l))).length ≤ n := by
      rw [List.length_drop]
      rw [List.length_cons] at h ⊢
      omega
    obtain ⟨g1, g2, g3⟩ := groups_of n _ hl2 (ha.drop _)
    rw [groupsR_next, h1]
    generalize hd : (r :: l).drop (leadN r.key (r :: l)) = d at *
    have hne : ∀ x ∈ d, x.key ≠ r.key := by
      intro x hx e
      rw [h2, List.mem_filter] at hx
      have := isKey_iff.2 e
      rw [this] at hx
      exact absurd hx.2 (by decide)
    refine ⟨?_, ?_, ?_⟩
    · intro g hg
      rcases List.mem_cons.1 hg with rfl | hg
      · exact ⟨rfl, r, List.mem_cons_self, rfl⟩
      · obtain ⟨e1, x, hx, e2⟩ := g1 g hg
        have hgk : g.1 ≠ r.key := by rw [← e2]; exact hne x hx
        refine ⟨?_, x, ?_, e2⟩
        · rw [e1, h2, List.filter_filter]
          refine List.filter_congr fun y _ => ?_
          cases e : isKey g.1 y
          · rfl
          · have e3 := isKey_iff.1 e
            have : isKey r.key y = false := by
              cases e4 : isKey r.key y
              · rfl
              · exact absurd ((e3.symm.trans (isKey_iff.1 e4))) hgk
            rw [this]; rfl
        · rw [h2, List.mem_filter] at hx
          exact hx.1
    · rw [List.map_cons]
      refine List.pairwise_cons.2 ⟨?_, g2⟩
      intro k hk
      obtain ⟨g, hg, rfl⟩ := List.mem_map.1 hk
      obtain ⟨_, x, hx, e2⟩ := g1 g hg
      show Op.bytesLess r.key.toList g.1.toList = true
      rw [← e2]
      have hxm : x ∈ r :: l := by
        rw [h2, List.mem_filter] at hx
        exact hx.1
      rcases bl_total (hge x hxm) with e3 | e3
      · exact absurd (ext_toList e3).symm (by first | exact hne x hx | exact fun e => hne x hx e.symm)
      · exact e3
    · intro x hx
      rw [List.map_cons]
      by_cases e : x.key = r.key
      · rw [e]; exact List.mem_cons_self
      · refine List.mem_cons_of_mem _ (g3 x ?_)
        rw [h2, List.mem_filter]
        refine ⟨hx, ?_⟩
        cases e4 : isKey r.key x
        · rfl
        · exact absurd (isKey_iff.1 e4) e
theorem groups_keys {l : List RowV} (h : KAsc l) : (groupsR l).map (·.1) = keysOf l := by
  obtain ⟨h1, h2, h3⟩ := groups_of _ l (Nat.le_refl _) h
  refine rising_eq h2 (keysOf_rising h) fun x => ?_
  rw [keysOf_mem]
  constructor
  · intro hx
    obtain ⟨g, hg, rfl⟩ := List.mem_map.1 hx
    exact (h1 g hg).2
  · rintro ⟨r, hr, rfl⟩
    exact h3 r hr
/-- How many rows have a key. -/
def manyK (l : List RowV) (key : ByteArray) : Nat := l.countP (isKey key)
theorem manyK_le (l : List RowV) (key : ByteArray) : manyK l key ≤ l.length := List.countP_le_length
theorem groups_many {l : List RowV} (h : KAsc l) : ∀ g ∈ groupsR l, g.2.length = manyK l g.1 := by
  intro g hg
  rw [((groups_of _ l (Nat.le_refl _) h).1 g hg).1, manyK, List.countP_eq_length_filter]
/-- The keys of more than so many rows: of groups, and of keys. -/
def skewG (M : Nat) (gs : List (ByteArray × List RowV)) : List ByteArray := (gs.filter fun g => decide (M < g.2.length)).map (·.1)
def skewK (M : Nat) (rs : List RowV) (K : List ByteArray) : List ByteArray := K.filter fun k => decide (M < manyK rs k)
theorem filter_map_congr {α β : Type} {f : α → β} {p : α → Bool} {q : β → Bool} : ∀ {l : List α}, (∀ x ∈ l, p x = q (f x)) → (l.filter p).map f = (l.map f).filter q
  | [], _ => rfl
  | x :: l, h => by
    have ih := filter_map_congr (l := l) (fun y hy => h y (List.mem_cons_of_mem _ hy))
    have hx := h x List.mem_cons_self
    rw [List.map_cons, List.filter_cons, List.filter_cons, ← hx]
    cases p x
    · exact ih
    · rw [if_pos rfl, if_pos rfl, List.map_cons, ih]
theorem many_sort (rs : List RowV) (k : ByteArray) : manyK (sortL rs) k = manyK rs k := (sortL_perm' rs).countP_eq _
theorem skew_same (M : Nat) (rs : List RowV) : skewG M (groupsR (sortL rs)) = skewK M rs (keysOf (sortL rs)) := by
  have ha : KAsc (sortL rs) := asc_keys (sortL_asc rs)
  unfold skewG skewK
  rw [← groups_keys ha]
  refine filter_map_congr fun g hg => ?_
  rw [groups_many ha g hg, many_sort]
theorem skewG_snoc (M : Nat) (gs : List (ByteArray × List RowV)) (g : ByteArray × List RowV) : skewG M (gs ++ [g]) = skewG M gs ++ (if M < g.2.length then [g.1] else []) := by
  unfold skewG
  rw [List.filter_append, List.map_append]
  congr 1
  by_cases h : M < g.2.length
  · rw [if_pos h]; simp [h]
  · rw [if_neg h]; simp [h]
theorem skewG_le (M : Nat) (gs : List (ByteArray × List RowV)) : (skewG M gs).length ≤ gs.length := by
  unfold skewG
  rw [List.length_map]
  exact List.length_filter_le _ _
theorem skewK_take {M : Nat} {rs : List RowV} {K : List ByteArray} {i : Nat} {k : ByteArray} (h : K[i]? = some k) : skewK M rs (K.take (i + 1)) = skewK M rs (K.take i) ++ (if M < manyK rs k then [k] else []) := by
  rw [List.take_add_one, h, Option.toList_some]
  unfold skewK
  rw [List.filter_append]
  congr 1
  by_cases h : M < manyK rs k
  · rw [if_pos h]; simp [h]
  · rw [if_neg h]; simp [h]
theorem skewK_le (M : Nat) (rs : List RowV) (K : List ByteArray) : (skewK M rs K).length ≤ K.length := List.length_filter_le _ _
theorem manyK_take {l : List RowV} {i : Nat} {r : RowV} {key : ByteArray} (h : l[i]? = some r) : manyK (l.take (i + 1)) key = manyK (l.take i) key + (if isKey key r = true then 1 else 0) := by
  rw [List.take_add_one, h, Option.toList_some]
  unfold manyK
  rw [List.countP_append, List.countP_singleton]
def skewedB (rs : List RowV) (N : Int) : Bool := rowsOk rs && decide (0 ≤ N)
def skewedS (rs : List RowV) (N : Int) : List ByteArray := if skewedB rs N = true then skewK N.toNat rs (keysOf (sortL rs)) else []
theorem skewedS_le (rs : List RowV) (N : Int) : (skewedS rs N).length ≤ 1048576 := by
  unfold skewedS
  split
  · rename_i h
    simp only [skewedB, Bool.and_eq_true] at h
    have h1 := rowsOk_le5 h.1
    have h2 := skewK_le N.toNat rs (keysOf (sortL rs))
    have h3 := keysOf_le (sortL rs)
    rw [sortL_length] at h3
    omega
  · exact Nat.zero_le _
end Go.Proofs.Ytnmlnenepceabaa

namespace Go.Proofs.Ytnmlnenepceabaa
open Go.RowKit Go.Maps
theorem tens_le9 : ∀ k, k ≤ 9 → tens k ≤ 1000000000 := by decide
theorem numOf_bd (s : ByteArray) : 0 ≤ numOf s ∧ numOf s ≤ 999999999 := by
  unfold numOf
  split
  · omega
  · rename_i h
    split
    · rename_i h2
      have hs : s.data.toList.length ≤ 9 := by
        have hz : s.size ≤ 9 := by
          rcases Nat.lt_or_ge 9 s.size with h9 | h9
          · exact absurd (by unfold noForm; simp [h9]) h
          · exact h9
        simpa using hz
      have b := numL_bd _ _ rfl h2
      have := tens_le9 _ hs
      omega
    · omega
def nV (r : RowV) : Int := numOf r.val
/-- One number of rows by a function of two, beginning with the first. -/
def foldV (c : Int → Int → Int) : List RowV → Int
  | [] => 0
  | r :: l => l.foldl (fun n x => c n (nV x)) (nV r)
theorem foldV_first (c : Int → Int → Int) (r : RowV) : foldV c [r] = nV r := rfl
theorem foldV_snoc (c : Int → Int → Int) {l : List RowV} (h : l ≠ []) (r : RowV) : foldV c (l ++ [r]) = c (foldV c l) (nV r) := by
  cases l with
  | nil => exact absurd rfl h
  | cons x l => simp [foldV, List.foldl_append]
theorem foldV_take (c : Int → Int → Int) {l : List RowV} {k : Nat} {r : RowV} (hk : 0 < k) (h : l[k]? = some r) : foldV c (l.take (k + 1)) = c (foldV c (l.take k)) (nV r) := by
  have hl := (List.getElem?_eq_some_iff.1 h).1
  rw [List.take_add_one, h, Option.toList_some]
  refine foldV_snoc c (fun e => ?_) r
  have := congrArg List.length e
  rw [List.length_take, List.length_nil] at this
  omega
theorem foldV_one (c : Int → Int → Int) {l : List RowV} {r : RowV} (h : l[0]? = some r) : foldV c (l.take 1) = nV r := by
  cases l with
  | nil => simp at h
  | cons x l => simp at h; subst h; rfl
def sumV (l : List RowV) : Int := (l.map nV).sum
theorem sumV_take {l : List RowV} {k : Nat} {r : RowV} (h : l[k]? = some r) : sumV (l.take (k + 1)) = sumV (l.take k) + nV r := by
  rw [List.take_add_one, h, Option.toList_some]
  simp [sumV]
theorem sumV_bd : ∀ l : List RowV, 0 ≤ sumV l ∧ sumV l ≤ 999999999 * l.length
  | [] => by simp [sumV]
  | r :: l => by
    have ih := sumV_bd l
    have h := numOf_bd r.val
    have e : sumV (r :: l) = nV r + sumV l := by simp [sumV]
    rw [e, List.length_cons]
    unfold nV
    omega
theorem sumV_part (l : List RowV) (k : Nat) : 0 ≤ sumV (l.take k) ∧ sumV (l.take k) ≤ 999999999 * l.length := by
  have h := sumV_bd (l.take k)
  have hl : (l.take k).length ≤ l.length := by rw [List.length_take]; omega
  omega
theorem sum_fold : ∀ (l : List RowV) (n : Int), l.foldl (fun n x => n + nV x) n = n + sumV l
  | [], n => by simp [sumV]
  | r :: l, n => by
    rw [List.foldl_cons, sum_fold l]
    have e : sumV (r :: l) = nV r + sumV l := by simp [sumV]
    omega
theorem foldV_sum (l : List RowV) : foldV (· + ·) l = sumV l := by
  cases l with
  | nil => rfl
  | cons r l =>
    show l.foldl (fun n x => n + nV x) (nV r) = _
    rw [sum_fold]
    simp [sumV]
theorem foldV_bd {c : Int → Int → Int} (hc : ∀ a b, c a b = a ∨ c a b = b) : ∀ l : List RowV, 0 ≤ foldV c l ∧ foldV c l ≤ 999999999 := by
  intro l
  rcases List.eq_nil_or_concat l with rfl | ⟨l, r, rfl⟩
  · simp [foldV]
  · rw [List.concat_eq_append]
    have hr := numOf_bd r.val
    by_cases e : l = []
    · subst e
      exact hr
    · rw [foldV_snoc c e]
      have ih := foldV_bd hc l
      rcases hc (foldV c l) (nV r) with h | h
      · rw [h]; exact ih
      · rw [h]; exact hr
termination_by l => l.length
decreasing_by simp_all
theorem min_or (a b : Int) : min a b = a ∨ min a b = b := by omega
theorem max_or (a b : Int) : max a b = a ∨ max a b = b := by omega
/-- Is a value among those of rows? -/
def hasV (l : List RowV) (v : ByteArray) : Bool := l.any fun r => r.val.toList == v.toList
theorem hasV_snoc (l : List RowV) (r : RowV) (v : ByteArray) : hasV (l ++ [r]) v = (hasV l v || (r.val.toList == v.toList)) := by simp [hasV]
theorem hasV_take {l : List RowV} {k : Nat} {r : RowV} (v : ByteArray) (h : l[k]? = some r) : hasV (l.take (k + 1)) v = (hasV (l.take k) v || (r.val.toList == v.toList)) := by
  rw [List.take_add_one, h, Option.toList_some, hasV_snoc]
/-- How many different values rows have. -/
def kindsV : List RowV → Nat
  | [] => 0
  | r :: l => kindsV l + (if hasV l r.val = true then 0 else 1)
theorem hasV_mem {l : List RowV} {v : ByteArray} : hasV l v = true ↔ ∃ r ∈ l, r.val = v := by
  unfold hasV
  rw [List.any_eq_true]
  constructor
  · rintro ⟨r, hr, h⟩
    exact ⟨r, hr, ext_toList (eq_of_beq h)⟩
  · rintro ⟨r, hr, rfl⟩
    exact ⟨r, hr, by simp⟩
theorem hasV_cons (x : RowV) (l : List RowV) (v : ByteArray) : hasV (x :: l) v = ((x.val.toList == v.toList) || hasV l v) := rfl
theorem kindsV_snoc : ∀ (l : List RowV) (r : RowV), kindsV (l ++ [r]) = kindsV l + (if hasV l r.val = true then 0 else 1)
  | [], r => rfl
  | x :: l, r => by
    rw [List.cons_append, kindsV, kindsV, kindsV_snoc l r, hasV_snoc, hasV_cons]
    have h4 : (x.val.toList == r.val.toList) = (r.val.toList == x.val.toList) := by
      rw [Bool.eq_iff_iff, beq_iff_eq, beq_iff_eq]; exact eq_comm
    have h5 : (r.val.toList == x.val.toList) = true → hasV l x.val = hasV l r.val := fun h3 => by rw [ext_toList (eq_of_beq h3)]
    rw [h4]
    generalize hasV l x.val = p at *
    generalize hasV l r.val = q at *
    generalize (r.val.toList == x.val.toList) = t at *
    cases t
    · cases p <;> cases q <;> simp
    · have h6 := h5 rfl
      subst h6
      cases p <;> simp
theorem kindsV_take {l : List RowV} {k : Nat} {r : RowV} (h : l[k]? = some r) : kindsV (l.take (k + 1)) = kindsV (l.take k) + (if hasV (l.take k) r.val = true then 0 else 1) := by
  rw [List.take_add_one, h, Option.toList_some, kindsV_snoc]
theorem kindsV_le : ∀ l : List RowV, kindsV l ≤ l.length
  | [] => Nat.le_refl _
  | r :: l => by
    have := kindsV_le l
    rw [kindsV, List.length_cons]
    split <;> omega
/-- What a kind tells of rows. -/
def totV (n : Int) (l : List RowV) : Int :=
  if n = 1 then l.length else if n = 2 then sumV l else if n = 3 then foldV min l else if n = 4 then foldV max l else kindsV l
theorem totV_bd (n : Int) (l : List RowV) (h : l.length ≤ 120) : 0 ≤ totV n l ∧ totV n l ≤ 999999999 * 120 := by
  have h2 := sumV_bd l
  have h3 := foldV_bd min_or l
  have h4 := foldV_bd max_or l
  have h5 := kindsV_le l
  unfold totV
  split
  · omega
  · split
    · omega
    · split
      · omega
      · split <;> omega
/-- The totals of groups. -/
def totG (n : Int) (gs : List (ByteArray × List RowV)) : List TotV := gs.map fun g => ⟨g.1, totV n g.2⟩
theorem totG_length (n : Int) (gs : List (ByteArray × List RowV)) : (totG n gs).length = gs.length := List.length_map _
theorem totG_snoc (n : Int) (gs : List (ByteArray × List RowV)) (g : ByteArray × List RowV) : totG n (gs ++ [g]) = totG n gs ++ [⟨g.1, totV n g.2⟩] := by simp [totG]
theorem totG_take {n : Int} {gs : List (ByteArray × List RowV)} {k : Nat} {key : ByteArray} {l : List RowV} (h : gs[k]? = some (key, l)) : totG n (gs.take (k + 1)) = totG n (gs.take k) ++ [⟨key, totV n l⟩] := by
  rw [List.take_add_one, h, Option.toList_some, totG_snoc]
def reducedB (rs : List RowV) (n : Int) : Bool := rowsOk rs && (decide (1 ≤ n) && decide (n ≤ 5))
def reducedS (rs : List RowV) (n : Int) : List TotV := if reducedB rs n = true then totG n (groupsR (sortL rs)) else []
theorem reducedS_le (rs : List RowV) (n : Int) : (reducedS rs n).length ≤ 120 := by
  unfold reducedS
  split
  · rename_i h
    simp only [reducedB, Bool.and_eq_true] at h
    have h1 := rowsOk_le5 h.1
    have h2 := groupsF_le (sortL rs).length (sortL rs)
    rw [sortL_length] at h2
    rw [totG_length]
    unfold groupsR
    rw [sortL_length]
    omega
  · exact Nat.zero_le _
/-- How many entries a set of the values has. -/
def keyV (r : RowV) : Lit := .string r.val.data.toList
theorem keyV_is (r : RowV) : WideAt.IsKeyLit (keyV r) := by unfold keyV; simp [WideAt.IsKeyLit]
def setV (l : List RowV) : List Lit := (l.map keyV).foldl addKey []
theorem setV_snoc (l : List RowV) (r : RowV) : setV (l ++ [r]) = addKey (setV l) (keyV r) := by simp [setV]
theorem keyV_eq {x y : RowV} (h : x.val = y.val) : keyV x = keyV y := by unfold keyV; rw [h]
theorem keyV_inj {x y : RowV} (h : keyV x = keyV y) : x.val = y.val := by
  unfold keyV at h
  injection h with h
  have h2 : x.val.data = y.val.data := by
    apply Array.ext'
    exact h
  exact ByteArray.ext h2
theorem setV_mem : ∀ (n : Nat) (l : List RowV), l.length ≤ n → ∀ y, y ∈ setV l ↔ ∃ r ∈ l, keyV r = y := by
  intro n
  induction n with
  | zero =>
    intro l h y
    obtain rfl : l = [] := List.length_eq_zero_iff.1 (by omega)
    simp [setV]
  | succ n ih =>
    intro l h y
    rcases List.eq_nil_or_concat l with rfl | ⟨l, r, rfl⟩
    · simp [setV]
    · rw [List.concat_eq_append] at h ⊢
      rw [List.length_append, List.length_singleton] at h
      have i := ih l (by omega)
      rw [setV_snoc]
      unfold addKey
      split
      · rename_i ha
        rw [i y]
        constructor
        · rintro ⟨x, hx, e⟩
          exact ⟨x, List.mem_append_left _ hx, e⟩
        · rintro ⟨x, hx, e⟩
          rcases List.mem_append.1 hx with hx | hx
          · exact ⟨x, hx, e⟩
          · rw [List.mem_singleton] at hx
            subst hx
            obtain ⟨z, hz, e2⟩ := List.any_eq_true.1 ha
            rw [WideAt.sameKey_iff (keyV_is x)] at e2
            obtain ⟨q, hq, e3⟩ := (i z).1 hz
            exact ⟨q, hq, by rw [e3, e2, e]⟩
      · rw [List.mem_append, List.mem_singleton, i y]
        constructor
        · rintro (⟨x, hx, e⟩ | e)
          · exact ⟨x, List.mem_append_left _ hx, e⟩
          · exact ⟨r, by simp, e.symm⟩
        · rintro ⟨x, hx, e⟩
          rcases List.mem_append.1 hx with hx | hx
          · exact .inl ⟨x, hx, e⟩
          · rw [List.mem_singleton] at hx
            subst hx
            exact .inr e.symm
theorem setV_has (l : List RowV) (r : RowV) : (setV l).any (fun y => y.sameKey (keyV r)) = hasV l r.val := by
  rw [Bool.eq_iff_iff, List.any_eq_true, hasV_mem]
  constructor
  · rintro ⟨z, hz, e⟩
    rw [WideAt.sameKey_iff (keyV_is r)] at e
    obtain ⟨q, hq, e2⟩ := (setV_mem _ l (Nat.le_refl _) z).1 hz
    exact ⟨q, hq, keyV_inj (by rw [e2, e])⟩
  · rintro ⟨q, hq, e⟩
    exact ⟨keyV q, (setV_mem _ l (Nat.le_refl _) _).2 ⟨q, hq, rfl⟩, (WideAt.sameKey_iff (keyV_is r)).2 (keyV_eq e)⟩
theorem setV_length (n : Nat) : ∀ l : List RowV, l.length ≤ n → (setV l).length = kindsV l := by
  induction n with
  | zero =>
    intro l h
    obtain rfl : l = [] := List.length_eq_zero_iff.1 (by omega)
    rfl
  | succ n ih =>
    intro l h
    rcases List.eq_nil_or_concat l with rfl | ⟨l, r, rfl⟩
    · rfl
    · rw [List.concat_eq_append] at h ⊢
      rw [List.length_append, List.length_singleton] at h
      rw [setV_snoc, kindsV_snoc, ← ih l (by omega)]
      unfold addKey
      rw [setV_has]
      cases hasV l r.val <;> simp
theorem size_kinds {H : Type} (u : DataW H) (l : List RowV) : Maps.size (setOf u (l.map keyV)) = kindsV l := by
  rw [size_setOf u (l.map keyV) (fun x hx => by obtain ⟨r, _, rfl⟩ := List.mem_map.1 hx; exact keyV_is r)]
  exact setV_length _ l (Nat.le_refl _)
end Go.Proofs.Ytnmlnenepceabaa

namespace Go.Proofs.Ytnmlnenepceabaa
open Go.RowKit Go.Shelf
attribute [local go_sem] Oper.semAt_some
def Box3 (W : World) (B : Nat) (r : RowV) : Prop := W.heap[B]? = some (.cells #[.string r.key, .int .i64 r.tag, .string r.val] 43 (0, 0))
theorem Box3.c0 {W : World} {B : Nat} {r : RowV} (h : Box3 W B r) : W.cell? ⟨B, 0, none⟩ = some (.string r.key) := by simp [World.cell?, show W.heap[B]? = _ from h]
theorem Box3.c1 {W : World} {B : Nat} {r : RowV} (h : Box3 W B r) : W.cell? ⟨B, 1, none⟩ = some (.int .i64 r.tag) := by simp [World.cell?, show W.heap[B]? = _ from h]
theorem Box3.c2 {W : World} {B : Nat} {r : RowV} (h : Box3 W B r) : W.cell? ⟨B, 2, none⟩ = some (.string r.val) := by simp [World.cell?, show W.heap[B]? = _ from h]
theorem Box3.own {X Y : World} {B n : Nat} {r : RowV} {row : Option Nat} (h : Box3 X B r) (hg : X.grownBy Y row) (hr : ∀ q, row = some q → n ≤ q ∧ ∃ o : Obj, X.heap[q]? = some o ∧ o.isCells = false) : Box3 Y B r := by
  refine (hg.block B (Array.getElem?_eq_some_iff.1 h).1 (fun e => ?_)).trans h
  obtain ⟨_, o, ho, hc⟩ := hr B e.symm
  rw [show X.heap[B]? = _ from h] at ho; cases ho; cases hc
theorem cell_row_new (W : World) (r : RowV) (t : TypeId) : ∀ j u, [Value.string r.key, .int .i64 r.tag, .string r.val][j]? = some u → (W.alloc (.cells #[.string r.key, .int .i64 r.tag, .string r.val] t)).cell? ((⟨W.heap.size, 0, none⟩ : Addr).add j) = some u := by
  intro j u hu
  rw [Addr.add_mid, Nat.zero_add]
  rcases j with _ | _ | _ | j <;> simp at hu <;> subst hu <;> simp [go_sem]
theorem flat_snoc (l : List RowV) (r : RowV) : flat (l ++ [r]) = flat l ++ [.string r.key, .int .i64 r.tag, .string r.val] := by rw [flat_append]; rfl
def CollOut (w : World) (ys : List RowV) (e : Ending) (W' : World) : Prop := ∃ v, e = .returned v ∧ W'.ownsRow w.heap.size 43 3 v ys.length (flat ys) ∧ Below w.heap.size w W'
end Go.Proofs.Ytnmlnenepceabaa

namespace Go.Proofs.Ytnmlnenepceabaa
open Go.RowKit Go.Maps Go.WideMaps
theorem numV_ok {l : List RowV} {k : Nat} {r : RowV} (h : ∀ r ∈ l, r.Ok) (hr : l[k]? = some r) : r.val.size ≤ maxLen := (h r (List.mem_of_getElem? hr)).2.2
set_option maxRecDepth 100000 in
theorem numberOfRows_any (a : Option Addr) (n cap : Nat) (w : World) : Calls Try.prog 105 #[.slice a n cap] w fun e w' => e = .returned (.int .i64 n) ∧ w' = w := by
  go_enter Try.func105, Try.ntmps105
  go_wp2
  go_ret
  exact ⟨rfl, rfl⟩
set_option maxRecDepth 100000 in
theorem plus_any (x y : Int) (w : World) (hx : 0 ≤ x ∧ x ≤ 999999999 * 120) (hy : 0 ≤ y ∧ y ≤ 999999999) : Calls Try.prog 106 #[.int .i64 x, .int .i64 y] w fun e w' => e = .returned (.int .i64 (x + y)) ∧ w' = w := by
  have hw : IntKind.i64.wrap (x + y) = x + y := IntWalk.i64_in _ (by omega)
  go_enter Try.func106, Try.ntmps106
  go_wp2
  go_ret
  exact ⟨by simp [go_sem], rfl⟩
set_option maxRecDepth 100000 in
theorem lesser_any (x y : Int) (w : World) (_hx : 0 ≤ x ∧ x ≤ 999999999 * 120) (_hy : 0 ≤ y ∧ y ≤ 999999999) : Calls Try.prog 108 #[.int .i64 x, .int .i64 y] w fun e w' => e = .returned (.int .i64 (min x y)) ∧ w' = w := by
  go_enter Try.func108, Try.ntmps108
  go_wp2
  go_ret
  exact ⟨rfl, rfl⟩
set_option maxRecDepth 100000 in
theorem greater_any (x y : Int) (w : World) (_hx : 0 ≤ x ∧ x ≤ 999999999 * 120) (_hy : 0 ≤ y ∧ y ≤ 999999999) : Calls Try.prog 109 #[.int .i64 x, .int .i64 y] w fun e w' => e = .returned (.int .i64 (max x y)) ∧ w' = w := by
  go_enter Try.func109, Try.ntmps109
  go_wp2
  go_ret
  exact ⟨rfl, rfl⟩
theorem sum_bd120 (l : List RowV) (h : l.length ≤ 120) : 0 ≤ foldV (· + ·) l ∧ foldV (· + ·) l ≤ 999999999 * 120 := by
  rw [foldV_sum]
  have := sumV_bd l
  omega
theorem least_bd120 (l : List RowV) (_h : l.length ≤ 120) : 0 ≤ foldV min l ∧ foldV min l ≤ 999999999 * 120 := by
  have := foldV_bd min_or l
  omega
theorem most_bd120 (l : List RowV) (_h : l.length ≤ 120) : 0 ≤ foldV max l ∧ foldV max l ≤ 999999999 * 120 := by
  have := foldV_bd max_or l
  omega
set_option maxRecDepth 100000 in
set_option maxHeartbeats 2000000 in
theorem over_plus (a : Option Addr) (n cap B n₀ : Nat) (rs : List RowV) (w : World) (h1 : 1 ≤ n) (hm : n ≤ 120) (hnc : n ≤ cap) (hok : ∀ r ∈ rs, r.Ok) (hn : n₀ ≤ w.heap.size) (hR : Rd w n₀ 3 a n (flat rs)) (hBc : w.cell? ⟨B, 0, none⟩ = some (.func (.func 106) #[] #[])) (hB : B < w.heap.size) :
    Calls Try.prog 135 #[.slice a n cap, .pointer (some ⟨B, 0, none⟩)] w fun e w' => e = .returned (.int .i64 (foldV (· + ·) rs)) ∧ Below w.heap.size w w' := by
  have hl := Lib.hid hR.rows_length
  have hRn := hR.more hn
  have hRt := Lib.hid (hRn.from_ (k := 1) h1 hnc)
  obtain ⟨b, off, r, rfl, hb0, hr, _, _, c2⟩ := hRn.row (show 0 < n by omega)
  have hv := numV_ok hok hr
  have HO := Lib.hid (foldV_one (· + ·) hr)
  have HC := Lib.hid hok
  clear hr hok hRn
  obtain ⟨rk, rt, rv⟩ := r
  have CN := fun s (w : World) (hs : s.size ≤ maxLen) => implNumberOf_any s w hs
  simp only at hv c2
  simp only [Nat.zero_mul, Nat.add_zero] at c2
  go_enter Try.func135, Try.ntmps135
  go_wp2_with fail
  refine (CN rv _ hv).mono ?_
  rintro e w1 ⟨rfl, rfl⟩
  clear c2
  have cB0 : ∀ wr, Below w.heap.size w wr → wr.cell? ⟨B, 0, none⟩ = some (.func (.func 106) #[] #[]) := fun wr h => (h.cell (p := ⟨B, 0, none⟩) hB).trans hBc
  have HF := Lib.hid cB0
  have HN := Lib.hid (fun k (h : rs.length ≤ 120) => sum_bd120 (rs.take k) (by rw [List.length_take]; omega))
  clear cB0 hBc
  by_cases hcap : cap = 1
  · obtain rfl : n = 1 := by omega
    have e : rs.take 1 = rs := List.take_of_length_le (by rw [hl.out]; omega)
    rw [e] at HO
    subst hcap
    go_wp2_with fail
    refine wp_loop_rounds 1 ?_
    rw [rounds_succ]
    go_wp2_with fail
    go_ret
    exact ⟨by rw [HO.out]; rfl, Below.refl _ _⟩
  · have hX : Rd w w.heap.size 3 (some ⟨b, off + 1 * 3, none⟩) (n - 1) (flat (rs.drop 1)) := by
      have h := hRt.out
      unfold fromA at h
      rw [if_neg hcap] at h
      simpa [Addr.add_mid] using h
    go_wp2_with fail
    go_loopw [4, 15] (fun v i wr => ∃ k : Nat, k ≤ n - 1 ∧ i = .int .i64 k ∧ v = .int .i64 (foldV (· + ·) (rs.take (k + 1))) ∧ Below w.heap.size w wr) (fun _ i _ => n - (intOf i).toNat)
    case atStart => exact ⟨0, Nat.zero_le _, rfl, by rw [HO.out]; rfl, Below.refl _ _⟩
    case round =>
      obtain ⟨k, hk, rfl, rfl, hb⟩ := hrel
      by_cases hlt : k < n - 1
      · obtain ⟨b2, o2, r2, e, hB2, hr2, d0, d1, d2⟩ := (hX.below hb (Nat.le_refl _)).row hlt
        injection e with e
        injection e with e1 e2 _
        subst e1 e2
        rw [List.getElem?_drop] at hr2
        have hv2 := numV_ok HC.out hr2
        have E := Lib.hid (foldV_take (· + ·) (k := k + 1) (by omega) (by rw [Nat.add_comm]; exact hr2))
        have hx := HN.out (k + 1) (by rw [hl.out]; omega)
        have hy := numOf_bd r2.val
        have cB := HF.out wr hb
        clear hr2
        obtain ⟨sk, st, sv⟩ := r2
        simp only at hv2 hy d0 d1 d2
        generalize hF : foldV (· + ·) (rs.take (k + 1)) = f at *
        clear hF
        have hnb := hb.alloc hb.size (.cells #[.string sk, .int .i64 st, .string sv] 43)
        have cBa : (wr.alloc (.cells #[.string sk, .int .i64 st, .string sv] 43)).cell? ⟨B, 0, none⟩ = some (.func (.func 106) #[] #[]) := ((bl1 wr _).cell (p := ⟨B, 0, none⟩) (Nat.lt_of_lt_of_le hB hb.size)).trans cB
        have cVa : (wr.alloc (.cells #[.string sk, .int .i64 st, .string sv] 43)).cell? ⟨wr.heap.size, 2, none⟩ = some (.string sv) := cell_row_new wr ⟨sk, st, sv⟩ _ 2 _ rfl
        go_wp2_with fail
        generalize wr.alloc (.cells #[.string sk, .int .i64 st, .string sv] 43) = wa at *
        go_quiet (first | (go_at_call 29; refine (CN _ _ hv2).mono ?_; rintro e wz ⟨rfl, rfl⟩; exact ⟨rfl, _, rfl⟩) | (go_at_call 106; refine (plus_any _ _ _ hx hy).mono ?_; rintro e wz ⟨rfl, rfl⟩; exact ⟨rfl, _, rfl⟩))
        have hb3 := below_drewN hnb nq
        generalize wa.drewN nq = w3 at *
        clear cB cBa cVa d0 d1 d2
        go_wp2_with fail
        go_roundw
        case rel => exact ⟨k + 1, by omega, by go_num, by rw [E.out]; rfl, hb3⟩
        case measure => simp [intOf]; omega
      · have e : rs.take (k + 1) = rs := List.take_of_length_le (by rw [hl.out]; omega)
        rw [e]
        go_wp2_with fail
        go_ret
        exact ⟨rfl, hb⟩
set_option maxRecDepth 100000 in
set_option maxHeartbeats 2000000 in
theorem over_lesser (a : Option Addr) (n cap B n₀ : Nat) (rs : List RowV) (w : World) (h1 : 1 ≤ n) (hm : n ≤ 120) (hnc : n ≤ cap) (hok : ∀ r ∈ rs, r.Ok) (hn : n₀ ≤ w.heap.size) (hR : Rd w n₀ 3 a n (flat rs)) (hBc : w.cell? ⟨B, 0, none⟩ = some (.func (.func 108) #[] #[])) (hB : B < w.heap.size) :
    Calls Try.prog 135 #[.slice a n cap, .pointer (some ⟨B, 0, none⟩)] w fun e w' => e = .returned (.int .i64 (foldV min rs)) ∧ Below w.heap.size w w' := by
  have hl := Lib.hid hR.rows_length
  have hRn := hR.more hn
  have hRt := Lib.hid (hRn.from_ (k := 1) h1 hnc)
  obtain ⟨b, off, r, rfl, hb0, hr, _, _, c2⟩ := hRn.row (show 0 < n by omega)
  have hv := numV_ok hok hr
  have HO := Lib.hid (foldV_one min hr)
  have HC := Lib.hid hok
  clear hr hok hRn
  obtain ⟨rk, rt, rv⟩ := r
  have CN := fun s (w : World) (hs : s.size ≤ maxLen) => implNumberOf_any s w hs
  simp only at hv c2
  simp only [Nat.zero_mul, Nat.add_zero] at c2
  go_enter Try.func135, Try.ntmps135
  go_wp2_with fail
  refine (CN rv _ hv).mono ?_
  rintro e w1 ⟨rfl, rfl⟩
  clear c2
  have cB0 : ∀ wr, Below w.heap.size w wr → wr.cell? ⟨B, 0, none⟩ = some (.func (.func 108) #[] #[]) := fun wr h => (h.cell (p := ⟨B, 0, none⟩) hB).trans hBc
  have HF := Lib.hid cB0
  have HN := Lib.hid (fun k (h : rs.length ≤ 120) => least_bd120 (rs.take k) (by rw [List.length_take]; omega))
  clear cB0 hBc
  by_cases hcap : cap = 1
  · obtain rfl : n = 1 := by omega
    have e : rs.take 1 = rs := List.take_of_length_le (by rw [hl.out]; omega)
    rw [e] at HO
    subst hcap
    go_wp2_with fail
    refine wp_loop_rounds 1 ?_
    rw [rounds_succ]
    go_wp2_with fail
    go_ret
    exact ⟨by rw [HO.out]; rfl, Below.refl _ _⟩
  · have hX : Rd w w.heap.size 3 (some ⟨b, off + 1 * 3, none⟩) (n - 1) (flat (rs.drop 1)) := by
      have h := hRt.out
      unfold fromA at h
      rw [if_neg hcap] at h
      simpa [Addr.add_mid] using h
    go_wp2_with fail
    go_loopw [4, 15] (fun v i wr => ∃ k : Nat, k ≤ n - 1 ∧ i = .int .i64 k ∧ v = .int .i64 (foldV min (rs.take (k + 1))) ∧ Below w.heap.size w wr) (fun _ i _ => n - (intOf i).toNat)
    case atStart => exact ⟨0, Nat.zero_le _, rfl, by rw [HO.out]; rfl, Below.refl _ _⟩
    case round =>
      obtain ⟨k, hk, rfl, rfl, hb⟩ := hrel
      by_cases hlt : k < n - 1
      · obtain ⟨b2, o2, r2, e, hB2, hr2, d0, d1, d2⟩ := (hX.below hb (Nat.le_refl _)).row hlt
        injection e with e
        injection e with e1 e2 _
        subst e1 e2
        rw [List.getElem?_drop] at hr2
        have hv2 := numV_ok HC.out hr2
        have E := Lib.hid (foldV_take min (k := k + 1) (by omega) (by rw [Nat.add_comm]; exact hr2))
        have hx := HN.out (k + 1) (by rw [hl.out]; omega)
        have hy := numOf_bd r2.val
        have cB := HF.out wr hb
        clear hr2
        obtain ⟨sk, st, sv⟩ := r2
        simp only at hv2 hy d0 d1 d2
        generalize hF : foldV min (rs.take (k + 1)) = f at *
        clear hF
        have hnb := hb.alloc hb.size (.cells #[.string sk, .int .i64 st, .string sv] 43)
        have cBa : (wr.alloc (.cells #[.string sk, .int .i64 st, .string sv] 43)).cell? ⟨B, 0, none⟩ = some (.func (.func 108) #[] #[]) := ((bl1 wr _).cell (p := ⟨B, 0, none⟩) (Nat.lt_of_lt_of_le hB hb.size)).trans cB
        have cVa : (wr.alloc (.cells #[.string sk, .int .i64 st, .string sv] 43)).cell? ⟨wr.heap.size, 2, none⟩ = some (.string sv) := cell_row_new wr ⟨sk, st, sv⟩ _ 2 _ rfl
        go_wp2_with fail
        generalize wr.alloc (.cells #[.string sk, .int .i64 st, .string sv] 43) = wa at *
        go_quiet (first | (go_at_call 29; refine (CN _ _ hv2).mono ?_; rintro e wz ⟨rfl, rfl⟩; exact ⟨rfl, _, rfl⟩) | (go_at_call 108; refine (lesser_any _ _ _ hx hy).mono ?_; rintro e wz ⟨rfl, rfl⟩; exact ⟨rfl, _, rfl⟩))
        have hb3 := below_drewN hnb nq
        generalize wa.drewN nq = w3 at *
        clear cB cBa cVa d0 d1 d2
        go_wp2_with fail
        go_roundw
        case rel => exact ⟨k + 1, by omega, by go_num, by rw [E.out]; rfl, hb3⟩
        case measure => simp [intOf]; omega
      · have e : rs.take (k + 1) = rs := List.take_of_length_le (by rw [hl.out]; omega)
        rw [e]
        go_wp2_with fail
        go_ret
        exact ⟨rfl, hb⟩
set_option maxRecDepth 100000 in
set_option maxHeartbeats 2000000 in
theorem over_greater (a : Option Addr) (n cap B n₀ : Nat) (rs : List RowV) (w : World) (h1 : 1 ≤ n) (hm : n ≤ 120) (hnc : n ≤ cap) (hok : ∀ r ∈ rs, r.Ok) (hn : n₀ ≤ w.heap.size) (hR : Rd w n₀ 3 a n (flat rs)) (hBc : w.cell? ⟨B, 0, none⟩ = some (.func (.func 109) #[] #[])) (hB : B < w.heap.size) :
    Calls Try.prog 135 #[.slice a n cap, .pointer (some ⟨B, 0, none⟩)] w fun e w' => e = .returned (.int .i64 (foldV max rs)) ∧ Below w.heap.size w w' := by
  have hl := Lib.hid hR.rows_length
  have hRn := hR.more hn
  have hRt := Lib.hid (hRn.from_ (k := 1) h1 hnc)
  obtain ⟨b, off, r, rfl, hb0, hr, _, _, c2⟩ := hRn.row (show 0 < n by omega)
  have hv := numV_ok hok hr
  have HO := Lib.hid (foldV_one max hr)
  have HC := Lib.hid hok
  clear hr hok hRn
  obtain ⟨rk, rt, rv⟩ := r
  have CN := fun s (w : World) (hs : s.size ≤ maxLen) => implNumberOf_any s w hs
  simp only at hv c2
  simp only [Nat.zero_mul, Nat.add_zero] at c2
  go_enter Try.func135, Try.ntmps135
  go_wp2_with fail
  refine (CN rv _ hv).mono ?_
  rintro e w1 ⟨rfl, rfl⟩
  clear c2
  have cB0 : ∀ wr, Below w.heap.size w wr → wr.cell? ⟨B, 0, none⟩ = some (.func (.func 109) #[] #[]) := fun wr h => (h.cell (p := ⟨B, 0, none⟩) hB).trans hBc
  have HF := Lib.hid cB0
  have HN := Lib.hid (fun k (h : rs.length ≤ 120) => most_bd120 (rs.take k) (by rw [List.length_take]; omega))
  clear cB0 hBc
  by_cases hcap : cap = 1
  · obtain rfl : n = 1 := by omega
    have e : rs.take 1 = rs := List.take_of_length_le (by rw [hl.out]; omega)
    rw [e] at HO
    subst hcap
    go_wp2_with fail
    refine wp_loop_rounds 1 ?_
    rw [rounds_succ]
    go_wp2_with fail
    go_ret
    exact ⟨by rw [HO.out]; rfl, Below.refl _ _⟩
  · have hX : Rd w w.heap.size 3 (some ⟨b, off + 1 * 3, none⟩) (n - 1) (flat (rs.drop 1)) := by
      have h := hRt.out
      unfold fromA at h
      rw [if_neg hcap] at h
      simpa [Addr.add_mid] using h
    go_wp2_with fail
    go_loopw [4, 15] (fun v i wr => ∃ k : Nat, k ≤ n - 1 ∧ i = .int .i64 k ∧ v = .int .i64 (foldV max (rs.take (k + 1))) ∧ Below w.heap.size w wr) (fun _ i _ => n - (intOf i).toNat)
    case atStart => exact ⟨0, Nat.zero_le _, rfl, by rw [HO.out]; rfl, Below.refl _ _⟩
    case round =>
      obtain ⟨k, hk, rfl, rfl, hb⟩ := hrel
      by_cases hlt : k < n - 1
      · obtain ⟨b2, o2, r2, e, hB2, hr2, d0, d1, d2⟩ := (hX.below hb (Nat.le_refl _)).row hlt
        injection e with e
        injection e with e1 e2 _
        subst e1 e2
        rw [List.getElem?_drop] at hr2
        have hv2 := numV_ok HC.out hr2
        have E := Lib.hid (foldV_take max (k := k + 1) (by omega) (by rw [Nat.add_comm]; exact hr2))
        have hx := HN.out (k + 1) (by rw [hl.out]; omega)
        have hy := numOf_bd r2.val
        have cB := HF.out wr hb
        clear hr2
        obtain ⟨sk, st, sv⟩ := r2
        simp only at hv2 hy d0 d1 d2
        generalize hF : foldV max (rs.take (k + 1)) = f at *
        clear hF
        have hnb := hb.alloc hb.size (.cells #[.string sk, .int .i64 st, .string sv] 43)
        have cBa : (wr.alloc (.cells #[.string sk, .int .i64 st, .string sv] 43)).cell? ⟨B, 0, none⟩ = some (.func (.func 109) #[] #[]) := ((bl1 wr _).cell (p := ⟨B, 0, none⟩) (Nat.lt_of_lt_of_le hB hb.size)).trans cB
        have cVa : (wr.alloc (.cells #[.string sk, .int .i64 st, .string sv] 43)).cell? ⟨wr.heap.size, 2, none⟩ = some (.string sv) := cell_row_new wr ⟨sk, st, sv⟩ _ 2 _ rfl
        go_wp2_with fail
        generalize wr.alloc (.cells #[.string sk, .int .i64 st, .string sv] 43) = wa at *
        go_quiet (first | (go_at_call 29; refine (CN _ _ hv2).mono ?_; rintro e wz ⟨rfl, rfl⟩; exact ⟨rfl, _, rfl⟩) | (go_at_call 109; refine (greater_any _ _ _ hx hy).mono ?_; rintro e wz ⟨rfl, rfl⟩; exact ⟨rfl, _, rfl⟩))
        have hb3 := below_drewN hnb nq
        generalize wa.drewN nq = w3 at *
        clear cB cBa cVa d0 d1 d2
        go_wp2_with fail
        go_roundw
        case rel => exact ⟨k + 1, by omega, by go_num, by rw [E.out]; rfl, hb3⟩
        case measure => simp [intOf]; omega
      · have e : rs.take (k + 1) = rs := List.take_of_length_le (by rw [hl.out]; omega)
        rw [e]
        go_wp2_with fail
        go_ret
        exact ⟨rfl, hb⟩
theorem lawS : Keyed Try.prog 9 := string_keyed Try.underlying9
def setN {H : Type} (rs : List RowV) : DataW H := setOf (.lit (.bool true)) (rs.map keyV)
theorem setN_take {H : Type} {rs : List RowV} {k : Nat} {r : RowV} (h : rs[k]? = some r) : setN (H := H) (rs.take (k + 1)) = (setN (rs.take k)).put (keyV r) (.lit (.bool true)) := by
  unfold setN
  rw [List.take_add_one, h, Option.toList_some, List.map_append]
  exact setOf_snoc _ _ _
theorem setN_zero {H : Type} (rs : List RowV) : setN (H := H) (rs.take 0) = .map [] := by simp [setN, setOf]
set_option maxRecDepth 100000 in
set_option maxHeartbeats 2000000 in
theorem numberOfValues_any (a : Option Addr) (n cap : Nat) (rs : List RowV) (w : World) (hm : n ≤ 1048576) (hok : ∀ r ∈ rs, r.Ok) (hR : Rd w w.heap.size 3 a n (flat rs)) :
    Calls Try.prog 110 #[.slice a n cap] w fun e w' => e = .returned (.int .i64 (kindsV rs)) ∧ Below w.heap.size w w' := by
  have hl := Lib.hid hR.rows_length
  have hmm := @run_makeMap Try.prog
  go_enter Try.func110, Try.ntmps110
  go_wp2_with fail
  go_loopw [9] (fun i wr => ∃ k : Nat, k ≤ n ∧ i = .int .i64 k ∧ wr.ownsMap Try.prog 9 (plainElem Try.prog 4) w.heap.size k (setN (H := Unit) (rs.take k)) ∧ Below w.heap.size w wr) (fun i _ => n - (intOf i).toNat)
  case atStart => exact ⟨0, Nat.zero_le _, rfl, by rw [setN_zero]; exact World.ownsMap_made _ _ _ _, (Below.refl _ _).alloc (Nat.le_refl _) _⟩
  case round =>
    obtain ⟨k, hk, rfl, hown, hb⟩ := hrel
    by_cases hlt : k < n
    · obtain ⟨b, off, r, rfl, hB, hr, c0, c1, c2⟩ := (hR.below hb (Nat.le_refl _)).row hlt
      have HE := Lib.hid (setN_take (H := Unit) hr)
      have hv := numV_ok hok hr
      have hkey : keyOf Try.prog 9 (.string r.val) = some (keyV r) := keyOf_string_mk Try.underlying9 hv
      clear hr
      obtain ⟨sk, st, sv⟩ := r
      simp only at hv c0 c1 c2 hkey
      have hown2 := hown.alloc (.cells #[.string sk, .int .i64 st, .string sv] 43)
      have hb2 := hb.alloc hb.size (.cells #[.string sk, .int .i64 st, .string sv] 43)
      go_wp2_with (first
        | (at_mapUpdate; refine wpList_mapUpdate_own _ rfl _ _ _ 166 rfl 9 4 lawS Try.underlying166 (plainElem (H := Unit) Try.prog 4) w.heap.size k _ rfl hown2 (by unfold maxLen; omega) _ _ _ rfl rfl hkey _ [] (plainElem_bool Try.underlying4 true) ?_; intro w1 hown1 hgrow1)
        | go_in)
      have hb3 := hb2.grown hgrow1 hb2.size (fun j hj => by cases hj; exact Nat.le_refl _)
      clear hown hown2 hgrow1 c0 c1 c2 hb hb2
      go_roundw
      case rel => exact ⟨k + 1, by omega, by go_num, by rw [HE.out]; exact hown1, hb3⟩
      case measure => simp [intOf]; omega
    · obtain rfl : k = n := by omega
      have e : rs.take k = rs := List.take_of_length_le (by rw [hl.out]; omega)
      rw [e] at hown
      go_wp2_with (first
        | (at_len; refine wpList_len_own _ rfl _ 166 rfl 9 4 Try.underlying166 _ w.heap.size k _ rfl hown ?_)
        | go_in)
      go_ret
      refine ⟨?_, hb⟩
      unfold setN
      rw [size_kinds]
      rfl
end Go.Proofs.Ytnmlnenepceabaa

namespace Go.Proofs.Ytnmlnenepceabaa
open Go.RowKit
set_option maxRecDepth 100000 in
theorem overNumbers_any (F : Nat) (w : World) : Calls Try.prog 107 #[.func (.func F) #[] #[]] w fun e w' => e = .returned (.func (.func 135) #[] #[.pointer (some ⟨w.heap.size, 0, none⟩)]) ∧ w' = w.alloc (.cells #[.func (.func F) #[] #[]] 82) := by
  go_enter Try.func107, Try.ntmps107
  go_wp2
  go_ret
  exact ⟨rfl, rfl⟩
theorem load_aggr {w : World} {b : Nat} {t c : Value} (h0 : w.cell? ⟨b, 0, none⟩ = some t) (h1 : w.cell? ⟨b, 1, none⟩ = some c) : (loadVar 84 ⟨b, 0, none⟩).run Try.prog w = .ok (.agg #[t, c]) w := by
  refine run_loadVar_mid (P := Try.prog) w b 0 84 [t, c] _ ?_ Try.underlying84 rfl (by kernel_rfl)
  intro j v hv
  match j, hv with
  | 0, hv => injection hv with hv; subst hv; exact h0
  | 1, hv => injection hv with hv; subst hv; exact h1
  | j + 2, hv => simp at hv
/-- A block of two cells, and what was made behind it. -/
theorem two_cells (w : World) (t c : Value) (ty : TypeId) {w' : World} (h : Below (w.alloc (.cells #[t, c] ty)).heap.size (w.alloc (.cells #[t, c] ty)) w') : w'.cell? ⟨w.heap.size, 0, none⟩ = some t ∧ w'.cell? ⟨w.heap.size, 1, none⟩ = some c := by
  have e0 : (w.alloc (.cells #[t, c] ty)).cell? ⟨w.heap.size, 0, none⟩ = some t := by simp [go_sem]
  have e1 : (w.alloc (.cells #[t, c] ty)).cell? ⟨w.heap.size, 1, none⟩ = some c := by simp [go_sem]
  exact ⟨(h.cell (p := ⟨w.heap.size, 0, none⟩) (by simp)).trans e0, (h.cell (p := ⟨w.heap.size, 1, none⟩) (by simp)).trans e1⟩
set_option maxRecDepth 100000 in
set_option maxHeartbeats 2000000 in
theorem aggr_1 (w : World) : Calls Try.prog 64 #[.int .i64 1] w fun e w' => e = .returned (.tuple #[.agg #[.func (.func 105) #[] #[], .func (.func 106) #[] #[]], .bool true]) ∧ Below w.heap.size w w' := by
  have CO := fun F w => overNumbers_any F w
  go_enter Try.func64, Try.ntmps64
  go_wp2_with fail
  refine (CO _ _).mono ?_
  rintro e w1 ⟨rfl, rfl⟩
  go_wp2_with fail
  refine (CO _ _).mono ?_
  rintro e w1 ⟨rfl, rfl⟩
  go_wp2_with fail
  refine (CO _ _).mono ?_
  rintro e w1 ⟨rfl, rfl⟩
  go_wp2_with fail
  clear CO
  have hld : ∀ W, Below (w.alloc (.cells #[.func (.func 105) #[] #[], .func (.func 106) #[] #[]] 84)).heap.size (w.alloc (.cells #[.func (.func 105) #[] #[], .func (.func 106) #[] #[]] 84)) W → (loadVar 84 ⟨w.heap.size, 0, none⟩).run Try.prog W = .ok (.agg #[.func (.func 105) #[] #[], .func (.func 106) #[] #[]]) W := fun W h => load_aggr (two_cells w _ _ _ h).1 (two_cells w _ _ _ h).2
  refine bodyPost_ret (v := .tuple #[.agg #[.func (.func 105) #[] #[], .func (.func 106) #[] #[]], .bool true]) ?_ rfl ?_
  · rw [results_cell_tmp rfl]
    simp [asAddr, Result.andThen]
    rw [hld _ (bl4 _ _ _ _ _)]
  · exact ⟨rfl, (bl4 w _ _ _ _).alloc (by simp; omega) _⟩
set_option maxRecDepth 100000 in
set_option maxHeartbeats 2000000 in
theorem aggr_2 (w : World) : Calls Try.prog 64 #[.int .i64 2] w fun e w' => ∃ B, w.heap.size ≤ B ∧ B < w'.heap.size ∧ w'.cell? ⟨B, 0, none⟩ = some (.func (.func 106) #[] #[]) ∧ e = .returned (.tuple #[.agg #[.func (.func 135) #[] #[.pointer (some ⟨B, 0, none⟩)], .func (.func 106) #[] #[]], .bool true]) ∧ Below w.heap.size w w' := by
  have CO := fun F w => overNumbers_any F w
  go_enter Try.func64, Try.ntmps64
  go_wp2_with fail
  refine (CO _ _).mono ?_
  rintro e w1 ⟨rfl, rfl⟩
  go_wp2_with fail
  refine (CO _ _).mono ?_
  rintro e w1 ⟨rfl, rfl⟩
  go_wp2_with fail
  refine (CO _ _).mono ?_
  rintro e w1 ⟨rfl, rfl⟩
  go_wp2_with fail
  clear CO
  have hld : ∀ W, Below (w.alloc (.cells #[.func (.func 135) #[] #[.pointer (some ⟨w.heap.size + 1, 0, none⟩)], .func (.func 106) #[] #[]] 84)).heap.size (w.alloc (.cells #[.func (.func 135) #[] #[.pointer (some ⟨w.heap.size + 1, 0, none⟩)], .func (.func 106) #[] #[]] 84)) W → (loadVar 84 ⟨w.heap.size, 0, none⟩).run Try.prog W = .ok (.agg #[.func (.func 135) #[] #[.pointer (some ⟨w.heap.size + 1, 0, none⟩)], .func (.func 106) #[] #[]]) W := fun W h => load_aggr (two_cells w _ _ _ h).1 (two_cells w _ _ _ h).2
  refine bodyPost_ret (v := .tuple #[.agg #[.func (.func 135) #[] #[.pointer (some ⟨w.heap.size + 1, 0, none⟩)], .func (.func 106) #[] #[]], .bool true]) ?_ rfl ?_
  · rw [results_cell_tmp rfl]
    simp [asAddr, Result.andThen]
    rw [hld _ (bl4 _ _ _ _ _)]
  · refine ⟨w.heap.size + 1, by omega, by simp, ?_, rfl, (bl4 w _ _ _ _).alloc (by simp; omega) _⟩
    simp [go_sem]
set_option maxRecDepth 100000 in
set_option maxHeartbeats 2000000 in
theorem aggr_3 (w : World) : Calls Try.prog 64 #[.int .i64 3] w fun e w' => ∃ B, w.heap.size ≤ B ∧ B < w'.heap.size ∧ w'.cell? ⟨B, 0, none⟩ = some (.func (.func 108) #[] #[]) ∧ e = .returned (.tuple #[.agg #[.func (.func 135) #[] #[.pointer (some ⟨B, 0, none⟩)], .func (.func 108) #[] #[]], .bool true]) ∧ Below w.heap.size w w' := by
  have CO := fun F w => overNumbers_any F w
  go_enter Try.func64, Try.ntmps64
  go_wp2_with fail
  refine (CO _ _).mono ?_
  rintro e w1 ⟨rfl, rfl⟩
  go_wp2_with fail
  refine (CO _ _).mono ?_
  rintro e w1 ⟨rfl, rfl⟩
  go_wp2_with fail
  refine (CO _ _).mono ?_
  rintro e w1 ⟨rfl, rfl⟩
  go_wp2_with fail
  clear CO
  have hld : ∀ W, Below (w.alloc (.cells #[.func (.func 135) #[] #[.pointer (some ⟨w.heap.size + 1 + 1, 0, none⟩)], .func (.func 108) #[] #[]] 84)).heap.size (w.alloc (.cells #[.func (.func 135) #[] #[.pointer (some ⟨w.heap.size + 1 + 1, 0, none⟩)], .func (.func 108) #[] #[]] 84)) W → (loadVar 84 ⟨w.heap.size, 0, none⟩).run Try.prog W = .ok (.agg #[.func (.func 135) #[] #[.pointer (some ⟨w.heap.size + 1 + 1, 0, none⟩)], .func (.func 108) #[] #[]]) W := fun W h => load_aggr (two_cells w _ _ _ h).1 (two_cells w _ _ _ h).2
  refine bodyPost_ret (v := .tuple #[.agg #[.func (.func 135) #[] #[.pointer (some ⟨w.heap.size + 1 + 1, 0, none⟩)], .func (.func 108) #[] #[]], .bool true]) ?_ rfl ?_
  · rw [results_cell_tmp rfl]
    simp [asAddr, Result.andThen]
    rw [hld _ (bl4 _ _ _ _ _)]
  · refine ⟨w.heap.size + 1 + 1, by omega, by simp, ?_, rfl, (bl4 w _ _ _ _).alloc (by simp; omega) _⟩
    simp [go_sem]
set_option maxRecDepth 100000 in
set_option maxHeartbeats 2000000 in
theorem aggr_4 (w : World) : Calls Try.prog 64 #[.int .i64 4] w fun e w' => ∃ B, w.heap.size ≤ B ∧ B < w'.heap.size ∧ w'.cell? ⟨B, 0, none⟩ = some (.func (.func 109) #[] #[]) ∧ e = .returned (.tuple #[.agg #[.func (.func 135) #[] #[.pointer (some ⟨B, 0, none⟩)], .func (.func 109) #[] #[]], .bool true]) ∧ Below w.heap.size w w' := by
  have CO := fun F w => overNumbers_any F w
  go_enter Try.func64, Try.ntmps64
  go_wp2_with fail
  refine (CO _ _).mono ?_
  rintro e w1 ⟨rfl, rfl⟩
  go_wp2_with fail
  refine (CO _ _).mono ?_
  rintro e w1 ⟨rfl, rfl⟩
  go_wp2_with fail
  refine (CO _ _).mono ?_
  rintro e w1 ⟨rfl, rfl⟩
  go_wp2_with fail
  clear CO
  have hld : ∀ W, Below (w.alloc (.cells #[.func (.func 135) #[] #[.pointer (some ⟨w.heap.size + 1 + 1 + 1, 0, none⟩)], .func (.func 109) #[] #[]] 84)).heap.size (w.alloc (.cells #[.func (.func 135) #[] #[.pointer (some ⟨w.heap.size + 1 + 1 + 1, 0, none⟩)], .func (.func 109) #[] #[]] 84)) W → (loadVar 84 ⟨w.heap.size, 0, none⟩).run Try.prog W = .ok (.agg #[.func (.func 135) #[] #[.pointer (some ⟨w.heap.size + 1 + 1 + 1, 0, none⟩)], .func (.func 109) #[] #[]]) W := fun W h => load_aggr (two_cells w _ _ _ h).1 (two_cells w _ _ _ h).2
  refine bodyPost_ret (v := .tuple #[.agg #[.func (.func 135) #[] #[.pointer (some ⟨w.heap.size + 1 + 1 + 1, 0, none⟩)], .func (.func 109) #[] #[]], .bool true]) ?_ rfl ?_
  · rw [results_cell_tmp rfl]
    simp [asAddr, Result.andThen]
    rw [hld _ (bl4 _ _ _ _ _)]
  · refine ⟨w.heap.size + 1 + 1 + 1, by omega, by simp, ?_, rfl, (bl4 w _ _ _ _).alloc (by simp; omega) _⟩
    simp [go_sem]
set_option maxRecDepth 100000 in
set_option maxHeartbeats 2000000 in
theorem aggr_5 (w : World) : Calls Try.prog 64 #[.int .i64 5] w fun e w' => e = .returned (.tuple #[.agg #[.func (.func 110) #[] #[], .nilFunc], .bool true]) ∧ Below w.heap.size w w' := by
  have CO := fun F w => overNumbers_any F w
  go_enter Try.func64, Try.ntmps64
  go_wp2_with fail
  refine (CO _ _).mono ?_
  rintro e w1 ⟨rfl, rfl⟩
  go_wp2_with fail
  refine (CO _ _).mono ?_
  rintro e w1 ⟨rfl, rfl⟩
  go_wp2_with fail
  refine (CO _ _).mono ?_
  rintro e w1 ⟨rfl, rfl⟩
  go_wp2_with fail
  clear CO
  have hld : ∀ W, Below (w.alloc (.cells #[.func (.func 110) #[] #[], .nilFunc] 84)).heap.size (w.alloc (.cells #[.func (.func 110) #[] #[], .nilFunc] 84)) W → (loadVar 84 ⟨w.heap.size, 0, none⟩).run Try.prog W = .ok (.agg #[.func (.func 110) #[] #[], .nilFunc]) W := fun W h => load_aggr (two_cells w _ _ _ h).1 (two_cells w _ _ _ h).2
  refine bodyPost_ret (v := .tuple #[.agg #[.func (.func 110) #[] #[], .nilFunc], .bool true]) ?_ rfl ?_
  · rw [results_cell_tmp rfl]
    simp [asAddr, Result.andThen]
    rw [hld _ (bl4 _ _ _ _ _)]
  · exact ⟨rfl, (bl4 w _ _ _ _).alloc (by simp; omega) _⟩
end Go.Proofs.Ytnmlnenepceabaa

namespace Go.Proofs.Ytnmlnenepceabaa
open Go.RowKit Go.Shelf
attribute [local go_sem] Oper.semAt_some
/-- One that can be read in a world: of one row at least, no more than so many, each as Go's types allow it. -/
def GrpOk (w : World) (B : Nat) : Type := {x : GrpV // Rd w B 3 x.a x.n (flat x.rows) ∧ x.n ≤ x.c ∧ (x.n ≤ 120 ∧ 1 ≤ x.n ∧ ∀ r ∈ x.rows, r.Ok) ∧ ∃ b off, x.a = some ⟨b, off, none⟩}
def okGrps {w : World} {B : Nat} (ys : List (GrpOk w B)) : List (ByteArray × List RowV) := ys.map fun x => (x.1.key, x.1.rows)
def okGrpV {w : World} {B : Nat} (x : GrpOk w B) : Array Value := #[.string x.1.key, .slice x.1.a x.1.n x.1.c]
set_option maxRecDepth 100000 in
set_option maxHeartbeats 2000000 in
theorem byKey1_ok (n l Bl n₀ : Nat) (a : Option Addr) (len cap : Nat) (rs : List RowV) (w0 : World) (hm : len ≤ 120) (hlc : len ≤ cap) (hok : ∀ r ∈ rs, r.Ok) (J Jx : List (GrpOk w0 n₀) → World → Prop) (W : World) (hn₀ : n₀ ≤ W.heap.size) (hW : Below n₀ w0 W)
    (hY : ∀ pre x W1, J pre W1 → pre.length < rs.length → YieldAt Fence.wide (n - 1) Try.prog l (okGrpV x) W1 fun e W' =>
      (e = .returned (.bool true) ∧ J (pre ++ [x]) W' ∧ Below n₀ W1 W') ∨ (e = .returned (.bool false) ∧ Jx (pre ++ [x]) W'))
    (hBl : W.cell? ⟨Bl, 0, none⟩ = some (.slice a len cap)) (hR : Rd w0 n₀ 3 a len (flat rs)) (h0 : J [] W) :
    CallsIn Fence.wide n Try.prog 111 #[.func (.yield l) #[] #[], .pointer (some ⟨Bl, 0, none⟩)] W fun e W' => (∃ v, e = .returned v) ∧
      ((∃ ys, okGrps ys = groupsR rs ∧ J ys W') ∨ (∃ pre, okGrps pre <+: groupsR rs ∧ Jx pre W')) := by
  have hl := Lib.hid hR.rows_length
  have HR0 := Lib.hid hR
  have HOK := Lib.hid hok
  have HW := Lib.hid hW
  generalize hT : groupsR rs = T
  have HT := Lib.hid hT
  clear hT hR hW hok
  refine callsIn_of_wp Try.func111 rfl trivial ?_ rfl
  simp only [Try.ntmps111, List.size_toArray, List.length_cons, List.length_nil, Nat.reduceAdd, Nat.reduceSub, Array.replicate_succ, Array.replicate_zero, List.push_toArray, List.append_toArray, List.nil_append, List.cons_append]
  gi_wp2
  gi_loopw [3] (fun v wr => ∃ (m : Nat) (ra : Option Addr) (rc : Nat) (R : List RowV) (ys : List (GrpOk w0 n₀)), v = .slice ra m rc ∧ m ≤ rc ∧ ys.length + m ≤ len ∧ Hid (Rd w0 n₀ 3 ra m (flat R)) ∧ Hid (∀ r ∈ R, r.Ok) ∧ Hid (T = okGrps ys ++ groupsR R) ∧ J ys wr ∧ Below n₀ W wr)
    (fun v _ => match v with | .slice _ n _ => n | _ => 0)
  case atStart => exact ⟨len, _, _, rs, [], rfl, hlc, by simp, HR0, HOK, Lib.hid HT.out.symm, h0, Below.refl _ _⟩
  case round =>
    obtain ⟨m, ra, rc, R, ys, rfl, hmr, hym, HR, HO, HG, hJs, hnx⟩ := hrel
    by_cases hm0 : m = 0
    · subst hm0
      have hRn : R = [] := List.length_eq_zero_iff.1 HR.out.rows_length
      have HG2 := Lib.hid (show okGrps ys = T by rw [HG.out, hRn, groupsR_nil, List.append_nil])
      clear hRn
      gi_wp2
      go_end0
      exact ⟨⟨_, rfl⟩, .inl ⟨ys, HG2.out, hJs⟩⟩
    · have hRl : R.length = m := HR.out.rows_length
      obtain ⟨r, R', rfl⟩ : ∃ r R', R = r :: R' := by
        cases R with
        | nil => simp at hRl; omega
        | cons r R => exact ⟨r, R, rfl⟩
      have hRr := HR.out.below (HW.out.trans hnx) (Nat.le_refl _)
      obtain ⟨b, off, r', rfl, hB1, hrk, c0, _, _⟩ := hRr.row (show 0 < m by omega)
      obtain rfl : r = r' := by simpa using hrk
      clear hrk
      have hsz : n₀ ≤ wr.heap.size := Nat.le_trans hn₀ hnx.size
      have hq1 := leadN_pos r R'
      have hq2 := leadN_le r.key (r :: R')
      rw [hRl] at hq2
      have CL := leadingRows_any (some ⟨b, off, none⟩) m rc (r :: R') r.key wr (by omega) (hRr.more hsz)
      have HN := Lib.hid (groupsR_next r R')
      have HL := Lib.hid (lead_take (key := r.key) (r :: R'))
      have hm4 : 0 < m := by omega
      have hm5 : (0 : Int) < (m : Int) := by omega
      simp only [Nat.zero_mul, Nat.add_zero] at c0
      generalize hqe : leadN r.key (r :: R') = q at *
      have HQ := Lib.hid hqe
      clear hqe hRl
      have hq3 : (q : Int) ≤ (rc : Int) := by omega
      have hq4 : (0 : Int) ≤ (q : Int) := by omega
      have hq5 : (q : Int) ≤ (m : Int) := by omega
      have hxR : Rd w0 n₀ 3 (some ⟨b, off, none⟩) q (flat (leadL r.key (r :: R'))) := by
        rw [← HL.out]
        exact HR.out.head hq2
      have hxq : q ≤ rc ∧ (q ≤ 120 ∧ 1 ≤ q ∧ ∀ x ∈ leadL r.key (r :: R'), x.Ok) ∧ ∃ b' off', some (⟨b, off, none⟩ : Addr) = some ⟨b', off', none⟩ := ⟨by omega, ⟨by omega, by omega, fun x hx => HO.out x (by rw [← HL.out] at hx; exact List.mem_of_mem_take hx)⟩, b, off, rfl⟩
      have HO2 := Lib.hid (show ∀ x ∈ (r :: R').drop q, x.Ok from fun x hx => HO.out x (List.mem_of_mem_drop hx))
      obtain ⟨x, hx⟩ : ∃ x : GrpOk w0 n₀, x = ⟨⟨r.key, some ⟨b, off, none⟩, q, rc, leadL r.key (r :: R')⟩, hxR, hxq⟩ := ⟨_, rfl⟩
      have hxe : okGrps (ys ++ [x]) = okGrps ys ++ [(r.key, leadL r.key (r :: R'))] := by
        unfold okGrps
        rw [List.map_append, hx]
        rfl
      have HG2 := Lib.hid (show T = okGrps (ys ++ [x]) ++ groupsR ((r :: R').drop q) by rw [HG.out, HN.out, hxe, List.append_assoc]; rfl)
      have efr : fromA (some ⟨b, off, none⟩) rc q = if rc = q then some ⟨b, off, none⟩ else some ⟨b, off + q * 3, none⟩ := by
        unfold fromA
        split
        · rfl
        · simp [Addr.add_mid]
      have HR2 := Lib.hid (show Rd w0 n₀ 3 (if rc = q then some ⟨b, off, none⟩ else some ⟨b, off + q * 3, none⟩) (m - q) (flat ((r :: R').drop q)) by rw [← efr]; exact HR.out.from_ hq2 hmr)
      clear efr
      obtain ⟨fn, tmps, assign, body, hy, hRd⟩ := hY ys x wr hJs (by rw [hl.out]; omega)
      rw [show okGrpV x = #[.string r.key, .slice (some ⟨b, off, none⟩) q rc] by rw [hx]; rfl] at hy
      have hlen : (ys ++ [x]).length + (m - q) ≤ len := by rw [List.length_append, List.length_singleton]; omega
      clear hx hxe HN HL HG hJs hY
      clear hxR hxq
      gi_wp2_with fail
      refine ⟨trivial, fun h => (by cases h), ?_⟩
      refine (callsIn_wide.2 CL).mono ?_
      rintro e w2 ⟨rfl, rfl⟩
      clear CL
      gi_wp2_with fail
      refine ⟨fun h => (by cases h), ?_⟩
      refine hRd.mono ?_
      rintro e W3 (⟨rfl, hJ3, hk3⟩ | ⟨rfl, hJx3⟩)
      · have hnx3 := hnx.trans hk3
        clear c0 hk3 hnx hRd hy
        gi_wp2_with fail
        go_roundw
        case rel => exact ⟨m - q, _, rc - q, (r :: R').drop q, ys ++ [x], rfl, by omega, hlen, HR2, HO2, HG2, hJ3, hnx3⟩
        case measure => simp; omega
      · clear c0 hnx hRd hy
        gi_wp2_with fail
        refine bodyPost_ret (results_none rfl _ _ _) rfl ?_
        exact ⟨⟨_, rfl⟩, .inr ⟨ys ++ [x], ⟨groupsR ((r :: R').drop q), HG2.out.symm⟩, hJx3⟩⟩
/-- What byKey yields: the keys with their rows, in their order. -/
theorem byKey_ok (n Bl n₀ : Nat) (a : Option Addr) (len cap : Nat) (rs : List RowV) (hm : len ≤ 120) (hlc : len ≤ cap) (hok : ∀ r ∈ rs, r.Ok) (w : World) (hn₀ : n₀ ≤ w.heap.size)
    (hBl : w.cell? ⟨Bl, 0, none⟩ = some (.slice a len cap)) (hll : Bl < w.heap.size) (hR : Rd w n₀ 3 a len (flat rs)) :
    SeqStopsK Fence.wide n Try.prog 111 #[.pointer (some ⟨Bl, 0, none⟩)] (fun x : GrpOk w n₀ => okGrpV x) (Below n₀) (fun ys => okGrps ys = groupsR rs) (fun pre => okGrps pre <+: groupsR rs) rs.length w := fun l J Jx W hW _ _ hY h0 =>
  byKey1_ok n l Bl n₀ a len cap rs w hm hlc hok J Jx W (Nat.le_trans hn₀ hW.size) (hW.mono hn₀) hY ((hW.cell (p := ⟨Bl, 0, none⟩) hll).trans hBl) hR h0
end Go.Proofs.Ytnmlnenepceabaa

namespace Go.Proofs.Ytnmlnenepceabaa
open Go.RowKit
def noDefer (o : Oper) : Bool := match o.op with | .defer _ => false | _ => true
theorem noDefer_out {o : Oper} (h : noDefer o = true) : ∀ c, o.op ≠ .defer c := by
  intro c e
  unfold noDefer at h
  rw [e] at h
  cases h
theorem wpIn_round {P : Program} {l n : Nat} {o : Oper} {a : Act} {w : World} {K : Act → World → Prop} {Q : Exit → Act → World → Prop} (hd : noDefer o = true) (h : o.wp P a w K Q) : o.wpIn (Fence.wide.inRound l) n P a w K Q := by
  refine ⟨fun _ _ => trivial, ?_⟩
  rw [Oper.semAt_plain _ _ _ (noDefer_out hd)]
  unfold Oper.wp at h
  revert h
  generalize (execOp a.eval o).run P w = r
  intro h
  cases r with
  | ok x w' =>
    cases x with
    | value v => exact h
    | skip => exact h
    | defer d => exact h
    | enter f args => exact ⟨fun h => (by cases h), (callsIn_wide (n := n - 1)).2 h⟩
    | row r args => exact ⟨fun h => (by cases h), fun c cs _ => let ⟨v, w2, h1, h2⟩ := h c cs; ⟨v, w2, h1, stepsIn_wide.2 h2⟩⟩
    | _ => exact h.elim
  | halt x w' => cases x <;> first | exact h | exact h.elim
theorem wpOpsIn_round {P : Program} {l n : Nat} {ops : Array Oper} {Q : Exit → Act → World → Prop} (hd : ∀ o ∈ ops.toList, noDefer o = true) (hQ : ¬ LetsOut Q) : ∀ (is : List Nat) (a : Act) (w : World), wpOps P ops Q is a w → wpOpsIn (Fence.wide.inRound l) n P ops Q is a w := by
  intro is
  induction is with
  | nil => exact fun a w h => h
  | cons i is ih =>
    intro a w h
    unfold wpOps at h
    unfold wpOpsIn
    cases ho : ops[i]? with
    | none => rw [ho] at h; exact ih _ _ h
    | some o =>
      rw [ho] at h
      have hm : o ∈ ops.toList := by
        obtain ⟨hi, rfl⟩ := Array.getElem?_eq_some_iff.1 ho
        simp
      simp only at h ⊢
      split
      · rename_i hw
        rw [if_pos hw] at h
        rcases h with h | ⟨_, h⟩
        · exact wpIn_round (hd o hm) (Oper.wp_mono (fun a w h => ih a w h) h)
        · exact absurd h hQ
      · rename_i hw
        rw [if_neg hw] at h
        exact ⟨fun _ _ => trivial, ih _ _ h⟩
theorem wpIn_region_round {P : Program} {l n id : Nat} {ops : List Oper} {Q : Exit → Act → World → Prop} {a : Act} {w : World} (hm : P.follows .mixedOrders = true) (hd : ops.all noDefer = true) (hQ : ¬ LetsOut Q)
    (h : wpAny P .any ops.toArray Q ops.length (Array.replicate ops.length false) a w.drew) : (Code.region id ops.toArray true).wpIn (Fence.wide.inRound l) n P Q a w := by
  refine wpIn_region_draw fun t => ?_
  refine wpOpsIn_round (fun o ho => List.all_eq_true.1 hd o (by simpa using ho)) hQ _ _ _ ?_
  simp only [Region.schedule, hm, Bool.true_or, if_true]
  have := wpAny_sound ops.length t _ a _ h
  simpa [Region.linearise] using this
end Go.Proofs.Ytnmlnenepceabaa

namespace Go.Proofs.Ytnmlnenepceabaa
open Go.RowKit
theorem numS_ok {l : List RowV} {k : Nat} {r : RowV} (h : ∀ r ∈ l, r.Ok) (hr : l[k]? = some r) : r.val.size ≤ maxLen := (h r (List.mem_of_getElem? hr)).2.2
/-- One number of the first rows, of one at least. -/
def foldK (c : Int → Int → Int) (l : List RowV) (k : Nat) : Int := foldV c (l.take (max k 1))
theorem foldK_step {c : Int → Int → Int} (hc : ∀ a, c a a = a) {l : List RowV} {k : Nat} {r : RowV} (h : l[k]? = some r) : c (foldK c l k) (nV r) = foldK c l (k + 1) := by
  unfold foldK
  rcases Nat.eq_zero_or_pos k with rfl | hk
  · rw [show max 0 1 = 1 by omega, show max (0 + 1) 1 = 1 by omega, foldV_one c h, hc]
  · rw [show max k 1 = k by omega, show max (k + 1) 1 = k + 1 by omega, foldV_take c hk h]
theorem foldK_all {c : Int → Int → Int} {l : List RowV} {k : Nat} (hk : 1 ≤ k) (h : l.length ≤ k) : foldK c l k = foldV c l := by
  unfold foldK
  rw [List.take_of_length_le (by omega)]
theorem foldK_bd {c : Int → Int → Int} (hc : ∀ a b, c a b = a ∨ c a b = b) (l : List RowV) (k : Nat) : 0 ≤ foldK c l k ∧ foldK c l k ≤ 999999999 := foldV_bd hc _
set_option maxRecDepth 100000 in
theorem l1In_five (n : Int) (b : Bool) (w : World) (h : (decide (1 ≤ n) && decide (n ≤ 5)) = b) : Calls Try.prog 77 #[.int .i64 n, .int .i64 1, .int .i64 5] w fun e w' => e = .returned (.bool b) ∧ Below w.heap.size w w' := by
  have E := Lib.hid h
  clear h
  by_cases h1 : 1 ≤ n
  · have d1 : decide (1 ≤ n) = true := by simp [h1]
    go_enter Try.func77, Try.ntmps77
    go_wp2
    go_ret
    exact ⟨ret_bool (by rw [← E.out, d1, Bool.true_and]), Below.refl _ _⟩
  · have d1 : decide (1 ≤ n) = false := by simp [h1]
    go_enter Try.func77, Try.ntmps77
    go_wp2
    go_ret
    exact ⟨ret_bool (by rw [← E.out, d1, Bool.false_and]), Below.refl _ _⟩
set_option maxRecDepth 100000 in
theorem l7Kind_any (n : Int) (b : Bool) (w : World) (h : (decide (1 ≤ n) && decide (n ≤ 5)) = b) : Calls Try.prog 61 #[.int .i64 n] w fun e w' => e = .returned (.bool b) ∧ Below w.heap.size w w' := by
  have C := l1In_five n b w h
  clear h
  go_enter Try.func61, Try.ntmps61
  go_wp2_with fail
  refine C.mono ?_
  rintro e w1 ⟨rfl, hb⟩
  go_wp2_with fail
  go_ret
  exact ⟨rfl, hb⟩
set_option maxRecDepth 100000 in
set_option maxHeartbeats 4000000 in
theorem l7Of_any (a : Option Addr) (n cap : Nat) (rs : List RowV) (kind : Int) (w : World) (hkd : kind = 1 ∨ kind = 2 ∨ kind = 3 ∨ kind = 4 ∨ kind = 5) (h1 : 1 ≤ n) (hm : n ≤ 120) (hok : ∀ r ∈ rs, r.Ok) (hR : Rd w w.heap.size 3 a n (flat rs)) :
    Calls Try.prog 104 #[.slice a n cap, .int .i64 kind] w fun e w' => e = .returned (.int .i64 (totV kind rs)) ∧ Below w.heap.size w w' := by
  have hl := Lib.hid hR.rows_length
  obtain ⟨b0, off0, r0, rfl, hB0, hr0, _, _, z2⟩ := hR.row (show 0 < n by omega)
  have hv0 := numS_ok hok hr0
  have HM := Lib.hid (foldV_one min hr0)
  have HX := Lib.hid (foldV_one max hr0)
  have HK := Lib.hid hkd
  have HC := Lib.hid hok
  have CN := fun s (w : World) (hs : s.size ≤ maxLen) => specNumberOf_any s w hs
  clear hkd hr0 hok
  obtain ⟨k0, t0, v0⟩ := r0
  simp only [Nat.zero_mul, Nat.add_zero] at z2 hv0
  go_enter Try.func104, Try.ntmps104
  go_wp2_with fail
  refine (CN v0 _ hv0).mono ?_
  rintro e w1 ⟨rfl, rfl⟩
  clear z2
  go_wp2_with fail
  go_loopw [5, 6, 7, 8, 9] (fun v5 v6 v7 v8 i wr => ∃ k q : Nat, k ≤ n ∧ i = .int .i64 k ∧ v5 = .int .i64 (sumV (rs.take k)) ∧ v6 = .int .i64 (foldK min rs k) ∧ v7 = .int .i64 (foldK max rs k) ∧ v8 = .int .i64 q ∧ Hid (kindsV (rs.take k) = q) ∧ q ≤ k ∧ Below w.heap.size w wr) (fun _ _ _ _ i _ => n - (intOf i).toNat)
  case atStart => exact ⟨0, 0, Nat.zero_le _, rfl, rfl, by rw [show foldK min rs 0 = foldV min (rs.take 1) from rfl, HM.out]; rfl, by rw [show foldK max rs 0 = foldV max (rs.take 1) from rfl, HX.out]; rfl, rfl, Lib.hid rfl, Nat.le_refl _, Below.refl _ _⟩
  case round =>
    obtain ⟨k, q, hk, rfl, rfl, rfl, rfl, rfl, HQ, hqk, hb⟩ := hrel
    by_cases hlt : k < n
    · obtain ⟨b, off, r, e, hB, hr, c0, c1, c2⟩ := (hR.below hb (Nat.le_refl _)).row hlt
      injection e with e
      injection e with e1 e2 _
      subst e1 e2
      have hv := numS_ok HC.out hr
      have ES := Lib.hid (sumV_take hr)
      have EM := Lib.hid (foldK_step (c := min) (by intro a; omega) hr)
      have EX := Lib.hid (foldK_step (c := max) (by intro a; omega) hr)
      have EK := Lib.hid (kindsV_take hr)
      have HH := Lib.hid (fun (j : Nat) (s : RowV) (h : rs[j]? = some s) => hasV_take r.val h)
      have hsb := sumV_part rs k
      rw [hl.out] at hsb
      have hs1 : sumV (rs.take k) ≤ 999999999 * 120 := by omega
      have hs0 := hsb.1
      have hmb := foldK_bd min_or rs k
      have hxb := foldK_bd max_or rs k
      have hnb := numOf_bd r.val
      clear hr hsb
      obtain ⟨sk, st, sv⟩ := r
      simp only at hv hnb c2
      generalize sumV (rs.take k) = s at *
      generalize foldK min rs k = lo at *
      generalize foldK max rs k = hi at *
      go_wp2_with fail
      refine (CN sv _ hv).mono ?_
      rintro e w2 ⟨rfl, rfl⟩
      go_wp2_with fail
      go_loopw [11, 12] (fun f j wx => ∃ p : Nat, p ≤ k ∧ j = .int .i64 p ∧ f = .bool (!hasV (rs.take p) sv) ∧ Below wr.heap.size wr wx) (fun _ j _ => k - (intOf j).toNat)
      case atStart => exact ⟨0, Nat.zero_le _, rfl, rfl, Below.refl _ _⟩
      case round =>
        obtain ⟨p, hp, rfl, rfl, hx⟩ := hrel
        have c2x := (hx.cell (p := ⟨b0, off0 + k * 3 + 2, none⟩) (Nat.lt_of_lt_of_le hB0 hb.size)).trans c2
        have hbx := hb.trans (hx.mono hb.size)
        by_cases hpk : p < k
        · obtain ⟨b, off, r2, e, hB2, hr2, d0, d1, d2⟩ := (hR.below hbx (Nat.le_refl _)).row (show p < n by omega)
          injection e with e
          injection e with e1 e2 _
          subst e1 e2
          have HP := Lib.hid (HH.out p r2 hr2)
          clear hr2 d0 d1
          obtain ⟨pk, pt, pv⟩ := r2
          simp only at d2
          cases hh : hasV (rs.take p) sv
          · cases hq : (pv.toList == sv.toList)
            · have HP2 := Lib.hid (show hasV (rs.take (p + 1)) sv = false by rw [HP.out, hh]; exact hq)
              have hq2 : (pv == sv) = false := by rw [beq_toListBytes]; exact hq
              clear hh HP
              go_wp2_with fail
              go_quiet (fail)
              have hx2 := below_drewN hx nq
              generalize wr.drewN nq = w3 at *
              clear c2x d2
              go_wp2_with fail
              go_roundw
              case rel => exact ⟨p + 1, by omega, by go_num, by rw [HP2.out]; rfl, hx2⟩
              case measure => simp [intOf]; omega
            · have HP2 := Lib.hid (show hasV (rs.take (p + 1)) sv = true by rw [HP.out, hh]; exact hq)
              have hq2 : (pv == sv) = true := by rw [beq_toListBytes]; exact hq
              clear hh HP
              go_wp2_with fail
              go_quiet (fail)
              have hx2 := below_drewN hx nq
              generalize wr.drewN nq = w3 at *
              clear c2x d2
              go_wp2_with fail
              go_roundw
              case rel => exact ⟨p + 1, by omega, by go_num, by rw [HP2.out]; rfl, hx2⟩
              case measure => simp [intOf]; omega
          · have HP2 := Lib.hid (show hasV (rs.take (p + 1)) sv = true by rw [HP.out, hh]; rfl)
            clear hh HP
            go_wp2_with fail
            go_quiet (fail)
            have hx2 := below_drewN hx nq
            generalize wr.drewN nq = w3 at *
            clear c2x d2
            go_wp2_with fail
            go_roundw
            case rel => exact ⟨p + 1, by omega, by go_num, by rw [HP2.out]; rfl, hx2⟩
            case measure => simp [intOf]; omega
        · obtain rfl : p = k := by omega
          clear c2x
          cases hh : hasV (rs.take p) sv
          · have EK2 := Lib.hid (show kindsV (rs.take (p + 1)) = q + 1 by rw [EK.out, HQ.out, hh]; rfl)
            clear hh
            go_wp2_with fail
            go_roundw
            case rel => exact ⟨p + 1, q + 1, by omega, by go_num, by rw [ES.out]; rfl, by rw [← EM.out]; rfl, by rw [← EX.out]; rfl, by go_num, EK2, by omega, hbx⟩
            case measure => simp [intOf]; omega
          · have EK2 := Lib.hid (show kindsV (rs.take (p + 1)) = q by rw [EK.out, HQ.out, hh]; rfl)
            clear hh
            go_wp2_with fail
            go_roundw
            case rel => exact ⟨p + 1, q, by omega, by go_num, by rw [ES.out]; rfl, by rw [← EM.out]; rfl, by rw [← EX.out]; rfl, rfl, EK2, by omega, hbx⟩
            case measure => simp [intOf]; omega
    · obtain rfl : k = n := by omega
      have e : rs.take k = rs := List.take_of_length_le (by rw [hl.out]; omega)
      have em := foldK_all (c := min) (l := rs) (k := k) h1 (by rw [hl.out]; omega)
      have ex := foldK_all (c := max) (l := rs) (k := k) h1 (by rw [hl.out]; omega)
      rw [e] at HQ ⊢
      rw [em, ex]
      have HQ2 := Lib.hid HQ.out
      have HL := Lib.hid hl.out
      have hbN := hb.alloc hb.size (.cells #[.int .i64 0, .int .i64 k, .int .i64 (sumV rs), .int .i64 (foldV min rs), .int .i64 (foldV max rs), .int .i64 q] 2)
      rcases HK.out with rfl | rfl | rfl | rfl | rfl
      all_goals
        go_wp2_with fail
        go_ret
        refine ⟨?_, hbN⟩
        unfold totV
        first | rfl | (rw [HQ2.out]; rfl) | (rw [HL.out]; rfl)
theorem step_l7Of {ops : Array Oper} {o : Oper} {a : Act} {w : World} {K : Act → World → Prop} {Q : Exit → Act → World → Prop} {E : Prop}
    (hgd : o.guard = none) (x y : Nat) (t u : TypeId) (hop : o.op = Op.call { callee := .value (.func 104), args := #[.tmp x, .tmp y], argTypes := #[t, u] })
    (v z : Value) (hv : a.tmps[x]?.getD undef = v) (hz : a.tmps[y]?.getD undef = z) (R : Ending → World → Prop) (hc : Calls Try.prog 104 #[v, z] w R) (h : ∀ e w', R e w' → ∃ v, e = .returned v ∧ K (a.put o.dst v) w') :
    if Region.wanted o (yielded ops a.tmps) = true then Oper.wp Try.prog o a w K Q else E := by
  have hw : Region.wanted o (yielded ops a.tmps) = true := by simp [Region.wanted, hgd]
  rw [if_pos hw]
  unfold Oper.wp
  simp only [execOp, hop, resolve, invoke]
  have he : a.eval (Operand.func 104) = .func (.func 104) #[] #[] := rfl
  rw [he]
  go_simp
  refine hc.mono ?_
  intro e w' hr
  obtain ⟨v', rfl, hk⟩ := h e w' hr
  exact hk
theorem groups_flatR : ∀ (n : Nat) (l : List RowV), l.length ≤ n → (groupsR l).flatMap (·.2) = l
  | _, [], _ => rfl
  | 0, _ :: _, h => by simp at h
  | n + 1, r :: l, h => by
    have hp := leadN_pos r l
    rw [groupsR_next, List.flatMap_cons, groups_flatR n _ (by rw [List.length_drop]; rw [List.length_cons] at h ⊢; omega)]
    show leadL r.key (r :: l) ++ _ = _
    rw [← lead_take, List.take_append_drop]
/-- What a group of sorted rows is. -/
theorem group_facts {rs : List RowV} (hok : ∀ r ∈ rs, r.Ok) (hn : rs.length ≤ 120) {g : ByteArray × List RowV} (hg : g ∈ groupsR (sortL rs)) : 1 ≤ g.2.length ∧ g.2.length ≤ 120 ∧ ∀ r ∈ g.2, r.Ok := by
  have ha : KAsc (sortL rs) := asc_keys (sortL_asc rs)
  obtain ⟨h1, r, hr, e⟩ := (groups_of _ (sortL rs) (Nat.le_refl _) ha).1 g hg
  have hl := List.length_filter_le (isKey g.1) (sortL rs)
  rw [sortL_length] at hl
  refine ⟨?_, by rw [h1]; omega, ?_⟩
  · have : r ∈ g.2 := by rw [h1]; exact List.mem_filter.2 ⟨hr, isKey_iff.2 e⟩
    exact List.length_pos_of_mem this
  · intro q hq
    rw [h1] at hq
    exact hok q ((sortL_perm' rs).mem_iff.1 (List.mem_filter.1 hq).1)
def TotsOut (ts : List TotV) (w : World) (e : Ending) (w' : World) : Prop := ∃ b c, e = .returned (.slice b ts.length c) ∧ Below w.heap.size w w' ∧ w'.ownsRow w.heap.size 45 2 (.slice b ts.length c) ts.length (flatT ts)
theorem tot_one (t : TotV) : ∀ u ∈ [Value.string t.key, .int .i64 t.n], u.oneCell' = true := by
  intro u hu
  simp at hu
  rcases hu with rfl | rfl <;> rfl
theorem cell_tot_new (w : World) (k : ByteArray) (n : Int) (t : TypeId) : ∀ j u, [Value.string k, .int .i64 n][j]? = some u → (w.alloc (.cells #[.string k, .int .i64 n] t)).cell? (Addr.add ⟨w.heap.size, 0, none⟩ j) = some u := by
  intro j u hu
  rw [Addr.add_mid, Nat.zero_add]
  rcases j with _ | _ | j <;> simp at hu <;> subst hu <;> simp [go_sem]
theorem flatT_snoc (l : List TotV) (t : TotV) : flatT (l ++ [t]) = flatT l ++ [.string t.key, .int .i64 t.n] := by rw [flatT_append]; rfl
set_option maxRecDepth 100000 in
set_option maxHeartbeats 4000000 in
theorem l7Reduced_any (a : Option Addr) (n cap : Nat) (rs : List RowV) (kind : Int) (w : World) (hkd : kind = 1 ∨ kind = 2 ∨ kind = 3 ∨ kind = 4 ∨ kind = 5) (hm : n ≤ 120) (hok : ∀ r ∈ rs, r.Ok) (hR : Rd w w.heap.size 3 a n (flat rs)) :
    Calls Try.prog 62 #[.slice a n cap, .int .i64 kind] w (TotsOut (totG kind (groupsR (sortL rs))) w) := by
  obtain ⟨i0, hi, hz0, hz1, hz2⟩ := info_parts infoTotal
  have hrl := hR.rows_length
  have hOn := World.ownsRow_lit (base := w.heap.size) (e := 45) (size := 2) w #[] 0 (Nat.le_refl _) (Nat.zero_le _) rfl
  have hb0 := bl1 w (.cells #[] 45)
  have R0 := (hR.below hb0 (Nat.le_refl _)).more hb0.size
  have H0 := Lib.hid (show (w.alloc (.cells #[] 45)).heap.size = w.heap.size + 1 by simp)
  have HF := Lib.hid (fun g hg => group_facts hok (by omega) (g := g) hg)
  have hgl : (groupsR (sortL rs)).length ≤ 120 := by
    have := groupsF_le (sortL rs).length (sortL rs)
    rw [sortL_length] at this
    unfold groupsR
    rw [sortL_length]
    omega
  have hsl : (sortL rs).length = n := by rw [sortL_length, hrl]
  unfold TotsOut
  generalize hT : totG kind (groupsR (sortL rs)) = T
  have HT := Lib.hid hT
  have HK := Lib.hid hkd
  clear hT hR hok hrl hkd
  go_enter Try.func62, Try.ntmps62
  go_wp2_with fail
  generalize w.alloc (.cells #[] 45) = w0 at *
  refine (l3Sort_any a n cap rs w0 (by omega) R0).mono ?_
  rintro e w1 ⟨sa, sc, rfl, hS, hb1⟩
  have R1 := Rd.of_own hS
  have O1 := own_below hOn hb1
  have B1 := hb0.trans (hb1.mono hb0.size)
  have s0 := hb1.size
  clear hS hOn hb0 hb1 R0
  generalize sortL rs = S at *
  go_wp2_with fail
  refine (l4Groups_any sa n sc S w1 (by omega) R1).mono ?_
  rintro e w2 ⟨ga, gc, gs, rfl, hb2, hG⟩
  have O2 := own_below O1 hb2
  have B2 := B1.trans (hb2.mono B1.size)
  have G2 := GIn.of_own hG
  have s1 := hb2.size
  have A2 : Apart w1.heap.size w2.heap.size (.slice (some ⟨w.heap.size, 0, none⟩) 0 0) := Apart.at_ (.inl (by have := H0.out; omega))
  clear hG O1 B1 hb2 R1 H0
  generalize groupsR S = G at *
  obtain ⟨ng, hng⟩ : ∃ k, G.length = k := ⟨_, rfl⟩
  rw [hng] at hgl ⊢
  go_wp2_with fail
  go_loopw [5, 7] (fun v i wr => ∃ (k : Nat) (g : Option Addr) (c : Nat), k ≤ ng ∧ i = .int .i64 k ∧ v = .slice g k c ∧ wr.ownsRow w.heap.size 45 2 (.slice g k c) k (flatT (totG kind (G.take k))) ∧ Below w.heap.size w wr ∧ GIn wr w1.heap.size w2.heap.size ga G ∧ Hid (Apart w1.heap.size w2.heap.size (.slice g k c)) ∧ w2.heap.size ≤ wr.heap.size) (fun _ j _ => ng - (intOf j).toNat)
  case atStart => exact ⟨0, _, _, Nat.zero_le _, rfl, rfl, O2, B2, G2, Lib.hid A2, Nat.le_refl _⟩
  case round =>
    obtain ⟨k, g, c, hk, rfl, rfl, hO, hb, hG, HA, hs⟩ := hrel
    clear O2 B2 G2 A2
    by_cases hlt : k < ng
    · obtain ⟨⟨key, xs⟩, hx⟩ : ∃ x, G[k]? = some x := ⟨_, List.getElem?_eq_getElem (by omega)⟩
      obtain ⟨b, ra, rc, rfl, h1, h2, c0, c1, hxc, hxr⟩ := hG k key xs hx
      have E := Lib.hid (totG_take (n := kind) hx)
      obtain ⟨f1, f2, f3⟩ := HF.out (key, xs) (List.mem_of_getElem? hx)
      simp only at f1 f2 f3
      have CO := Lib.hid (fun (w' : World) (h : Rd w' w'.heap.size 3 ra xs.length (flat xs)) => l7Of_any ra xs.length rc xs kind w' HK.out f1 f2 f3 h)
      have hX : Rd wr.drew wr.drew.heap.size 3 ra xs.length (flat xs) := hxr.rd.more hs
      have HX := Lib.hid hX
      have HO := Lib.hid (show wr.drew.ownsRow w.heap.size 45 2 (.slice g k c) k (flatT (totG kind (G.take k))) from hO)
      have HB := Lib.hid hb.drew
      have HG := Lib.hid (show GIn wr.drew w1.heap.size w2.heap.size (some ⟨b, 0, none⟩) G from hG)
      have hbd : b < wr.drew.heap.size := Nat.lt_of_lt_of_le h2 hs
      have hsd : w2.heap.size ≤ wr.drew.heap.size := hs
      have c0' : wr.drew.cell? ⟨b, k * 2, none⟩ = some (.string key) := c0
      have c1' : wr.drew.cell? ⟨b, k * 2 + 1, none⟩ = some (.slice ra xs.length rc) := c1
      have hl1 : k + 1 ≤ maxLen := by unfold maxLen; omega
      have hl2 : (k + 1) * 24 ≤ 140737488355328 := by omega
      clear hx hxr hX hO hb hG f3 hxc
      generalize totV kind xs = tv at *
      go_wp2_with fail
      go_region_law (first | (refine step_l7Of rfl 28 29 27 2 rfl (.slice ra xs.length rc) (.int .i64 kind) rfl rfl _ (CO.out _ HX.out) ?_; rintro e w3 ⟨rfl, hb3⟩; refine ⟨_, rfl, ?_⟩; have d0 := (hb3.cell (p := ⟨b, k * 2, none⟩) hbd).trans c0'; have hO3 := own_below HO.out hb3; have B3 := HB.out.trans (hb3.mono HB.out.size); have hG3 := HG.out.below hb3 hsd; have s3 := Nat.le_trans hsd hb3.size; have HN := Lib.hid (cell_tot_new w3 key tv 45); have HV := Lib.hid (hO3.alloc (.cells #[.string key, .int .i64 tv] 45)); have hg8 : w.heap.size ≤ (w3.alloc (.cells #[.string key, .int .i64 tv] 45)).heap.size := by have := B3.size; simp; omega) | (refine step_append_one rfl (.tmp 18) (.tmp 32) 24 rfl w.heap.size 45 i0 (.agg #[.string ⟨#[]⟩, .int .i64 0]) 2 24 Try.underlying24 hi hz0 hz1 hz2 rfl (by decide) (.slice g k c) k _ rfl HV.out ⟨w3.heap.size, 0, none⟩ 1 1 [.string key, .int .i64 tv] rfl rfl HN.out (tot_one ⟨key, tv⟩) hl1 hl2 hg8 ?_; intro v' w4 hO4 hg4 hat; obtain ⟨a4, c4, rfl⟩ := own_slice' hO4))
      all_goals
        have hb4 := below_grown1 B3 hO3 hg4
        have hG4 := (hG3.below (bl1 w3 (.cells #[.string key, .int .i64 tv] 45)) s3).gb hg4 (by simp; omega) HA.out
        have HA4 := Lib.hid (HA.out.next1 (by simpa using hat) s3)
        have hs4 := size_grown1 hg4 s3
        have hO5 : w4.ownsRow w.heap.size 45 2 (.slice a4 (k + 1) c4) (k + 1) (flatT (totG kind (G.take (k + 1)))) := by
          rw [E.out, flatT_snoc]; exact hO4
        clear hO4 hg4 hat HO HX HB HG HA E c0' c1' c0 c1 hO3 B3 hG3 s3 HN HV hg8 hb3 d0 CO
        go_wp2_with fail
        go_roundw
        case rel => exact ⟨k + 1, a4, c4, by omega, by go_num, rfl, hO5, hb4, hG4, HA4, hs4⟩
        case measure => simp [intOf]; omega
    · obtain rfl : k = ng := by omega
      have e : G.take k = G := List.take_of_length_le (by omega)
      rw [e, HT.out] at hO
      have HL := Lib.hid (show T.length = k by rw [← HT.out, totG_length, hng])
      clear e
      go_wp2_with fail
      go_ret
      refine ⟨g, c, ?_, hb, ?_⟩
      · rw [HL.out]; rfl
      · rw [HL.out]; exact hO
end Go.Proofs.Ytnmlnenepceabaa

namespace Go.Proofs.Ytnmlnenepceabaa
open Go.RowKit Go.Shelf
attribute [local go_sem] Oper.semAt_some
theorem keeps_of_below2 {W W' : World} (h : Below W.heap.size W W') : KeepsOthers W W' := ⟨h.size, fun i _ hi _ => (h.block i (Array.getElem?_eq_some_iff.1 hi).1).trans hi⟩
/-- One more element at the end of the list in the box: a call, an append, a store. -/
theorem round_row {W w2 w4 : World} {B n₀ k m : Nat} {t e : TypeId} {size : Nat} {v v' : Value} {xs ys : List Value} {o : Obj} (hv : Boxed W B t v) (hte : t ≠ e) (hO : W.ownsRow n₀ e size v k xs) (hn : n₀ ≤ W.heap.size) (hB : n₀ ≤ B) (hb : Below W.heap.size W w2)
    (hg4 : (w2.alloc o).grownBy w4 v.ownBlock) (hO4 : w4.ownsRow n₀ e size v' m ys) :
    Boxed w4 B t v ∧ Boxed (w4.setCell ⟨B, 0, none⟩ v') B t v' ∧ (w4.setCell ⟨B, 0, none⟩ v').ownsRow n₀ e size v' m ys ∧ KeepsOthers W (w4.setCell ⟨B, 0, none⟩ v') ∧ Below n₀ W (w4.setCell ⟨B, 0, none⟩ v') := by
  have hv2 : Boxed w2 B t v := (hb.block _ hv.lt).trans hv
  obtain ⟨h1, h2, h3, h4, h5⟩ := hv2.appended hte (own_below hO hb) (Nat.le_trans hn hb.size) hB hO4 hg4
  exact ⟨h1, h2, h3, (keeps_of_below2 hb).trans h4, (hb.mono hn).trans h5⟩
theorem totG_snocX (n : Int) {w : World} {B : Nat} (l : List (GrpOk w B)) (x : GrpOk w B) : totG n (okGrps (l ++ [x])) = totG n (okGrps l) ++ [⟨x.1.key, totV n x.1.rows⟩] := by
  unfold okGrps
  rw [List.map_append]
  exact totG_snoc n _ _
set_option maxRecDepth 100000 in
set_option maxHeartbeats 4000000 in
theorem implReduced_1 (a : Option Addr) (n cap : Nat) (rs : List RowV) (w : World) (hm : n ≤ 1048576) (hok : ∀ r ∈ rs, r.Ok) (hR : Rd w w.heap.size 3 a n (flat rs)) (hs : rowsOk rs = true) :
    Calls Try.prog 18 #[.slice a n cap, .int .i64 1] w fun e w' => ∃ b c, e = .returned (.tuple #[.slice b (totG 1 (groupsR (sortL rs))).length c, .bool true]) ∧ Below w.heap.size w w' ∧ w'.ownsRow w.heap.size 45 2 (.slice b (totG 1 (groupsR (sortL rs))).length c) (totG 1 (groupsR (sortL rs))).length (flatT (totG 1 (groupsR (sortL rs)))) := by
  obtain ⟨i0, hi, hz0, hz1, hz2⟩ := info_parts infoTotal
  have C0 := implSorted_any a n cap rs w (by omega) hok hR
  unfold SortedOut at C0
  rw [sortedR_yes hs, hs, sortL_length, hR.rows_length] at C0
  have hn120 : n ≤ 120 := by rw [← hR.rows_length]; exact rowsOk_le5 hs
  have hSl : (sortL rs).length = n := by rw [sortL_length, hR.rows_length]
  have HSO := Lib.hid (show ∀ r ∈ sortL rs, r.Ok from fun r hr => hok r ((sortL_perm' rs).mem_iff.1 hr))
  have HSL := Lib.hid hSl
  generalize sortL rs = S at *
  have CB := fun p pc w => byKey_any p n pc w
  have CA := fun w => aggr_1 w
  clear hR hok hs hSl
  refine (callsIn_wide (n := 5)).1 ?_
  refine callsIn_of_wp_marks Try.func18 rfl trivial ?_ rfl
  simp only [Try.ntmps18, List.size_toArray, List.length_cons, List.length_nil, Nat.reduceAdd, Nat.reduceSub, Array.replicate_succ, Array.replicate_zero, List.push_toArray, List.append_toArray, List.nil_append, List.cons_append]
  gi_wp2_with fail
  refine ⟨trivial, ?_⟩
  refine (callsIn_wide.2 C0).mono ?_
  rintro e w1 ⟨p, pc, rfl, hb1, hO1⟩
  obtain ⟨bp, pc', e0, hpc⟩ := own_slice2 hO1
  injection e0 with e1 _ e3
  subst e3
  have R1 := Rd.of_own hO1
  clear C0 hO1 e1
  gi_wp2_with fail
  refine ⟨trivial, ?_⟩
  refine (callsIn_wide.2 (CA _)).mono ?_
  rintro e w2 ⟨rfl, hbA⟩
  have hb2a := hb1.trans (hbA.mono hb1.size)
  have bA := two_cells w2 (.func (.func 105) #[] #[]) (.func (.func 106) #[] #[]) 84 (Below.refl _ _)
  have lA := bl1 w2 (.cells #[.func (.func 105) #[] #[], .func (.func 106) #[] #[]] 84)
  gi_wp2_with fail
  have bF := Boxed.new (w2.alloc (.cells #[.func (.func 105) #[] #[], .func (.func 106) #[] #[]] 84)) 24 (.slice none 0 0)
  rw [World.size_alloc] at bF
  refine ⟨trivial, ?_⟩
  refine (callsIn_wide.2 (CB _ _ _)).mono ?_
  rintro e w2' ⟨rfl, rfl⟩
  gi_wp2_with fail
  have lW0 : Below (w2.heap.size + 1) (w2.alloc (.cells #[.func (.func 105) #[] #[], .func (.func 106) #[] #[]] 84)) (((w2.alloc (.cells #[.func (.func 105) #[] #[], .func (.func 106) #[] #[]] 84)).alloc (.cells #[.slice none 0 0] 24)).alloc (.cells #[.slice p n pc] 27)) := ((Below.refl _ _).alloc (by simp) _).alloc (by first | (simp; done) | (simp; omega)) _
  have cA0 := (lW0.cell (p := ⟨w2.heap.size, 0, none⟩) (by simp)).trans bA.1
  have cA1 := (lW0.cell (p := ⟨w2.heap.size, 1, none⟩) (by simp)).trans bA.2
  have bF3 := bF.alloc (.cells #[.slice p n pc] 27)
  have bC := Boxed.new ((w2.alloc (.cells #[.func (.func 105) #[] #[], .func (.func 106) #[] #[]] 84)).alloc (.cells #[.slice none 0 0] 24)) 27 (.slice p n pc)
  rw [World.size_alloc, World.size_alloc] at bC
  have lW2 := lA.trans (lW0.mono (Nat.le_succ _))
  have hR0 := (R1.below ((hbA).trans (lW2.mono hbA.size)) (Nat.le_refl _)).more (B' := w2.heap.size + 1) (by have := hbA.size; omega)
  have hW0 := hb2a.trans (lW2.mono hb2a.size)
  generalize hWe : (((w2.alloc (.cells #[.func (.func 105) #[] #[], .func (.func 106) #[] #[]] 84)).alloc (.cells #[.slice none 0 0] 24)).alloc (.cells #[.slice p n pc] 27)) = W0 at *
  have hsz : w2.heap.size + 1 ≤ W0.heap.size := Nat.le_of_lt bF3.lt
  clear hWe
  refine wpIn_rangeFunc_ownF rfl (by omega) (gf := 111) (lb := #[.pointer (some ⟨w2.heap.size + 1 + 1, 0, none⟩)]) rfl trivial (enters_of Try.func111 (by kernel_rfl) rfl)
    (byKey_ok _ (w2.heap.size + 1 + 1) (w2.heap.size + 1) p n pc S hn120 hpc HSO.out W0 hsz bC.cell bC.lt hR0) belowK_t (belowK_b hsz) (Below.refl _ _) (fun _ => rfl)
    (fun (pre : List (GrpOk W0 (w2.heap.size + 1))) W => (∃ v, Boxed W (w2.heap.size + 1) 24 v ∧ W.ownsRow (w2.heap.size + 1) 45 2 v (totG 1 (okGrps pre)).length (flatT (totG 1 (okGrps pre))) ∧ True) ∧ Below (w2.heap.size + 1) W0 W)
    (fun _ _ _ => False)
    (OwnFrom.and (Own.from (holdsRow_own (w2.heap.size + 1) (w2.heap.size + 1) 24 45 2 (fun pre => (totG 1 (okGrps pre)).length) (fun pre => flatT (totG 1 (okGrps pre))) (fun _ _ => True)) _) (ownFrom_below hsz hsz))
    (fun _ _ _ _ _ hs _ _ => hs)
    ⟨⟨_, bF3, World.ownsRow_nil _ _ _ _, trivial⟩, Below.refl _ _⟩
    (fun x => { tmps := #[.slice a n cap, .int .i64 1, undef, undef, .slice none 0 0, .bool false, .slice p n pc, .bool true, .pointer (some ⟨w2.heap.size, 0, none⟩), .bool true, .pointer (some ⟨w2.heap.size + 1, 0, none⟩), .string x.1.key, .slice x.1.a x.1.n x.1.c, .tuple #[.slice p n pc, .bool true], .slice a n cap, .tuple #[.slice p n pc, .bool true], .slice p n pc, .bool true, .tuple #[.agg #[.func (.func 105) #[] #[], .func (.func 106) #[] #[]], .bool true], .int .i64 1, .tuple #[.agg #[.func (.func 105) #[] #[], .func (.func 106) #[] #[]], .bool true], .agg #[.func (.func 105) #[] #[], .func (.func 106) #[] #[]], .bool true, .bool true, .bool false, .bool false, .bool true, .bool false, .bool false, .slice p n pc, .func (.func 111) #[] #[.pointer (some ⟨w2.heap.size + 1 + 1, 0, none⟩)], .string x.1.key, .slice x.1.a x.1.n x.1.c, undef, undef, undef, undef, undef, undef, undef, undef, undef, undef], defers := [] })
    ?assign ?body ?done ?stop
  case assign =>
    intro l x W K hK
    simp only [okGrpV] at *
    gi_wp2_with fail
    exact hK
  case body =>
    rintro l pre x W ⟨⟨v, hv, hrow, _⟩, hB⟩ hlt
    have hEq0 := totG_snocX 1 pre x
    have hxR := x.2.1
    have hxc := x.2.2.1
    have hxm := x.2.2.2.1.1
    have hx1 := x.2.2.2.1.2.1
    have hxo := x.2.2.2.1.2.2
    obtain ⟨⟨key, xa, xn, xc, rows⟩, hxp⟩ := x
    dsimp only at hxR hxc hxm hx1 hxo hEq0 ⊢
    have hxl : rows.length = xn := hxR.rows_length
    have HEQ := Lib.hid hEq0
    have HVT := Lib.hid (show totV 1 rows = ((xn : Nat) : Int) from by rw [← hxl]; rfl)
    have hDl : (totG 1 (okGrps pre)).length ≤ 120 := by rw [totG_length, show (okGrps pre).length = pre.length from List.length_map _]; have := HSL.out; omega
    clear hEq0
    generalize totG 1 (okGrps pre) = D at *
    obtain ⟨b, c, rfl, hbc⟩ := own_slice2 hrow
    have hc := hv.cell
    have hsW : w2.heap.size + 1 ≤ W.heap.size := Nat.le_trans hsz hB.size
    have RN : Rd W.drew (w2.heap.size + 1) 3 xa xn (flat rows) := hxR.below hB.drew (Nat.le_refl _)
    have RX : Rd W.drew W.drew.heap.size 3 xa xn (flat rows) := RN.more hsW
    have k0 : W.cell? ⟨w2.heap.size, 0, none⟩ = some (.func (.func 105) #[] #[]) := (hB.cell (p := ⟨w2.heap.size, 0, none⟩) (Nat.lt_succ_self _)).trans cA0
    clear cA0 cA1
    refine wpIn_block ?_
    refine wpIn_region_round (by kernel_rfl) (by rfl) (by rintro ⟨a, w, h⟩; exact h) ?_
    refine wpAny_take (i := 1) (v := .string key) rfl (by kernel_rfl) (by kernel_rfl) (by kernel_rfl) (fun _ _ _ h => h) (Or.inl ⟨by rfl, fun w => by go_simp⟩) ?_
    refine wpAny_take (i := 2) (v := .pointer (some ⟨w2.heap.size, 0, none⟩)) rfl (by kernel_rfl) (by kernel_rfl) (by kernel_rfl) (fun _ _ _ h => h) (Or.inl ⟨by rfl, fun w => by go_simp⟩) ?_
    refine wpAny_take (i := 4) (v := .slice xa xn xc) rfl (by kernel_rfl) (by kernel_rfl) (by kernel_rfl) (fun _ _ _ h => h) (Or.inl ⟨by rfl, fun w => by go_simp⟩) ?_
    refine wpAny_ready (rs := [0, 3]) (by kernel_rfl) (by simp) ?_
    refine AllReady.cons rfl (fun K hK => ?_) ?_
    · go_simp
      refine hK _ _ ?_
      clear hK K
      refine wpAny_ready (rs := [3]) (by kernel_rfl) (by simp) ?_
      refine AllReady.cons rfl (fun K hK => ?_) AllReady.nil
      go_simp
      refine hK _ _ ?_
      clear hK K
      refine wpAny_ready (rs := [5]) (by kernel_rfl) (by simp) ?_
      refine AllReady.cons rfl (fun K hK => ?_) AllReady.nil
      go_simp
      refine (numberOfRows_any xa xn xc W.drew).mono ?_
      rintro e w2x ⟨rfl, hw2⟩
      have hb2 : Below W.heap.size W w2x := by rw [hw2]; exact (Below.refl W.heap.size W).drew
      clear hw2
      rw [← HVT.out]
      refine hK _ _ ?_
      clear hK K
      refine wpAny_take (i := 6) (v := .agg #[.string key, .int .i64 (totV 1 rows)]) rfl (by kernel_rfl) (by kernel_rfl) (by kernel_rfl) (fun _ _ _ h => h) (Or.inl ⟨by rfl, fun w => by go_simp⟩) ?_
      have hv2 : Boxed w2x (w2.heap.size + 1) 24 (.slice b D.length c) := (hb2.block _ hv.lt).trans hv
      have hc2 := hv2.cell
      have hc2a := (hv2.alloc (.cells #[.string key, .int .i64 (totV 1 rows)] 45)).cell
      refine wpAny_ready (rs := [7]) (by kernel_rfl) (by simp) ?_
      refine AllReady.cons rfl (fun K hK => ?_) AllReady.nil
      go_simp
      refine hK _ _ ?_
      clear hK K
      refine wpAny_ready (rs := [8]) (by kernel_rfl) (by simp) ?_
      refine AllReady.cons rfl (fun K hK => ?_) AllReady.nil
      refine step_append_one rfl _ _ 24 rfl (w2.heap.size + 1) 45 i0 (.agg #[.string ⟨#[]⟩, .int .i64 0]) 2 24 Try.underlying24 hi hz0 hz1 hz2 rfl (by decide) (.slice b D.length c) _ _ rfl ((own_below hrow hb2).alloc _) ⟨w2x.heap.size, 0, none⟩ 1 1 [.string key, .int .i64 (totV 1 rows)] rfl rfl (cell_tot_new _ _ _ _) (tot_one ⟨key, totV 1 rows⟩) (by unfold maxLen; omega) (by omega) (by have := hb2.size; simp; omega) ?_
      intro v' w4 hO4 hg4 hat
      obtain ⟨a4, c4, rfl⟩ := own_slice' hO4
      obtain ⟨hv4, hv5, hr5, hk5, hb5⟩ := round_row hv (by decide) hrow hsW (Nat.le_refl _) hb2 hg4 hO4
      have hc4 := hv4.cell
      have hz4 := hv4.frozen
      refine hK _ _ ?_
      clear hK K
      refine wpAny_ready (rs := [9]) (by kernel_rfl) (by simp) ?_
      refine AllReady.cons rfl (fun K hK => ?_) AllReady.nil
      go_simp
      refine hK _ _ ?_
      clear hK K
      refine wpAny_done (by kernel_rfl) ?_ _
      exact ⟨hk5, hb5, ⟨_, hv5, by rw [HEQ.out, List.length_append, flatT_snoc]; exact hr5, trivial⟩, hB.trans hb5⟩
    · refine AllReady.cons rfl (fun K hK => ?_) AllReady.nil
      go_simp
      refine hK _ _ ?_
      clear hK K
      refine wpAny_ready (rs := [0, 5]) (by kernel_rfl) (by simp) ?_
      refine AllReady.cons rfl (fun K hK => ?_) ?_
      · go_simp
        refine hK _ _ ?_
        clear hK K
        refine wpAny_ready (rs := [5]) (by kernel_rfl) (by simp) ?_
        refine AllReady.cons rfl (fun K hK => ?_) AllReady.nil
        go_simp
        refine (numberOfRows_any xa xn xc W.drew).mono ?_
        rintro e w2x ⟨rfl, hw2⟩
        have hb2 : Below W.heap.size W w2x := by rw [hw2]; exact (Below.refl W.heap.size W).drew
        clear hw2
        rw [← HVT.out]
        refine hK _ _ ?_
        clear hK K
        refine wpAny_take (i := 6) (v := .agg #[.string key, .int .i64 (totV 1 rows)]) rfl (by kernel_rfl) (by kernel_rfl) (by kernel_rfl) (fun _ _ _ h => h) (Or.inl ⟨by rfl, fun w => by go_simp⟩) ?_
        have hv2 : Boxed w2x (w2.heap.size + 1) 24 (.slice b D.length c) := (hb2.block _ hv.lt).trans hv
        have hc2 := hv2.cell
        have hc2a := (hv2.alloc (.cells #[.string key, .int .i64 (totV 1 rows)] 45)).cell
        refine wpAny_ready (rs := [7]) (by kernel_rfl) (by simp) ?_
        refine AllReady.cons rfl (fun K hK => ?_) AllReady.nil
        go_simp
        refine hK _ _ ?_
        clear hK K
        refine wpAny_ready (rs := [8]) (by kernel_rfl) (by simp) ?_
        refine AllReady.cons rfl (fun K hK => ?_) AllReady.nil
        refine step_append_one rfl _ _ 24 rfl (w2.heap.size + 1) 45 i0 (.agg #[.string ⟨#[]⟩, .int .i64 0]) 2 24 Try.underlying24 hi hz0 hz1 hz2 rfl (by decide) (.slice b D.length c) _ _ rfl ((own_below hrow hb2).alloc _) ⟨w2x.heap.size, 0, none⟩ 1 1 [.string key, .int .i64 (totV 1 rows)] rfl rfl (cell_tot_new _ _ _ _) (tot_one ⟨key, totV 1 rows⟩) (by unfold maxLen; omega) (by omega) (by have := hb2.size; simp; omega) ?_
        intro v' w4 hO4 hg4 hat
        obtain ⟨a4, c4, rfl⟩ := own_slice' hO4
        obtain ⟨hv4, hv5, hr5, hk5, hb5⟩ := round_row hv (by decide) hrow hsW (Nat.le_refl _) hb2 hg4 hO4
        have hc4 := hv4.cell
        have hz4 := hv4.frozen
        refine hK _ _ ?_
        clear hK K
        refine wpAny_ready (rs := [9]) (by kernel_rfl) (by simp) ?_
        refine AllReady.cons rfl (fun K hK => ?_) AllReady.nil
        go_simp
        refine hK _ _ ?_
        clear hK K
        refine wpAny_done (by kernel_rfl) ?_ _
        exact ⟨hk5, hb5, ⟨_, hv5, by rw [HEQ.out, List.length_append, flatT_snoc]; exact hr5, trivial⟩, hB.trans hb5⟩
      · refine AllReady.cons rfl (fun K hK => ?_) AllReady.nil
        go_simp
        refine (numberOfRows_any xa xn xc W.drew).mono ?_
        rintro e w2x ⟨rfl, hw2⟩
        have hb2 : Below W.heap.size W w2x := by rw [hw2]; exact (Below.refl W.heap.size W).drew
        clear hw2
        rw [← HVT.out]
        refine hK _ _ ?_
        clear hK K
        refine wpAny_take (i := 6) (v := .agg #[.string key, .int .i64 (totV 1 rows)]) rfl (by kernel_rfl) (by kernel_rfl) (by kernel_rfl) (fun _ _ _ h => h) (Or.inl ⟨by rfl, fun w => by go_simp⟩) ?_
        have hv2 : Boxed w2x (w2.heap.size + 1) 24 (.slice b D.length c) := (hb2.block _ hv.lt).trans hv
        have hc2 := hv2.cell
        have hc2a := (hv2.alloc (.cells #[.string key, .int .i64 (totV 1 rows)] 45)).cell
        refine wpAny_ready (rs := [0, 7]) (by kernel_rfl) (by simp) ?_
        refine AllReady.cons rfl (fun K hK => ?_) ?_
        · go_simp
          refine hK _ _ ?_
          clear hK K
          refine wpAny_ready (rs := [7]) (by kernel_rfl) (by simp) ?_
          refine AllReady.cons rfl (fun K hK => ?_) AllReady.nil
          go_simp
          refine hK _ _ ?_
          clear hK K
          refine wpAny_ready (rs := [8]) (by kernel_rfl) (by simp) ?_
          refine AllReady.cons rfl (fun K hK => ?_) AllReady.nil
          refine step_append_one rfl _ _ 24 rfl (w2.heap.size + 1) 45 i0 (.agg #[.string ⟨#[]⟩, .int .i64 0]) 2 24 Try.underlying24 hi hz0 hz1 hz2 rfl (by decide) (.slice b D.length c) _ _ rfl ((own_below hrow hb2).alloc _) ⟨w2x.heap.size, 0, none⟩ 1 1 [.string key, .int .i64 (totV 1 rows)] rfl rfl (cell_tot_new _ _ _ _) (tot_one ⟨key, totV 1 rows⟩) (by unfold maxLen; omega) (by omega) (by have := hb2.size; simp; omega) ?_
          intro v' w4 hO4 hg4 hat
          obtain ⟨a4, c4, rfl⟩ := own_slice' hO4
          obtain ⟨hv4, hv5, hr5, hk5, hb5⟩ := round_row hv (by decide) hrow hsW (Nat.le_refl _) hb2 hg4 hO4
          have hc4 := hv4.cell
          have hz4 := hv4.frozen
          refine hK _ _ ?_
          clear hK K
          refine wpAny_ready (rs := [9]) (by kernel_rfl) (by simp) ?_
          refine AllReady.cons rfl (fun K hK => ?_) AllReady.nil
          go_simp
          refine hK _ _ ?_
          clear hK K
          refine wpAny_done (by kernel_rfl) ?_ _
          exact ⟨hk5, hb5, ⟨_, hv5, by rw [HEQ.out, List.length_append, flatT_snoc]; exact hr5, trivial⟩, hB.trans hb5⟩
        · refine AllReady.cons rfl (fun K hK => ?_) AllReady.nil
          go_simp
          refine hK _ _ ?_
          clear hK K
          refine wpAny_ready (rs := [0]) (by kernel_rfl) (by simp) ?_
          refine AllReady.cons rfl (fun K hK => ?_) AllReady.nil
          go_simp
          refine hK _ _ ?_
          clear hK K
          refine wpAny_ready (rs := [8]) (by kernel_rfl) (by simp) ?_
          refine AllReady.cons rfl (fun K hK => ?_) AllReady.nil
          refine step_append_one rfl _ _ 24 rfl (w2.heap.size + 1) 45 i0 (.agg #[.string ⟨#[]⟩, .int .i64 0]) 2 24 Try.underlying24 hi hz0 hz1 hz2 rfl (by decide) (.slice b D.length c) _ _ rfl ((own_below hrow hb2).alloc _) ⟨w2x.heap.size, 0, none⟩ 1 1 [.string key, .int .i64 (totV 1 rows)] rfl rfl (cell_tot_new _ _ _ _) (tot_one ⟨key, totV 1 rows⟩) (by unfold maxLen; omega) (by omega) (by have := hb2.size; simp; omega) ?_
          intro v' w4 hO4 hg4 hat
          obtain ⟨a4, c4, rfl⟩ := own_slice' hO4
          obtain ⟨hv4, hv5, hr5, hk5, hb5⟩ := round_row hv (by decide) hrow hsW (Nat.le_refl _) hb2 hg4 hO4
          have hc4 := hv4.cell
          have hz4 := hv4.frozen
          refine hK _ _ ?_
          clear hK K
          refine wpAny_ready (rs := [9]) (by kernel_rfl) (by simp) ?_
          refine AllReady.cons rfl (fun K hK => ?_) AllReady.nil
          go_simp
          refine hK _ _ ?_
          clear hK K
          refine wpAny_done (by kernel_rfl) ?_ _
          exact ⟨hk5, hb5, ⟨_, hv5, by rw [HEQ.out, List.length_append, flatT_snoc]; exact hr5, trivial⟩, hB.trans hb5⟩
  case done =>
    rintro D ys W hD hys ⟨⟨v, hv, hrow, _⟩, hB⟩ hK
    rw [hys] at hrow
    obtain ⟨fb, fc, rfl, _⟩ := own_slice2 hrow
    have hc := hv.cell
    gi_wp2_with fail
    refine ⟨by simp, .inl ⟨_, _, rfl, run_takeDeferred hK, ?_⟩⟩
    exact ⟨_, results_tmp2 rfl _ _ _, fb, fc, by simp, (hW0.trans (hB.mono (by have := hb2a.size; omega))).trans (belowK_b (w := w) (Nat.le_refl _) W D _ _ (by have := hW0.size; omega) hK rfl rfl), own_base' (ownsRow_putObj hrow _ hK rfl) (by have := hb2a.size; omega)⟩
  case stop =>
    rintro D c pre W _ _ h _
    exact h.elim
set_option maxRecDepth 100000 in
set_option maxHeartbeats 4000000 in
theorem implReduced_2 (a : Option Addr) (n cap : Nat) (rs : List RowV) (w : World) (hm : n ≤ 1048576) (hok : ∀ r ∈ rs, r.Ok) (hR : Rd w w.heap.size 3 a n (flat rs)) (hs : rowsOk rs = true) :
    Calls Try.prog 18 #[.slice a n cap, .int .i64 2] w fun e w' => ∃ b c, e = .returned (.tuple #[.slice b (totG 2 (groupsR (sortL rs))).length c, .bool true]) ∧ Below w.heap.size w w' ∧ w'.ownsRow w.heap.size 45 2 (.slice b (totG 2 (groupsR (sortL rs))).length c) (totG 2 (groupsR (sortL rs))).length (flatT (totG 2 (groupsR (sortL rs)))) := by
  obtain ⟨i0, hi, hz0, hz1, hz2⟩ := info_parts infoTotal
  have C0 := implSorted_any a n cap rs w (by omega) hok hR
  unfold SortedOut at C0
  rw [sortedR_yes hs, hs, sortL_length, hR.rows_length] at C0
  have hn120 : n ≤ 120 := by rw [← hR.rows_length]; exact rowsOk_le5 hs
  have hSl : (sortL rs).length = n := by rw [sortL_length, hR.rows_length]
  have HSO := Lib.hid (show ∀ r ∈ sortL rs, r.Ok from fun r hr => hok r ((sortL_perm' rs).mem_iff.1 hr))
  have HSL := Lib.hid hSl
  generalize sortL rs = S at *
  have CB := fun p pc w => byKey_any p n pc w
  have CA := fun w => aggr_2 w
  clear hR hok hs hSl
  refine (callsIn_wide (n := 5)).1 ?_
  refine callsIn_of_wp_marks Try.func18 rfl trivial ?_ rfl
  simp only [Try.ntmps18, List.size_toArray, List.length_cons, List.length_nil, Nat.reduceAdd, Nat.reduceSub, Array.replicate_succ, Array.replicate_zero, List.push_toArray, List.append_toArray, List.nil_append, List.cons_append]
  gi_wp2_with fail
  refine ⟨trivial, ?_⟩
  refine (callsIn_wide.2 C0).mono ?_
  rintro e w1 ⟨p, pc, rfl, hb1, hO1⟩
  obtain ⟨bp, pc', e0, hpc⟩ := own_slice2 hO1
  injection e0 with e1 _ e3
  subst e3
  have R1 := Rd.of_own hO1
  clear C0 hO1 e1
  gi_wp2_with fail
  refine ⟨trivial, ?_⟩
  refine (callsIn_wide.2 (CA _)).mono ?_
  rintro e w2 ⟨B, hB1, hB2, hBc, rfl, hbA⟩
  have hb2a := hb1.trans (hbA.mono hb1.size)
  have bA := two_cells w2 (.func (.func 135) #[] #[.pointer (some ⟨B, 0, none⟩)]) (.func (.func 106) #[] #[]) 84 (Below.refl _ _)
  have lA := bl1 w2 (.cells #[.func (.func 135) #[] #[.pointer (some ⟨B, 0, none⟩)], .func (.func 106) #[] #[]] 84)
  gi_wp2_with fail
  have bF := Boxed.new (w2.alloc (.cells #[.func (.func 135) #[] #[.pointer (some ⟨B, 0, none⟩)], .func (.func 106) #[] #[]] 84)) 24 (.slice none 0 0)
  rw [World.size_alloc] at bF
  refine ⟨trivial, ?_⟩
  refine (callsIn_wide.2 (CB _ _ _)).mono ?_
  rintro e w2' ⟨rfl, rfl⟩
  gi_wp2_with fail
  have lW0 : Below (w2.heap.size + 1) (w2.alloc (.cells #[.func (.func 135) #[] #[.pointer (some ⟨B, 0, none⟩)], .func (.func 106) #[] #[]] 84)) (((w2.alloc (.cells #[.func (.func 135) #[] #[.pointer (some ⟨B, 0, none⟩)], .func (.func 106) #[] #[]] 84)).alloc (.cells #[.slice none 0 0] 24)).alloc (.cells #[.slice p n pc] 27)) := ((Below.refl _ _).alloc (by simp) _).alloc (by first | (simp; done) | (simp; omega)) _
  have cA0 := (lW0.cell (p := ⟨w2.heap.size, 0, none⟩) (by simp)).trans bA.1
  have cA1 := (lW0.cell (p := ⟨w2.heap.size, 1, none⟩) (by simp)).trans bA.2
  have bF3 := bF.alloc (.cells #[.slice p n pc] 27)
  have bC := Boxed.new ((w2.alloc (.cells #[.func (.func 135) #[] #[.pointer (some ⟨B, 0, none⟩)], .func (.func 106) #[] #[]] 84)).alloc (.cells #[.slice none 0 0] 24)) 27 (.slice p n pc)
  rw [World.size_alloc, World.size_alloc] at bC
  have lW2 := lA.trans (lW0.mono (Nat.le_succ _))
  have hR0 := (R1.below ((hbA).trans (lW2.mono hbA.size)) (Nat.le_refl _)).more (B' := w2.heap.size + 1) (by have := hbA.size; omega)
  have hW0 := hb2a.trans (lW2.mono hb2a.size)
  have cB0 := (lA.cell (p := ⟨B, 0, none⟩) hB2).trans hBc
  have cB1 := (lW0.cell (p := ⟨B, 0, none⟩) (by show B < w2.heap.size + 1; omega)).trans cB0
  generalize hWe : (((w2.alloc (.cells #[.func (.func 135) #[] #[.pointer (some ⟨B, 0, none⟩)], .func (.func 106) #[] #[]] 84)).alloc (.cells #[.slice none 0 0] 24)).alloc (.cells #[.slice p n pc] 27)) = W0 at *
  have hsz : w2.heap.size + 1 ≤ W0.heap.size := Nat.le_of_lt bF3.lt
  clear hWe
  refine wpIn_rangeFunc_ownF rfl (by omega) (gf := 111) (lb := #[.pointer (some ⟨w2.heap.size + 1 + 1, 0, none⟩)]) rfl trivial (enters_of Try.func111 (by kernel_rfl) rfl)
    (byKey_ok _ (w2.heap.size + 1 + 1) (w2.heap.size + 1) p n pc S hn120 hpc HSO.out W0 hsz bC.cell bC.lt hR0) belowK_t (belowK_b hsz) (Below.refl _ _) (fun _ => rfl)
    (fun (pre : List (GrpOk W0 (w2.heap.size + 1))) W => (∃ v, Boxed W (w2.heap.size + 1) 24 v ∧ W.ownsRow (w2.heap.size + 1) 45 2 v (totG 2 (okGrps pre)).length (flatT (totG 2 (okGrps pre))) ∧ True) ∧ Below (w2.heap.size + 1) W0 W)
    (fun _ _ _ => False)
    (OwnFrom.and (Own.from (holdsRow_own (w2.heap.size + 1) (w2.heap.size + 1) 24 45 2 (fun pre => (totG 2 (okGrps pre)).length) (fun pre => flatT (totG 2 (okGrps pre))) (fun _ _ => True)) _) (ownFrom_below hsz hsz))
    (fun _ _ _ _ _ hs _ _ => hs)
    ⟨⟨_, bF3, World.ownsRow_nil _ _ _ _, trivial⟩, Below.refl _ _⟩
    (fun x => { tmps := #[.slice a n cap, .int .i64 2, undef, undef, .slice none 0 0, .bool false, .slice p n pc, .bool true, .pointer (some ⟨w2.heap.size, 0, none⟩), .bool true, .pointer (some ⟨w2.heap.size + 1, 0, none⟩), .string x.1.key, .slice x.1.a x.1.n x.1.c, .tuple #[.slice p n pc, .bool true], .slice a n cap, .tuple #[.slice p n pc, .bool true], .slice p n pc, .bool true, .tuple #[.agg #[.func (.func 135) #[] #[.pointer (some ⟨B, 0, none⟩)], .func (.func 106) #[] #[]], .bool true], .int .i64 2, .tuple #[.agg #[.func (.func 135) #[] #[.pointer (some ⟨B, 0, none⟩)], .func (.func 106) #[] #[]], .bool true], .agg #[.func (.func 135) #[] #[.pointer (some ⟨B, 0, none⟩)], .func (.func 106) #[] #[]], .bool true, .bool true, .bool false, .bool false, .bool true, .bool false, .bool false, .slice p n pc, .func (.func 111) #[] #[.pointer (some ⟨w2.heap.size + 1 + 1, 0, none⟩)], .string x.1.key, .slice x.1.a x.1.n x.1.c, undef, undef, undef, undef, undef, undef, undef, undef, undef, undef], defers := [] })
    ?assign ?body ?done ?stop
  case assign =>
    intro l x W K hK
    simp only [okGrpV] at *
    gi_wp2_with fail
    exact hK
  case body =>
    rintro l pre x W ⟨⟨v, hv, hrow, _⟩, hB⟩ hlt
    have hEq0 := totG_snocX 2 pre x
    have hxR := x.2.1
    have hxc := x.2.2.1
    have hxm := x.2.2.2.1.1
    have hx1 := x.2.2.2.1.2.1
    have hxo := x.2.2.2.1.2.2
    obtain ⟨⟨key, xa, xn, xc, rows⟩, hxp⟩ := x
    dsimp only at hxR hxc hxm hx1 hxo hEq0 ⊢
    have hxl : rows.length = xn := hxR.rows_length
    have HEQ := Lib.hid hEq0
    have HVT := Lib.hid (show totV 2 rows = foldV (· + ·) rows from by rw [foldV_sum]; rfl)
    have hDl : (totG 2 (okGrps pre)).length ≤ 120 := by rw [totG_length, show (okGrps pre).length = pre.length from List.length_map _]; have := HSL.out; omega
    clear hEq0
    generalize totG 2 (okGrps pre) = D at *
    obtain ⟨b, c, rfl, hbc⟩ := own_slice2 hrow
    have hc := hv.cell
    have hsW : w2.heap.size + 1 ≤ W.heap.size := Nat.le_trans hsz hB.size
    have RN : Rd W.drew (w2.heap.size + 1) 3 xa xn (flat rows) := hxR.below hB.drew (Nat.le_refl _)
    have RX : Rd W.drew W.drew.heap.size 3 xa xn (flat rows) := RN.more hsW
    have k0 : W.cell? ⟨w2.heap.size, 0, none⟩ = some (.func (.func 135) #[] #[.pointer (some ⟨B, 0, none⟩)]) := (hB.cell (p := ⟨w2.heap.size, 0, none⟩) (Nat.lt_succ_self _)).trans cA0
    have cB : W.drew.cell? ⟨B, 0, none⟩ = some (.func (.func 106) #[] #[]) := (hB.drew.cell (p := ⟨B, 0, none⟩) (by show B < w2.heap.size + 1; omega)).trans cB1
    have BX : B < W.drew.heap.size := by show B < W.heap.size; omega
    clear cA0 cA1
    refine wpIn_block ?_
    refine wpIn_region_round (by kernel_rfl) (by rfl) (by rintro ⟨a, w, h⟩; exact h) ?_
    refine wpAny_take (i := 1) (v := .string key) rfl (by kernel_rfl) (by kernel_rfl) (by kernel_rfl) (fun _ _ _ h => h) (Or.inl ⟨by rfl, fun w => by go_simp⟩) ?_
    refine wpAny_take (i := 2) (v := .pointer (some ⟨w2.heap.size, 0, none⟩)) rfl (by kernel_rfl) (by kernel_rfl) (by kernel_rfl) (fun _ _ _ h => h) (Or.inl ⟨by rfl, fun w => by go_simp⟩) ?_
    refine wpAny_take (i := 4) (v := .slice xa xn xc) rfl (by kernel_rfl) (by kernel_rfl) (by kernel_rfl) (fun _ _ _ h => h) (Or.inl ⟨by rfl, fun w => by go_simp⟩) ?_
    refine wpAny_ready (rs := [0, 3]) (by kernel_rfl) (by simp) ?_
    refine AllReady.cons rfl (fun K hK => ?_) ?_
    · go_simp
      refine hK _ _ ?_
      clear hK K
      refine wpAny_ready (rs := [3]) (by kernel_rfl) (by simp) ?_
      refine AllReady.cons rfl (fun K hK => ?_) AllReady.nil
      go_simp
      refine hK _ _ ?_
      clear hK K
      refine wpAny_ready (rs := [5]) (by kernel_rfl) (by simp) ?_
      refine AllReady.cons rfl (fun K hK => ?_) AllReady.nil
      go_simp
      refine (over_plus xa xn xc B (w2.heap.size + 1) rows W.drew hx1 hxm hxc hxo hsW RN cB BX).mono ?_
      rintro e w2x ⟨rfl, hb2x⟩
      have hb2 : Below W.heap.size W w2x := (Below.refl W.heap.size W).drew.trans hb2x
      rw [← HVT.out]
      refine hK _ _ ?_
      clear hK K
      refine wpAny_take (i := 6) (v := .agg #[.string key, .int .i64 (totV 2 rows)]) rfl (by kernel_rfl) (by kernel_rfl) (by kernel_rfl) (fun _ _ _ h => h) (Or.inl ⟨by rfl, fun w => by go_simp⟩) ?_
      have hv2 : Boxed w2x (w2.heap.size + 1) 24 (.slice b D.length c) := (hb2.block _ hv.lt).trans hv
      have hc2 := hv2.cell
      have hc2a := (hv2.alloc (.cells #[.string key, .int .i64 (totV 2 rows)] 45)).cell
      refine wpAny_ready (rs := [7]) (by kernel_rfl) (by simp) ?_
      refine AllReady.cons rfl (fun K hK => ?_) AllReady.nil
      go_simp
      refine hK _ _ ?_
      clear hK K
      refine wpAny_ready (rs := [8]) (by kernel_rfl) (by simp) ?_
      refine AllReady.cons rfl (fun K hK => ?_) AllReady.nil
      refine step_append_one rfl _ _ 24 rfl (w2.heap.size + 1) 45 i0 (.agg #[.string ⟨#[]⟩, .int .i64 0]) 2 24 Try.underlying24 hi hz0 hz1 hz2 rfl (by decide) (.slice b D.length c) _ _ rfl ((own_below hrow hb2).alloc _) ⟨w2x.heap.size, 0, none⟩ 1 1 [.string key, .int .i64 (totV 2 rows)] rfl rfl (cell_tot_new _ _ _ _) (tot_one ⟨key, totV 2 rows⟩) (by unfold maxLen; omega) (by omega) (by have := hb2.size; simp; omega) ?_
      intro v' w4 hO4 hg4 hat
      obtain ⟨a4, c4, rfl⟩ := own_slice' hO4
      obtain ⟨hv4, hv5, hr5, hk5, hb5⟩ := round_row hv (by decide) hrow hsW (Nat.le_refl _) hb2 hg4 hO4
      have hc4 := hv4.cell
      have hz4 := hv4.frozen
      refine hK _ _ ?_
      clear hK K
      refine wpAny_ready (rs := [9]) (by kernel_rfl) (by simp) ?_
      refine AllReady.cons rfl (fun K hK => ?_) AllReady.nil
      go_simp
      refine hK _ _ ?_
      clear hK K
      refine wpAny_done (by kernel_rfl) ?_ _
      exact ⟨hk5, hb5, ⟨_, hv5, by rw [HEQ.out, List.length_append, flatT_snoc]; exact hr5, trivial⟩, hB.trans hb5⟩
    · refine AllReady.cons rfl (fun K hK => ?_) AllReady.nil
      go_simp
      refine hK _ _ ?_
      clear hK K
      refine wpAny_ready (rs := [0, 5]) (by kernel_rfl) (by simp) ?_
      refine AllReady.cons rfl (fun K hK => ?_) ?_
      · go_simp
        refine hK _ _ ?_
        clear hK K
        refine wpAny_ready (rs := [5]) (by kernel_rfl) (by simp) ?_
        refine AllReady.cons rfl (fun K hK => ?_) AllReady.nil
        go_simp
        refine (over_plus xa xn xc B (w2.heap.size + 1) rows W.drew hx1 hxm hxc hxo hsW RN cB BX).mono ?_
        rintro e w2x ⟨rfl, hb2x⟩
        have hb2 : Below W.heap.size W w2x := (Below.refl W.heap.size W).drew.trans hb2x
        rw [← HVT.out]
        refine hK _ _ ?_
        clear hK K
        refine wpAny_take (i := 6) (v := .agg #[.string key, .int .i64 (totV 2 rows)]) rfl (by kernel_rfl) (by kernel_rfl) (by kernel_rfl) (fun _ _ _ h => h) (Or.inl ⟨by rfl, fun w => by go_simp⟩) ?_
        have hv2 : Boxed w2x (w2.heap.size + 1) 24 (.slice b D.length c) := (hb2.block _ hv.lt).trans hv
        have hc2 := hv2.cell
        have hc2a := (hv2.alloc (.cells #[.string key, .int .i64 (totV 2 rows)] 45)).cell
        refine wpAny_ready (rs := [7]) (by kernel_rfl) (by simp) ?_
        refine AllReady.cons rfl (fun K hK => ?_) AllReady.nil
        go_simp
        refine hK _ _ ?_
        clear hK K
        refine wpAny_ready (rs := [8]) (by kernel_rfl) (by simp) ?_
        refine AllReady.cons rfl (fun K hK => ?_) AllReady.nil
        refine step_append_one rfl _ _ 24 rfl (w2.heap.size + 1) 45 i0 (.agg #[.string ⟨#[]⟩, .int .i64 0]) 2 24 Try.underlying24 hi hz0 hz1 hz2 rfl (by decide) (.slice b D.length c) _ _ rfl ((own_below hrow hb2).alloc _) ⟨w2x.heap.size, 0, none⟩ 1 1 [.string key, .int .i64 (totV 2 rows)] rfl rfl (cell_tot_new _ _ _ _) (tot_one ⟨key, totV 2 rows⟩) (by unfold maxLen; omega) (by omega) (by have := hb2.size; simp; omega) ?_
        intro v' w4 hO4 hg4 hat
        obtain ⟨a4, c4, rfl⟩ := own_slice' hO4
        obtain ⟨hv4, hv5, hr5, hk5, hb5⟩ := round_row hv (by decide) hrow hsW (Nat.le_refl _) hb2 hg4 hO4
        have hc4 := hv4.cell
        have hz4 := hv4.frozen
        refine hK _ _ ?_
        clear hK K
        refine wpAny_ready (rs := [9]) (by kernel_rfl) (by simp) ?_
        refine AllReady.cons rfl (fun K hK => ?_) AllReady.nil
        go_simp
        refine hK _ _ ?_
        clear hK K
        refine wpAny_done (by kernel_rfl) ?_ _
        exact ⟨hk5, hb5, ⟨_, hv5, by rw [HEQ.out, List.length_append, flatT_snoc]; exact hr5, trivial⟩, hB.trans hb5⟩
      · refine AllReady.cons rfl (fun K hK => ?_) AllReady.nil
        go_simp
        refine (over_plus xa xn xc B (w2.heap.size + 1) rows W.drew hx1 hxm hxc hxo hsW RN cB BX).mono ?_
        rintro e w2x ⟨rfl, hb2x⟩
        have hb2 : Below W.heap.size W w2x := (Below.refl W.heap.size W).drew.trans hb2x
        rw [← HVT.out]
        refine hK _ _ ?_
        clear hK K
        refine wpAny_take (i := 6) (v := .agg #[.string key, .int .i64 (totV 2 rows)]) rfl (by kernel_rfl) (by kernel_rfl) (by kernel_rfl) (fun _ _ _ h => h) (Or.inl ⟨by rfl, fun w => by go_simp⟩) ?_
        have hv2 : Boxed w2x (w2.heap.size + 1) 24 (.slice b D.length c) := (hb2.block _ hv.lt).trans hv
        have hc2 := hv2.cell
        have hc2a := (hv2.alloc (.cells #[.string key, .int .i64 (totV 2 rows)] 45)).cell
        refine wpAny_ready (rs := [0, 7]) (by kernel_rfl) (by simp) ?_
        refine AllReady.cons rfl (fun K hK => ?_) ?_
        · go_simp
          refine hK _ _ ?_
          clear hK K
          refine wpAny_ready (rs := [7]) (by kernel_rfl) (by simp) ?_
          refine AllReady.cons rfl (fun K hK => ?_) AllReady.nil
          go_simp
          refine hK _ _ ?_
          clear hK K
          refine wpAny_ready (rs := [8]) (by kernel_rfl) (by simp) ?_
          refine AllReady.cons rfl (fun K hK => ?_) AllReady.nil
          refine step_append_one rfl _ _ 24 rfl (w2.heap.size + 1) 45 i0 (.agg #[.string ⟨#[]⟩, .int .i64 0]) 2 24 Try.underlying24 hi hz0 hz1 hz2 rfl (by decide) (.slice b D.length c) _ _ rfl ((own_below hrow hb2).alloc _) ⟨w2x.heap.size, 0, none⟩ 1 1 [.string key, .int .i64 (totV 2 rows)] rfl rfl (cell_tot_new _ _ _ _) (tot_one ⟨key, totV 2 rows⟩) (by unfold maxLen; omega) (by omega) (by have := hb2.size; simp; omega) ?_
          intro v' w4 hO4 hg4 hat
          obtain ⟨a4, c4, rfl⟩ := own_slice' hO4
          obtain ⟨hv4, hv5, hr5, hk5, hb5⟩ := round_row hv (by decide) hrow hsW (Nat.le_refl _) hb2 hg4 hO4
          have hc4 := hv4.cell
          have hz4 := hv4.frozen
          refine hK _ _ ?_
          clear hK K
          refine wpAny_ready (rs := [9]) (by kernel_rfl) (by simp) ?_
          refine AllReady.cons rfl (fun K hK => ?_) AllReady.nil
          go_simp
          refine hK _ _ ?_
          clear hK K
          refine wpAny_done (by kernel_rfl) ?_ _
          exact ⟨hk5, hb5, ⟨_, hv5, by rw [HEQ.out, List.length_append, flatT_snoc]; exact hr5, trivial⟩, hB.trans hb5⟩
        · refine AllReady.cons rfl (fun K hK => ?_) AllReady.nil
          go_simp
          refine hK _ _ ?_
          clear hK K
          refine wpAny_ready (rs := [0]) (by kernel_rfl) (by simp) ?_
          refine AllReady.cons rfl (fun K hK => ?_) AllReady.nil
          go_simp
          refine hK _ _ ?_
          clear hK K
          refine wpAny_ready (rs := [8]) (by kernel_rfl) (by simp) ?_
          refine AllReady.cons rfl (fun K hK => ?_) AllReady.nil
          refine step_append_one rfl _ _ 24 rfl (w2.heap.size + 1) 45 i0 (.agg #[.string ⟨#[]⟩, .int .i64 0]) 2 24 Try.underlying24 hi hz0 hz1 hz2 rfl (by decide) (.slice b D.length c) _ _ rfl ((own_below hrow hb2).alloc _) ⟨w2x.heap.size, 0, none⟩ 1 1 [.string key, .int .i64 (totV 2 rows)] rfl rfl (cell_tot_new _ _ _ _) (tot_one ⟨key, totV 2 rows⟩) (by unfold maxLen; omega) (by omega) (by have := hb2.size; simp; omega) ?_
          intro v' w4 hO4 hg4 hat
          obtain ⟨a4, c4, rfl⟩ := own_slice' hO4
          obtain ⟨hv4, hv5, hr5, hk5, hb5⟩ := round_row hv (by decide) hrow hsW (Nat.le_refl _) hb2 hg4 hO4
          have hc4 := hv4.cell
          have hz4 := hv4.frozen
          refine hK _ _ ?_
          clear hK K
          refine wpAny_ready (rs := [9]) (by kernel_rfl) (by simp) ?_
          refine AllReady.cons rfl (fun K hK => ?_) AllReady.nil
          go_simp
          refine hK _ _ ?_
          clear hK K
          refine wpAny_done (by kernel_rfl) ?_ _
          exact ⟨hk5, hb5, ⟨_, hv5, by rw [HEQ.out, List.length_append, flatT_snoc]; exact hr5, trivial⟩, hB.trans hb5⟩
  case done =>
    rintro D ys W hD hys ⟨⟨v, hv, hrow, _⟩, hB⟩ hK
    rw [hys] at hrow
    obtain ⟨fb, fc, rfl, _⟩ := own_slice2 hrow
    have hc := hv.cell
    gi_wp2_with fail
    refine ⟨by simp, .inl ⟨_, _, rfl, run_takeDeferred hK, ?_⟩⟩
    exact ⟨_, results_tmp2 rfl _ _ _, fb, fc, by simp, (hW0.trans (hB.mono (by have := hb2a.size; omega))).trans (belowK_b (w := w) (Nat.le_refl _) W D _ _ (by have := hW0.size; omega) hK rfl rfl), own_base' (ownsRow_putObj hrow _ hK rfl) (by have := hb2a.size; omega)⟩
  case stop =>
    rintro D c pre W _ _ h _
    exact h.elim
set_option maxRecDepth 100000 in
set_option maxHeartbeats 4000000 in
theorem implReduced_3 (a : Option Addr) (n cap : Nat) (rs : List RowV) (w : World) (hm : n ≤ 1048576) (hok : ∀ r ∈ rs, r.Ok) (hR : Rd w w.heap.size 3 a n (flat rs)) (hs : rowsOk rs = true) :
    Calls Try.prog 18 #[.slice a n cap, .int .i64 3] w fun e w' => ∃ b c, e = .returned (.tuple #[.slice b (totG 3 (groupsR (sortL rs))).length c, .bool true]) ∧ Below w.heap.size w w' ∧ w'.ownsRow w.heap.size 45 2 (.slice b (totG 3 (groupsR (sortL rs))).length c) (totG 3 (groupsR (sortL rs))).length (flatT (totG 3 (groupsR (sortL rs)))) := by
  obtain ⟨i0, hi, hz0, hz1, hz2⟩ := info_parts infoTotal
  have C0 := implSorted_any a n cap rs w (by omega) hok hR
  unfold SortedOut at C0
  rw [sortedR_yes hs, hs, sortL_length, hR.rows_length] at C0
  have hn120 : n ≤ 120 := by rw [← hR.rows_length]; exact rowsOk_le5 hs
  have hSl : (sortL rs).length = n := by rw [sortL_length, hR.rows_length]
  have HSO := Lib.hid (show ∀ r ∈ sortL rs, r.Ok from fun r hr => hok r ((sortL_perm' rs).mem_iff.1 hr))
  have HSL := Lib.hid hSl
  generalize sortL rs = S at *
  have CB := fun p pc w => byKey_any p n pc w
  have CA := fun w => aggr_3 w
  clear hR hok hs hSl
  refine (callsIn_wide (n := 5)).1 ?_
  refine callsIn_of_wp_marks Try.func18 rfl trivial ?_ rfl
  simp only [Try.ntmps18, List.size_toArray, List.length_cons, List.length_nil, Nat.reduceAdd, Nat.reduceSub, Array.replicate_succ, Array.replicate_zero, List.push_toArray, List.append_toArray, List.nil_append, List.cons_append]
  gi_wp2_with fail
  refine ⟨trivial, ?_⟩
  refine (callsIn_wide.2 C0).mono ?_
  rintro e w1 ⟨p, pc, rfl, hb1, hO1⟩
  obtain ⟨bp, pc', e0, hpc⟩ := own_slice2 hO1
  injection e0 with e1 _ e3
  subst e3
  have R1 := Rd.of_own hO1
  clear C0 hO1 e1
  gi_wp2_with fail
  refine ⟨trivial, ?_⟩
  refine (callsIn_wide.2 (CA _)).mono ?_
  rintro e w2 ⟨B, hB1, hB2, hBc, rfl, hbA⟩
  have hb2a := hb1.trans (hbA.mono hb1.size)
  have bA := two_cells w2 (.func (.func 135) #[] #[.pointer (some ⟨B, 0, none⟩)]) (.func (.func 108) #[] #[]) 84 (Below.refl _ _)
  have lA := bl1 w2 (.cells #[.func (.func 135) #[] #[.pointer (some ⟨B, 0, none⟩)], .func (.func 108) #[] #[]] 84)
  gi_wp2_with fail
  have bF := Boxed.new (w2.alloc (.cells #[.func (.func 135) #[] #[.pointer (some ⟨B, 0, none⟩)], .func (.func 108) #[] #[]] 84)) 24 (.slice none 0 0)
  rw [World.size_alloc] at bF
  refine ⟨trivial, ?_⟩
  refine (callsIn_wide.2 (CB _ _ _)).mono ?_
  rintro e w2' ⟨rfl, rfl⟩
  gi_wp2_with fail
  have lW0 : Below (w2.heap.size + 1) (w2.alloc (.cells #[.func (.func 135) #[] #[.pointer (some ⟨B, 0, none⟩)], .func (.func 108) #[] #[]] 84)) (((w2.alloc (.cells #[.func (.func 135) #[] #[.pointer (some ⟨B, 0, none⟩)], .func (.func 108) #[] #[]] 84)).alloc (.cells #[.slice none 0 0] 24)).alloc (.cells #[.slice p n pc] 27)) := ((Below.refl _ _).alloc (by simp) _).alloc (by first | (simp; done) | (simp; omega)) _
  have cA0 := (lW0.cell (p := ⟨w2.heap.size, 0, none⟩) (by simp)).trans bA.1
  have cA1 := (lW0.cell (p := ⟨w2.heap.size, 1, none⟩) (by simp)).trans bA.2
  have bF3 := bF.alloc (.cells #[.slice p n pc] 27)
  have bC := Boxed.new ((w2.alloc (.cells #[.func (.func 135) #[] #[.pointer (some ⟨B, 0, none⟩)], .func (.func 108) #[] #[]] 84)).alloc (.cells #[.slice none 0 0] 24)) 27 (.slice p n pc)
  rw [World.size_alloc, World.size_alloc] at bC
  have lW2 := lA.trans (lW0.mono (Nat.le_succ _))
  have hR0 := (R1.below ((hbA).trans (lW2.mono hbA.size)) (Nat.le_refl _)).more (B' := w2.heap.size + 1) (by have := hbA.size; omega)
  have hW0 := hb2a.trans (lW2.mono hb2a.size)
  have cB0 := (lA.cell (p := ⟨B, 0, none⟩) hB2).trans hBc
  have cB1 := (lW0.cell (p := ⟨B, 0, none⟩) (by show B < w2.heap.size + 1; omega)).trans cB0
  generalize hWe : (((w2.alloc (.cells #[.func (.func 135) #[] #[.pointer (some ⟨B, 0, none⟩)], .func (.func 108) #[] #[]] 84)).alloc (.cells #[.slice none 0 0] 24)).alloc (.cells #[.slice p n pc] 27)) = W0 at *
  have hsz : w2.heap.size + 1 ≤ W0.heap.size := Nat.le_of_lt bF3.lt
  clear hWe
  refine wpIn_rangeFunc_ownF rfl (by omega) (gf := 111) (lb := #[.pointer (some ⟨w2.heap.size + 1 + 1, 0, none⟩)]) rfl trivial (enters_of Try.func111 (by kernel_rfl) rfl)
    (byKey_ok _ (w2.heap.size + 1 + 1) (w2.heap.size + 1) p n pc S hn120 hpc HSO.out W0 hsz bC.cell bC.lt hR0) belowK_t (belowK_b hsz) (Below.refl _ _) (fun _ => rfl)
    (fun (pre : List (GrpOk W0 (w2.heap.size + 1))) W => (∃ v, Boxed W (w2.heap.size + 1) 24 v ∧ W.ownsRow (w2.heap.size + 1) 45 2 v (totG 3 (okGrps pre)).length (flatT (totG 3 (okGrps pre))) ∧ True) ∧ Below (w2.heap.size + 1) W0 W)
    (fun _ _ _ => False)
    (OwnFrom.and (Own.from (holdsRow_own (w2.heap.size + 1) (w2.heap.size + 1) 24 45 2 (fun pre => (totG 3 (okGrps pre)).length) (fun pre => flatT (totG 3 (okGrps pre))) (fun _ _ => True)) _) (ownFrom_below hsz hsz))
    (fun _ _ _ _ _ hs _ _ => hs)
    ⟨⟨_, bF3, World.ownsRow_nil _ _ _ _, trivial⟩, Below.refl _ _⟩
    (fun x => { tmps := #[.slice a n cap, .int .i64 3, undef, undef, .slice none 0 0, .bool false, .slice p n pc, .bool true, .pointer (some ⟨w2.heap.size, 0, none⟩), .bool true, .pointer (some ⟨w2.heap.size + 1, 0, none⟩), .string x.1.key, .slice x.1.a x.1.n x.1.c, .tuple #[.slice p n pc, .bool true], .slice a n cap, .tuple #[.slice p n pc, .bool true], .slice p n pc, .bool true, .tuple #[.agg #[.func (.func 135) #[] #[.pointer (some ⟨B, 0, none⟩)], .func (.func 108) #[] #[]], .bool true], .int .i64 3, .tuple #[.agg #[.func (.func 135) #[] #[.pointer (some ⟨B, 0, none⟩)], .func (.func 108) #[] #[]], .bool true], .agg #[.func (.func 135) #[] #[.pointer (some ⟨B, 0, none⟩)], .func (.func 108) #[] #[]], .bool true, .bool true, .bool false, .bool false, .bool true, .bool false, .bool false, .slice p n pc, .func (.func 111) #[] #[.pointer (some ⟨w2.heap.size + 1 + 1, 0, none⟩)], .string x.1.key, .slice x.1.a x.1.n x.1.c, undef, undef, undef, undef, undef, undef, undef, undef, undef, undef], defers := [] })
    ?assign ?body ?done ?stop
  case assign =>
    intro l x W K hK
    simp only [okGrpV] at *
    gi_wp2_with fail
    exact hK
  case body =>
    rintro l pre x W ⟨⟨v, hv, hrow, _⟩, hB⟩ hlt
    have hEq0 := totG_snocX 3 pre x
    have hxR := x.2.1
    have hxc := x.2.2.1
    have hxm := x.2.2.2.1.1
    have hx1 := x.2.2.2.1.2.1
    have hxo := x.2.2.2.1.2.2
    obtain ⟨⟨key, xa, xn, xc, rows⟩, hxp⟩ := x
    dsimp only at hxR hxc hxm hx1 hxo hEq0 ⊢
    have hxl : rows.length = xn := hxR.rows_length
    have HEQ := Lib.hid hEq0
    have HVT := Lib.hid (show totV 3 rows = foldV min rows from rfl)
    have hDl : (totG 3 (okGrps pre)).length ≤ 120 := by rw [totG_length, show (okGrps pre).length = pre.length from List.length_map _]; have := HSL.out; omega
    clear hEq0
    generalize totG 3 (okGrps pre) = D at *
    obtain ⟨b, c, rfl, hbc⟩ := own_slice2 hrow
    have hc := hv.cell
    have hsW : w2.heap.size + 1 ≤ W.heap.size := Nat.le_trans hsz hB.size
    have RN : Rd W.drew (w2.heap.size + 1) 3 xa xn (flat rows) := hxR.below hB.drew (Nat.le_refl _)
    have RX : Rd W.drew W.drew.heap.size 3 xa xn (flat rows) := RN.more hsW
    have k0 : W.cell? ⟨w2.heap.size, 0, none⟩ = some (.func (.func 135) #[] #[.pointer (some ⟨B, 0, none⟩)]) := (hB.cell (p := ⟨w2.heap.size, 0, none⟩) (Nat.lt_succ_self _)).trans cA0
    have cB : W.drew.cell? ⟨B, 0, none⟩ = some (.func (.func 108) #[] #[]) := (hB.drew.cell (p := ⟨B, 0, none⟩) (by show B < w2.heap.size + 1; omega)).trans cB1
    have BX : B < W.drew.heap.size := by show B < W.heap.size; omega
    clear cA0 cA1
    refine wpIn_block ?_
    refine wpIn_region_round (by kernel_rfl) (by rfl) (by rintro ⟨a, w, h⟩; exact h) ?_
    refine wpAny_take (i := 1) (v := .string key) rfl (by kernel_rfl) (by kernel_rfl) (by kernel_rfl) (fun _ _ _ h => h) (Or.inl ⟨by rfl, fun w => by go_simp⟩) ?_
    refine wpAny_take (i := 2) (v := .pointer (some ⟨w2.heap.size, 0, none⟩)) rfl (by kernel_rfl) (by kernel_rfl) (by kernel_rfl) (fun _ _ _ h => h) (Or.inl ⟨by rfl, fun w => by go_simp⟩) ?_
    refine wpAny_take (i := 4) (v := .slice xa xn xc) rfl (by kernel_rfl) (by kernel_rfl) (by kernel_rfl) (fun _ _ _ h => h) (Or.inl ⟨by rfl, fun w => by go_simp⟩) ?_
    refine wpAny_ready (rs := [0, 3]) (by kernel_rfl) (by simp) ?_
    refine AllReady.cons rfl (fun K hK => ?_) ?_
    · go_simp
      refine hK _ _ ?_
      clear hK K
      refine wpAny_ready (rs := [3]) (by kernel_rfl) (by simp) ?_
      refine AllReady.cons rfl (fun K hK => ?_) AllReady.nil
      go_simp
      refine hK _ _ ?_
      clear hK K
      refine wpAny_ready (rs := [5]) (by kernel_rfl) (by simp) ?_
      refine AllReady.cons rfl (fun K hK => ?_) AllReady.nil
      go_simp
      refine (over_lesser xa xn xc B (w2.heap.size + 1) rows W.drew hx1 hxm hxc hxo hsW RN cB BX).mono ?_
      rintro e w2x ⟨rfl, hb2x⟩
      have hb2 : Below W.heap.size W w2x := (Below.refl W.heap.size W).drew.trans hb2x
      rw [← HVT.out]
      refine hK _ _ ?_
      clear hK K
      refine wpAny_take (i := 6) (v := .agg #[.string key, .int .i64 (totV 3 rows)]) rfl (by kernel_rfl) (by kernel_rfl) (by kernel_rfl) (fun _ _ _ h => h) (Or.inl ⟨by rfl, fun w => by go_simp⟩) ?_
      have hv2 : Boxed w2x (w2.heap.size + 1) 24 (.slice b D.length c) := (hb2.block _ hv.lt).trans hv
      have hc2 := hv2.cell
      have hc2a := (hv2.alloc (.cells #[.string key, .int .i64 (totV 3 rows)] 45)).cell
      refine wpAny_ready (rs := [7]) (by kernel_rfl) (by simp) ?_
      refine AllReady.cons rfl (fun K hK => ?_) AllReady.nil
      go_simp
      refine hK _ _ ?_
      clear hK K
      refine wpAny_ready (rs := [8]) (by kernel_rfl) (by simp) ?_
      refine AllReady.cons rfl (fun K hK => ?_) AllReady.nil
      refine step_append_one rfl _ _ 24 rfl (w2.heap.size + 1) 45 i0 (.agg #[.string ⟨#[]⟩, .int .i64 0]) 2 24 Try.underlying24 hi hz0 hz1 hz2 rfl (by decide) (.slice b D.length c) _ _ rfl ((own_below hrow hb2).alloc _) ⟨w2x.heap.size, 0, none⟩ 1 1 [.string key, .int .i64 (totV 3 rows)] rfl rfl (cell_tot_new _ _ _ _) (tot_one ⟨key, totV 3 rows⟩) (by unfold maxLen; omega) (by omega) (by have := hb2.size; simp; omega) ?_
      intro v' w4 hO4 hg4 hat
      obtain ⟨a4, c4, rfl⟩ := own_slice' hO4
      obtain ⟨hv4, hv5, hr5, hk5, hb5⟩ := round_row hv (by decide) hrow hsW (Nat.le_refl _) hb2 hg4 hO4
      have hc4 := hv4.cell
      have hz4 := hv4.frozen
      refine hK _ _ ?_
      clear hK K
      refine wpAny_ready (rs := [9]) (by kernel_rfl) (by simp) ?_
      refine AllReady.cons rfl (fun K hK => ?_) AllReady.nil
      go_simp
      refine hK _ _ ?_
      clear hK K
      refine wpAny_done (by kernel_rfl) ?_ _
      exact ⟨hk5, hb5, ⟨_, hv5, by rw [HEQ.out, List.length_append, flatT_snoc]; exact hr5, trivial⟩, hB.trans hb5⟩
    · refine AllReady.cons rfl (fun K hK => ?_) AllReady.nil
      go_simp
      refine hK _ _ ?_
      clear hK K
      refine wpAny_ready (rs := [0, 5]) (by kernel_rfl) (by simp) ?_
      refine AllReady.cons rfl (fun K hK => ?_) ?_
      · go_simp
        refine hK _ _ ?_
        clear hK K
        refine wpAny_ready (rs := [5]) (by kernel_rfl) (by simp) ?_
        refine AllReady.cons rfl (fun K hK => ?_) AllReady.nil
        go_simp
        refine (over_lesser xa xn xc B (w2.heap.size + 1) rows W.drew hx1 hxm hxc hxo hsW RN cB BX).mono ?_
        rintro e w2x ⟨rfl, hb2x⟩
        have hb2 : Below W.heap.size W w2x := (Below.refl W.heap.size W).drew.trans hb2x
        rw [← HVT.out]
        refine hK _ _ ?_
        clear hK K
        refine wpAny_take (i := 6) (v := .agg #[.string key, .int .i64 (totV 3 rows)]) rfl (by kernel_rfl) (by kernel_rfl) (by kernel_rfl) (fun _ _ _ h => h) (Or.inl ⟨by rfl, fun w => by go_simp⟩) ?_
        have hv2 : Boxed w2x (w2.heap.size + 1) 24 (.slice b D.length c) := (hb2.block _ hv.lt).trans hv
        have hc2 := hv2.cell
        have hc2a := (hv2.alloc (.cells #[.string key, .int .i64 (totV 3 rows)] 45)).cell
        refine wpAny_ready (rs := [7]) (by kernel_rfl) (by simp) ?_
        refine AllReady.cons rfl (fun K hK => ?_) AllReady.nil
        go_simp
        refine hK _ _ ?_
        clear hK K
        refine wpAny_ready (rs := [8]) (by kernel_rfl) (by simp) ?_
        refine AllReady.cons rfl (fun K hK => ?_) AllReady.nil
        refine step_append_one rfl _ _ 24 rfl (w2.heap.size + 1) 45 i0 (.agg #[.string ⟨#[]⟩, .int .i64 0]) 2 24 Try.underlying24 hi hz0 hz1 hz2 rfl (by decide) (.slice b D.length c) _ _ rfl ((own_below hrow hb2).alloc _) ⟨w2x.heap.size, 0, none⟩ 1 1 [.string key, .int .i64 (totV 3 rows)] rfl rfl (cell_tot_new _ _ _ _) (tot_one ⟨key, totV 3 rows⟩) (by unfold maxLen; omega) (by omega) (by have := hb2.size; simp; omega) ?_
        intro v' w4 hO4 hg4 hat
        obtain ⟨a4, c4, rfl⟩ := own_slice' hO4
        obtain ⟨hv4, hv5, hr5, hk5, hb5⟩ := round_row hv (by decide) hrow hsW (Nat.le_refl _) hb2 hg4 hO4
        have hc4 := hv4.cell
        have hz4 := hv4.frozen
        refine hK _ _ ?_
        clear hK K
        refine wpAny_ready (rs := [9]) (by kernel_rfl) (by simp) ?_
        refine AllReady.cons rfl (fun K hK => ?_) AllReady.nil
        go_simp
        refine hK _ _ ?_
        clear hK K
        refine wpAny_done (by kernel_rfl) ?_ _
        exact ⟨hk5, hb5, ⟨_, hv5, by rw [HEQ.out, List.length_append, flatT_snoc]; exact hr5, trivial⟩, hB.trans hb5⟩
      · refine AllReady.cons rfl (fun K hK => ?_) AllReady.nil
        go_simp
        refine (over_lesser xa xn xc B (w2.heap.size + 1) rows W.drew hx1 hxm hxc hxo hsW RN cB BX).mono ?_
        rintro e w2x ⟨rfl, hb2x⟩
        have hb2 : Below W.heap.size W w2x := (Below.refl W.heap.size W).drew.trans hb2x
        rw [← HVT.out]
        refine hK _ _ ?_
        clear hK K
        refine wpAny_take (i := 6) (v := .agg #[.string key, .int .i64 (totV 3 rows)]) rfl (by kernel_rfl) (by kernel_rfl) (by kernel_rfl) (fun _ _ _ h => h) (Or.inl ⟨by rfl, fun w => by go_simp⟩) ?_
        have hv2 : Boxed w2x (w2.heap.size + 1) 24 (.slice b D.length c) := (hb2.block _ hv.lt).trans hv
        have hc2 := hv2.cell
        have hc2a := (hv2.alloc (.cells #[.string key, .int .i64 (totV 3 rows)] 45)).cell
        refine wpAny_ready (rs := [0, 7]) (by kernel_rfl) (by simp) ?_
        refine AllReady.cons rfl (fun K hK => ?_) ?_
        · go_simp
          refine hK _ _ ?_
          clear hK K
          refine wpAny_ready (rs := [7]) (by kernel_rfl) (by simp) ?_
          refine AllReady.cons rfl (fun K hK => ?_) AllReady.nil
          go_simp
          refine hK _ _ ?_
          clear hK K
          refine wpAny_ready (rs := [8]) (by kernel_rfl) (by simp) ?_
          refine AllReady.cons rfl (fun K hK => ?_) AllReady.nil
          refine step_append_one rfl _ _ 24 rfl (w2.heap.size + 1) 45 i0 (.agg #[.string ⟨#[]⟩, .int .i64 0]) 2 24 Try.underlying24 hi hz0 hz1 hz2 rfl (by decide) (.slice b D.length c) _ _ rfl ((own_below hrow hb2).alloc _) ⟨w2x.heap.size, 0, none⟩ 1 1 [.string key, .int .i64 (totV 3 rows)] rfl rfl (cell_tot_new _ _ _ _) (tot_one ⟨key, totV 3 rows⟩) (by unfold maxLen; omega) (by omega) (by have := hb2.size; simp; omega) ?_
          intro v' w4 hO4 hg4 hat
          obtain ⟨a4, c4, rfl⟩ := own_slice' hO4
          obtain ⟨hv4, hv5, hr5, hk5, hb5⟩ := round_row hv (by decide) hrow hsW (Nat.le_refl _) hb2 hg4 hO4
          have hc4 := hv4.cell
          have hz4 := hv4.frozen
          refine hK _ _ ?_
          clear hK K
          refine wpAny_ready (rs := [9]) (by kernel_rfl) (by simp) ?_
          refine AllReady.cons rfl (fun K hK => ?_) AllReady.nil
          go_simp
          refine hK _ _ ?_
          clear hK K
          refine wpAny_done (by kernel_rfl) ?_ _
          exact ⟨hk5, hb5, ⟨_, hv5, by rw [HEQ.out, List.length_append, flatT_snoc]; exact hr5, trivial⟩, hB.trans hb5⟩
        · refine AllReady.cons rfl (fun K hK => ?_) AllReady.nil
          go_simp
          refine hK _ _ ?_
          clear hK K
          refine wpAny_ready (rs := [0]) (by kernel_rfl) (by simp) ?_
          refine AllReady.cons rfl (fun K hK => ?_) AllReady.nil
          go_simp
          refine hK _ _ ?_
          clear hK K
          refine wpAny_ready (rs := [8]) (by kernel_rfl) (by simp) ?_
          refine AllReady.cons rfl (fun K hK => ?_) AllReady.nil
          refine step_append_one rfl _ _ 24 rfl (w2.heap.size + 1) 45 i0 (.agg #[.string ⟨#[]⟩, .int .i64 0]) 2 24 Try.underlying24 hi hz0 hz1 hz2 rfl (by decide) (.slice b D.length c) _ _ rfl ((own_below hrow hb2).alloc _) ⟨w2x.heap.size, 0, none⟩ 1 1 [.string key, .int .i64 (totV 3 rows)] rfl rfl (cell_tot_new _ _ _ _) (tot_one ⟨key, totV 3 rows⟩) (by unfold maxLen; omega) (by omega) (by have := hb2.size; simp; omega) ?_
          intro v' w4 hO4 hg4 hat
          obtain ⟨a4, c4, rfl⟩ := own_slice' hO4
          obtain ⟨hv4, hv5, hr5, hk5, hb5⟩ := round_row hv (by decide) hrow hsW (Nat.le_refl _) hb2 hg4 hO4
          have hc4 := hv4.cell
          have hz4 := hv4.frozen
          refine hK _ _ ?_
          clear hK K
          refine wpAny_ready (rs := [9]) (by kernel_rfl) (by simp) ?_
          refine AllReady.cons rfl (fun K hK => ?_) AllReady.nil
          go_simp
          refine hK _ _ ?_
          clear hK K
          refine wpAny_done (by kernel_rfl) ?_ _
          exact ⟨hk5, hb5, ⟨_, hv5, by rw [HEQ.out, List.length_append, flatT_snoc]; exact hr5, trivial⟩, hB.trans hb5⟩
  case done =>
    rintro D ys W hD hys ⟨⟨v, hv, hrow, _⟩, hB⟩ hK
    rw [hys] at hrow
    obtain ⟨fb, fc, rfl, _⟩ := own_slice2 hrow
    have hc := hv.cell
    gi_wp2_with fail
    refine ⟨by simp, .inl ⟨_, _, rfl, run_takeDeferred hK, ?_⟩⟩
    exact ⟨_, results_tmp2 rfl _ _ _, fb, fc, by simp, (hW0.trans (hB.mono (by have := hb2a.size; omega))).trans (belowK_b (w := w) (Nat.le_refl _) W D _ _ (by have := hW0.size; omega) hK rfl rfl), own_base' (ownsRow_putObj hrow _ hK rfl) (by have := hb2a.size; omega)⟩
  case stop =>
    rintro D c pre W _ _ h _
    exact h.elim
set_option maxRecDepth 100000 in
set_option maxHeartbeats 4000000 in
theorem implReduced_4 (a : Option Addr) (n cap : Nat) (rs : List RowV) (w : World) (hm : n ≤ 1048576) (hok : ∀ r ∈ rs, r.Ok) (hR : Rd w w.heap.size 3 a n (flat rs)) (hs : rowsOk rs = true) :
    Calls Try.prog 18 #[.slice a n cap, .int .i64 4] w fun e w' => ∃ b c, e = .returned (.tuple #[.slice b (totG 4 (groupsR (sortL rs))).length c, .bool true]) ∧ Below w.heap.size w w' ∧ w'.ownsRow w.heap.size 45 2 (.slice b (totG 4 (groupsR (sortL rs))).length c) (totG 4 (groupsR (sortL rs))).length (flatT (totG 4 (groupsR (sortL rs)))) := by
  obtain ⟨i0, hi, hz0, hz1, hz2⟩ := info_parts infoTotal
  have C0 := implSorted_any a n cap rs w (by omega) hok hR
  unfold SortedOut at C0
  rw [sortedR_yes hs, hs, sortL_length, hR.rows_length] at C0
  have hn120 : n ≤ 120 := by rw [← hR.rows_length]; exact rowsOk_le5 hs
  have hSl : (sortL rs).length = n := by rw [sortL_length, hR.rows_length]
  have HSO := Lib.hid (show ∀ r ∈ sortL rs, r.Ok from fun r hr => hok r ((sortL_perm' rs).mem_iff.1 hr))
  have HSL := Lib.hid hSl
  generalize sortL rs = S at *
  have CB := fun p pc w => byKey_any p n pc w
  have CA := fun w => aggr_4 w
  clear hR hok hs hSl
  refine (callsIn_wide (n := 5)).1 ?_
  refine callsIn_of_wp_marks Try.func18 rfl trivial ?_ rfl
  simp only [Try.ntmps18, List.size_toArray, List.length_cons, List.length_nil, Nat.reduceAdd, Nat.reduceSub, Array.replicate_succ, Array.replicate_zero, List.push_toArray, List.append_toArray, List.nil_append, List.cons_append]
  gi_wp2_with fail
  refine ⟨trivial, ?_⟩
  refine (callsIn_wide.2 C0).mono ?_
  rintro e w1 ⟨p, pc, rfl, hb1, hO1⟩
  obtain ⟨bp, pc', e0, hpc⟩ := own_slice2 hO1
  injection e0 with e1 _ e3
  subst e3
  have R1 := Rd.of_own hO1
  clear C0 hO1 e1
  gi_wp2_with fail
  refine ⟨trivial, ?_⟩
  refine (callsIn_wide.2 (CA _)).mono ?_
  rintro e w2 ⟨B, hB1, hB2, hBc, rfl, hbA⟩
  have hb2a := hb1.trans (hbA.mono hb1.size)
  have bA := two_cells w2 (.func (.func 135) #[] #[.pointer (some ⟨B, 0, none⟩)]) (.func (.func 109) #[] #[]) 84 (Below.refl _ _)
  have lA := bl1 w2 (.cells #[.func (.func 135) #[] #[.pointer (some ⟨B, 0, none⟩)], .func (.func 109) #[] #[]] 84)
  gi_wp2_with fail
  have bF := Boxed.new (w2.alloc (.cells #[.func (.func 135) #[] #[.pointer (some ⟨B, 0, none⟩)], .func (.func 109) #[] #[]] 84)) 24 (.slice none 0 0)
  rw [World.size_alloc] at bF
  refine ⟨trivial, ?_⟩
  refine (callsIn_wide.2 (CB _ _ _)).mono ?_
  rintro e w2' ⟨rfl, rfl⟩
  gi_wp2_with fail
  have lW0 : Below (w2.heap.size + 1) (w2.alloc (.cells #[.func (.func 135) #[] #[.pointer (some ⟨B, 0, none⟩)], .func (.func 109) #[] #[]] 84)) (((w2.alloc (.cells #[.func (.func 135) #[] #[.pointer (some ⟨B, 0, none⟩)], .func (.func 109) #[] #[]] 84)).alloc (.cells #[.slice none 0 0] 24)).alloc (.cells #[.slice p n pc] 27)) := ((Below.refl _ _).alloc (by simp) _).alloc (by first | (simp; done) | (simp; omega)) _
  have cA0 := (lW0.cell (p := ⟨w2.heap.size, 0, none⟩) (by simp)).trans bA.1
  have cA1 := (lW0.cell (p := ⟨w2.heap.size, 1, none⟩) (by simp)).trans bA.2
  have bF3 := bF.alloc (.cells #[.slice p n pc] 27)
  have bC := Boxed.new ((w2.alloc (.cells #[.func (.func 135) #[] #[.pointer (some ⟨B, 0, none⟩)], .func (.func 109) #[] #[]] 84)).alloc (.cells #[.slice none 0 0] 24)) 27 (.slice p n pc)
  rw [World.size_alloc, World.size_alloc] at bC
  have lW2 := lA.trans (lW0.mono (Nat.le_succ _))
  have hR0 := (R1.below ((hbA).trans (lW2.mono hbA.size)) (Nat.le_refl _)).more (B' := w2.heap.size + 1) (by have := hbA.size; omega)
  have hW0 := hb2a.trans (lW2.mono hb2a.size)
  have cB0 := (lA.cell (p := ⟨B, 0, none⟩) hB2).trans hBc
  have cB1 := (lW0.cell (p := ⟨B, 0, none⟩) (by show B < w2.heap.size + 1; omega)).trans cB0
  generalize hWe : (((w2.alloc (.cells #[.func (.func 135) #[] #[.pointer (some ⟨B, 0, none⟩)], .func (.func 109) #[] #[]] 84)).alloc (.cells #[.slice none 0 0] 24)).alloc (.cells #[.slice p n pc] 27)) = W0 at *
  have hsz : w2.heap.size + 1 ≤ W0.heap.size := Nat.le_of_lt bF3.lt
  clear hWe
  refine wpIn_rangeFunc_ownF rfl (by omega) (gf := 111) (lb := #[.pointer (some ⟨w2.heap.size + 1 + 1, 0, none⟩)]) rfl trivial (enters_of Try.func111 (by kernel_rfl) rfl)
    (byKey_ok _ (w2.heap.size + 1 + 1) (w2.heap.size + 1) p n pc S hn120 hpc HSO.out W0 hsz bC.cell bC.lt hR0) belowK_t (belowK_b hsz) (Below.refl _ _) (fun _ => rfl)
    (fun (pre : List (GrpOk W0 (w2.heap.size + 1))) W => (∃ v, Boxed W (w2.heap.size + 1) 24 v ∧ W.ownsRow (w2.heap.size + 1) 45 2 v (totG 4 (okGrps pre)).length (flatT (totG 4 (okGrps pre))) ∧ True) ∧ Below (w2.heap.size + 1) W0 W)
    (fun _ _ _ => False)
    (OwnFrom.and (Own.from (holdsRow_own (w2.heap.size + 1) (w2.heap.size + 1) 24 45 2 (fun pre => (totG 4 (okGrps pre)).length) (fun pre => flatT (totG 4 (okGrps pre))) (fun _ _ => True)) _) (ownFrom_below hsz hsz))
    (fun _ _ _ _ _ hs _ _ => hs)
    ⟨⟨_, bF3, World.ownsRow_nil _ _ _ _, trivial⟩, Below.refl _ _⟩
    (fun x => { tmps := #[.slice a n cap, .int .i64 4, undef, undef, .slice none 0 0, .bool false, .slice p n pc, .bool true, .pointer (some ⟨w2.heap.size, 0, none⟩), .bool true, .pointer (some ⟨w2.heap.size + 1, 0, none⟩), .string x.1.key, .slice x.1.a x.1.n x.1.c, .tuple #[.slice p n pc, .bool true], .slice a n cap, .tuple #[.slice p n pc, .bool true], .slice p n pc, .bool true, .tuple #[.agg #[.func (.func 135) #[] #[.pointer (some ⟨B, 0, none⟩)], .func (.func 109) #[] #[]], .bool true], .int .i64 4, .tuple #[.agg #[.func (.func 135) #[] #[.pointer (some ⟨B, 0, none⟩)], .func (.func 109) #[] #[]], .bool true], .agg #[.func (.func 135) #[] #[.pointer (some ⟨B, 0, none⟩)], .func (.func 109) #[] #[]], .bool true, .bool true, .bool false, .bool false, .bool true, .bool false, .bool false, .slice p n pc, .func (.func 111) #[] #[.pointer (some ⟨w2.heap.size + 1 + 1, 0, none⟩)], .string x.1.key, .slice x.1.a x.1.n x.1.c, undef, undef, undef, undef, undef, undef, undef, undef, undef, undef], defers := [] })
    ?assign ?body ?done ?stop
  case assign =>
    intro l x W K hK
    simp only [okGrpV] at *
    gi_wp2_with fail
    exact hK
  case body =>
    rintro l pre x W ⟨⟨v, hv, hrow, _⟩, hB⟩ hlt
    have hEq0 := totG_snocX 4 pre x
    have hxR := x.2.1
    have hxc := x.2.2.1
    have hxm := x.2.2.2.1.1
    have hx1 := x.2.2.2.1.2.1
    have hxo := x.2.2.2.1.2.2
    obtain ⟨⟨key, xa, xn, xc, rows⟩, hxp⟩ := x
    dsimp only at hxR hxc hxm hx1 hxo hEq0 ⊢
    have hxl : rows.length = xn := hxR.rows_length
    have HEQ := Lib.hid hEq0
    have HVT := Lib.hid (show totV 4 rows = foldV max rows from rfl)
    have hDl : (totG 4 (okGrps pre)).length ≤ 120 := by rw [totG_length, show (okGrps pre).length = pre.length from List.length_map _]; have := HSL.out; omega
    clear hEq0
    generalize totG 4 (okGrps pre) = D at *
    obtain ⟨b, c, rfl, hbc⟩ := own_slice2 hrow
    have hc := hv.cell
    have hsW : w2.heap.size + 1 ≤ W.heap.size := Nat.le_trans hsz hB.size
    have RN : Rd W.drew (w2.heap.size + 1) 3 xa xn (flat rows) := hxR.below hB.drew (Nat.le_refl _)
    have RX : Rd W.drew W.drew.heap.size 3 xa xn (flat rows) := RN.more hsW
    have k0 : W.cell? ⟨w2.heap.size, 0, none⟩ = some (.func (.func 135) #[] #[.pointer (some ⟨B, 0, none⟩)]) := (hB.cell (p := ⟨w2.heap.size, 0, none⟩) (Nat.lt_succ_self _)).trans cA0
    have cB : W.drew.cell? ⟨B, 0, none⟩ = some (.func (.func 109) #[] #[]) := (hB.drew.cell (p := ⟨B, 0, none⟩) (by show B < w2.heap.size + 1; omega)).trans cB1
    have BX : B < W.drew.heap.size := by show B < W.heap.size; omega
    clear cA0 cA1
    refine wpIn_block ?_
    refine wpIn_region_round (by kernel_rfl) (by rfl) (by rintro ⟨a, w, h⟩; exact h) ?_
    refine wpAny_take (i := 1) (v := .string key) rfl (by kernel_rfl) (by kernel_rfl) (by kernel_rfl) (fun _ _ _ h => h) (Or.inl ⟨by rfl, fun w => by go_simp⟩) ?_
    refine wpAny_take (i := 2) (v := .pointer (some ⟨w2.heap.size, 0, none⟩)) rfl (by kernel_rfl) (by kernel_rfl) (by kernel_rfl) (fun _ _ _ h => h) (Or.inl ⟨by rfl, fun w => by go_simp⟩) ?_
    refine wpAny_take (i := 4) (v := .slice xa xn xc) rfl (by kernel_rfl) (by kernel_rfl) (by kernel_rfl) (fun _ _ _ h => h) (Or.inl ⟨by rfl, fun w => by go_simp⟩) ?_
    refine wpAny_ready (rs := [0, 3]) (by kernel_rfl) (by simp) ?_
    refine AllReady.cons rfl (fun K hK => ?_) ?_
    · go_simp
      refine hK _ _ ?_
      clear hK K
      refine wpAny_ready (rs := [3]) (by kernel_rfl) (by simp) ?_
      refine AllReady.cons rfl (fun K hK => ?_) AllReady.nil
      go_simp
      refine hK _ _ ?_
      clear hK K
      refine wpAny_ready (rs := [5]) (by kernel_rfl) (by simp) ?_
      refine AllReady.cons rfl (fun K hK => ?_) AllReady.nil
      go_simp
      refine (over_greater xa xn xc B (w2.heap.size + 1) rows W.drew hx1 hxm hxc hxo hsW RN cB BX).mono ?_
      rintro e w2x ⟨rfl, hb2x⟩
      have hb2 : Below W.heap.size W w2x := (Below.refl W.heap.size W).drew.trans hb2x
      rw [← HVT.out]
      refine hK _ _ ?_
      clear hK K
      refine wpAny_take (i := 6) (v := .agg #[.string key, .int .i64 (totV 4 rows)]) rfl (by kernel_rfl) (by kernel_rfl) (by kernel_rfl) (fun _ _ _ h => h) (Or.inl ⟨by rfl, fun w => by go_simp⟩) ?_
      have hv2 : Boxed w2x (w2.heap.size + 1) 24 (.slice b D.length c) := (hb2.block _ hv.lt).trans hv
      have hc2 := hv2.cell
      have hc2a := (hv2.alloc (.cells #[.string key, .int .i64 (totV 4 rows)] 45)).cell
      refine wpAny_ready (rs := [7]) (by kernel_rfl) (by simp) ?_
      refine AllReady.cons rfl (fun K hK => ?_) AllReady.nil
      go_simp
      refine hK _ _ ?_
      clear hK K
      refine wpAny_ready (rs := [8]) (by kernel_rfl) (by simp) ?_
      refine AllReady.cons rfl (fun K hK => ?_) AllReady.nil
      refine step_append_one rfl _ _ 24 rfl (w2.heap.size + 1) 45 i0 (.agg #[.string ⟨#[]⟩, .int .i64 0]) 2 24 Try.underlying24 hi hz0 hz1 hz2 rfl (by decide) (.slice b D.length c) _ _ rfl ((own_below hrow hb2).alloc _) ⟨w2x.heap.size, 0, none⟩ 1 1 [.string key, .int .i64 (totV 4 rows)] rfl rfl (cell_tot_new _ _ _ _) (tot_one ⟨key, totV 4 rows⟩) (by unfold maxLen; omega) (by omega) (by have := hb2.size; simp; omega) ?_
      intro v' w4 hO4 hg4 hat
      obtain ⟨a4, c4, rfl⟩ := own_slice' hO4
      obtain ⟨hv4, hv5, hr5, hk5, hb5⟩ := round_row hv (by decide) hrow hsW (Nat.le_refl _) hb2 hg4 hO4
      have hc4 := hv4.cell
      have hz4 := hv4.frozen
      refine hK _ _ ?_
      clear hK K
      refine wpAny_ready (rs := [9]) (by kernel_rfl) (by simp) ?_
      refine AllReady.cons rfl (fun K hK => ?_) AllReady.nil
      go_simp
      refine hK _ _ ?_
      clear hK K
      refine wpAny_done (by kernel_rfl) ?_ _
      exact ⟨hk5, hb5, ⟨_, hv5, by rw [HEQ.out, List.length_append, flatT_snoc]; exact hr5, trivial⟩, hB.trans hb5⟩
    · refine AllReady.cons rfl (fun K hK => ?_) AllReady.nil
      go_simp
      refine hK _ _ ?_
      clear hK K
      refine wpAny_ready (rs := [0, 5]) (by kernel_rfl) (by simp) ?_
      refine AllReady.cons rfl (fun K hK => ?_) ?_
      · go_simp
        refine hK _ _ ?_
        clear hK K
        refine wpAny_ready (rs := [5]) (by kernel_rfl) (by simp) ?_
        refine AllReady.cons rfl (fun K hK => ?_) AllReady.nil
        go_simp
        refine (over_greater xa xn xc B (w2.heap.size + 1) rows W.drew hx1 hxm hxc hxo hsW RN cB BX).mono ?_
        rintro e w2x ⟨rfl, hb2x⟩
        have hb2 : Below W.heap.size W w2x := (Below.refl W.heap.size W).drew.trans hb2x
        rw [← HVT.out]
        refine hK _ _ ?_
        clear hK K
        refine wpAny_take (i := 6) (v := .agg #[.string key, .int .i64 (totV 4 rows)]) rfl (by kernel_rfl) (by kernel_rfl) (by kernel_rfl) (fun _ _ _ h => h) (Or.inl ⟨by rfl, fun w => by go_simp⟩) ?_
        have hv2 : Boxed w2x (w2.heap.size + 1) 24 (.slice b D.length c) := (hb2.block _ hv.lt).trans hv
        have hc2 := hv2.cell
        have hc2a := (hv2.alloc (.cells #[.string key, .int .i64 (totV 4 rows)] 45)).cell
        refine wpAny_ready (rs := [7]) (by kernel_rfl) (by simp) ?_
        refine AllReady.cons rfl (fun K hK => ?_) AllReady.nil
        go_simp
        refine hK _ _ ?_
        clear hK K
        refine wpAny_ready (rs := [8]) (by kernel_rfl) (by simp) ?_
        refine AllReady.cons rfl (fun K hK => ?_) AllReady.nil
        refine step_append_one rfl _ _ 24 rfl (w2.heap.size + 1) 45 i0 (.agg #[.string ⟨#[]⟩, .int .i64 0]) 2 24 Try.underlying24 hi hz0 hz1 hz2 rfl (by decide) (.slice b D.length c) _ _ rfl ((own_below hrow hb2).alloc _) ⟨w2x.heap.size, 0, none⟩ 1 1 [.string key, .int .i64 (totV 4 rows)] rfl rfl (cell_tot_new _ _ _ _) (tot_one ⟨key, totV 4 rows⟩) (by unfold maxLen; omega) (by omega) (by have := hb2.size; simp; omega) ?_
        intro v' w4 hO4 hg4 hat
        obtain ⟨a4, c4, rfl⟩ := own_slice' hO4
        obtain ⟨hv4, hv5, hr5, hk5, hb5⟩ := round_row hv (by decide) hrow hsW (Nat.le_refl _) hb2 hg4 hO4
        have hc4 := hv4.cell
        have hz4 := hv4.frozen
        refine hK _ _ ?_
        clear hK K
        refine wpAny_ready (rs := [9]) (by kernel_rfl) (by simp) ?_
        refine AllReady.cons rfl (fun K hK => ?_) AllReady.nil
        go_simp
        refine hK _ _ ?_
        clear hK K
        refine wpAny_done (by kernel_rfl) ?_ _
        exact ⟨hk5, hb5, ⟨_, hv5, by rw [HEQ.out, List.length_append, flatT_snoc]; exact hr5, trivial⟩, hB.trans hb5⟩
      · refine AllReady.cons rfl (fun K hK => ?_) AllReady.nil
        go_simp
        refine (over_greater xa xn xc B (w2.heap.size + 1) rows W.drew hx1 hxm hxc hxo hsW RN cB BX).mono ?_
        rintro e w2x ⟨rfl, hb2x⟩
        have hb2 : Below W.heap.size W w2x := (Below.refl W.heap.size W).drew.trans hb2x
        rw [← HVT.out]
        refine hK _ _ ?_
        clear hK K
        refine wpAny_take (i := 6) (v := .agg #[.string key, .int .i64 (totV 4 rows)]) rfl (by kernel_rfl) (by kernel_rfl) (by kernel_rfl) (fun _ _ _ h => h) (Or.inl ⟨by rfl, fun w => by go_simp⟩) ?_
        have hv2 : Boxed w2x (w2.heap.size + 1) 24 (.slice b D.length c) := (hb2.block _ hv.lt).trans hv
        have hc2 := hv2.cell
        have hc2a := (hv2.alloc (.cells #[.string key, .int .i64 (totV 4 rows)] 45)).cell
        refine wpAny_ready (rs := [0, 7]) (by kernel_rfl) (by simp) ?_
        refine AllReady.cons rfl (fun K hK => ?_) ?_
        · go_simp
          refine hK _ _ ?_
          clear hK K
          refine wpAny_ready (rs := [7]) (by kernel_rfl) (by simp) ?_
          refine AllReady.cons rfl (fun K hK => ?_) AllReady.nil
          go_simp
          refine hK _ _ ?_
          clear hK K
          refine wpAny_ready (rs := [8]) (by kernel_rfl) (by simp) ?_
          refine AllReady.cons rfl (fun K hK => ?_) AllReady.nil
          refine step_append_one rfl _ _ 24 rfl (w2.heap.size + 1) 45 i0 (.agg #[.string ⟨#[]⟩, .int .i64 0]) 2 24 Try.underlying24 hi hz0 hz1 hz2 rfl (by decide) (.slice b D.length c) _ _ rfl ((own_below hrow hb2).alloc _) ⟨w2x.heap.size, 0, none⟩ 1 1 [.string key, .int .i64 (totV 4 rows)] rfl rfl (cell_tot_new _ _ _ _) (tot_one ⟨key, totV 4 rows⟩) (by unfold maxLen; omega) (by omega) (by have := hb2.size; simp; omega) ?_
          intro v' w4 hO4 hg4 hat
          obtain ⟨a4, c4, rfl⟩ := own_slice' hO4
          obtain ⟨hv4, hv5, hr5, hk5, hb5⟩ := round_row hv (by decide) hrow hsW (Nat.le_refl _) hb2 hg4 hO4
          have hc4 := hv4.cell
          have hz4 := hv4.frozen
          refine hK _ _ ?_
          clear hK K
          refine wpAny_ready (rs := [9]) (by kernel_rfl) (by simp) ?_
          refine AllReady.cons rfl (fun K hK => ?_) AllReady.nil
          go_simp
          refine hK _ _ ?_
          clear hK K
          refine wpAny_done (by kernel_rfl) ?_ _
          exact ⟨hk5, hb5, ⟨_, hv5, by rw [HEQ.out, List.length_append, flatT_snoc]; exact hr5, trivial⟩, hB.trans hb5⟩
        · refine AllReady.cons rfl (fun K hK => ?_) AllReady.nil
          go_simp
          refine hK _ _ ?_
          clear hK K
          refine wpAny_ready (rs := [0]) (by kernel_rfl) (by simp) ?_
          refine AllReady.cons rfl (fun K hK => ?_) AllReady.nil
          go_simp
          refine hK _ _ ?_
          clear hK K
          refine wpAny_ready (rs := [8]) (by kernel_rfl) (by simp) ?_
          refine AllReady.cons rfl (fun K hK => ?_) AllReady.nil
          refine step_append_one rfl _ _ 24 rfl (w2.heap.size + 1) 45 i0 (.agg #[.string ⟨#[]⟩, .int .i64 0]) 2 24 Try.underlying24 hi hz0 hz1 hz2 rfl (by decide) (.slice b D.length c) _ _ rfl ((own_below hrow hb2).alloc _) ⟨w2x.heap.size, 0, none⟩ 1 1 [.string key, .int .i64 (totV 4 rows)] rfl rfl (cell_tot_new _ _ _ _) (tot_one ⟨key, totV 4 rows⟩) (by unfold maxLen; omega) (by omega) (by have := hb2.size; simp; omega) ?_
          intro v' w4 hO4 hg4 hat
          obtain ⟨a4, c4, rfl⟩ := own_slice' hO4
          obtain ⟨hv4, hv5, hr5, hk5, hb5⟩ := round_row hv (by decide) hrow hsW (Nat.le_refl _) hb2 hg4 hO4
          have hc4 := hv4.cell
          have hz4 := hv4.frozen
          refine hK _ _ ?_
          clear hK K
          refine wpAny_ready (rs := [9]) (by kernel_rfl) (by simp) ?_
          refine AllReady.cons rfl (fun K hK => ?_) AllReady.nil
          go_simp
          refine hK _ _ ?_
          clear hK K
          refine wpAny_done (by kernel_rfl) ?_ _
          exact ⟨hk5, hb5, ⟨_, hv5, by rw [HEQ.out, List.length_append, flatT_snoc]; exact hr5, trivial⟩, hB.trans hb5⟩
  case done =>
    rintro D ys W hD hys ⟨⟨v, hv, hrow, _⟩, hB⟩ hK
    rw [hys] at hrow
    obtain ⟨fb, fc, rfl, _⟩ := own_slice2 hrow
    have hc := hv.cell
    gi_wp2_with fail
    refine ⟨by simp, .inl ⟨_, _, rfl, run_takeDeferred hK, ?_⟩⟩
    exact ⟨_, results_tmp2 rfl _ _ _, fb, fc, by simp, (hW0.trans (hB.mono (by have := hb2a.size; omega))).trans (belowK_b (w := w) (Nat.le_refl _) W D _ _ (by have := hW0.size; omega) hK rfl rfl), own_base' (ownsRow_putObj hrow _ hK rfl) (by have := hb2a.size; omega)⟩
  case stop =>
    rintro D c pre W _ _ h _
    exact h.elim
set_option maxRecDepth 100000 in
set_option maxHeartbeats 4000000 in
theorem implReduced_5 (a : Option Addr) (n cap : Nat) (rs : List RowV) (w : World) (hm : n ≤ 1048576) (hok : ∀ r ∈ rs, r.Ok) (hR : Rd w w.heap.size 3 a n (flat rs)) (hs : rowsOk rs = true) :
    Calls Try.prog 18 #[.slice a n cap, .int .i64 5] w fun e w' => ∃ b c, e = .returned (.tuple #[.slice b (totG 5 (groupsR (sortL rs))).length c, .bool true]) ∧ Below w.heap.size w w' ∧ w'.ownsRow w.heap.size 45 2 (.slice b (totG 5 (groupsR (sortL rs))).length c) (totG 5 (groupsR (sortL rs))).length (flatT (totG 5 (groupsR (sortL rs)))) := by
  obtain ⟨i0, hi, hz0, hz1, hz2⟩ := info_parts infoTotal
  have C0 := implSorted_any a n cap rs w (by omega) hok hR
  unfold SortedOut at C0
  rw [sortedR_yes hs, hs, sortL_length, hR.rows_length] at C0
  have hn120 : n ≤ 120 := by rw [← hR.rows_length]; exact rowsOk_le5 hs
  have hSl : (sortL rs).length = n := by rw [sortL_length, hR.rows_length]
  have HSO := Lib.hid (show ∀ r ∈ sortL rs, r.Ok from fun r hr => hok r ((sortL_perm' rs).mem_iff.1 hr))
  have HSL := Lib.hid hSl
  generalize sortL rs = S at *
  have CB := fun p pc w => byKey_any p n pc w
  have CA := fun w => aggr_5 w
  clear hR hok hs hSl
  refine (callsIn_wide (n := 5)).1 ?_
  refine callsIn_of_wp_marks Try.func18 rfl trivial ?_ rfl
  simp only [Try.ntmps18, List.size_toArray, List.length_cons, List.length_nil, Nat.reduceAdd, Nat.reduceSub, Array.replicate_succ, Array.replicate_zero, List.push_toArray, List.append_toArray, List.nil_append, List.cons_append]
  gi_wp2_with fail
  refine ⟨trivial, ?_⟩
  refine (callsIn_wide.2 C0).mono ?_
  rintro e w1 ⟨p, pc, rfl, hb1, hO1⟩
  obtain ⟨bp, pc', e0, hpc⟩ := own_slice2 hO1
  injection e0 with e1 _ e3
  subst e3
  have R1 := Rd.of_own hO1
  clear C0 hO1 e1
  gi_wp2_with fail
  refine ⟨trivial, ?_⟩
  refine (callsIn_wide.2 (CA _)).mono ?_
  rintro e w2 ⟨rfl, hbA⟩
  have hb2a := hb1.trans (hbA.mono hb1.size)
  have bA := two_cells w2 (.func (.func 110) #[] #[]) (.nilFunc) 84 (Below.refl _ _)
  have lA := bl1 w2 (.cells #[.func (.func 110) #[] #[], .nilFunc] 84)
  gi_wp2_with fail
  have bF := Boxed.new (w2.alloc (.cells #[.func (.func 110) #[] #[], .nilFunc] 84)) 24 (.slice none 0 0)
  rw [World.size_alloc] at bF
  refine ⟨trivial, ?_⟩
  refine (callsIn_wide.2 (CB _ _ _)).mono ?_
  rintro e w2' ⟨rfl, rfl⟩
  gi_wp2_with fail
  have lW0 : Below (w2.heap.size + 1) (w2.alloc (.cells #[.func (.func 110) #[] #[], .nilFunc] 84)) (((w2.alloc (.cells #[.func (.func 110) #[] #[], .nilFunc] 84)).alloc (.cells #[.slice none 0 0] 24)).alloc (.cells #[.slice p n pc] 27)) := ((Below.refl _ _).alloc (by simp) _).alloc (by first | (simp; done) | (simp; omega)) _
  have cA0 := (lW0.cell (p := ⟨w2.heap.size, 0, none⟩) (by simp)).trans bA.1
  have cA1 := (lW0.cell (p := ⟨w2.heap.size, 1, none⟩) (by simp)).trans bA.2
  have bF3 := bF.alloc (.cells #[.slice p n pc] 27)
  have bC := Boxed.new ((w2.alloc (.cells #[.func (.func 110) #[] #[], .nilFunc] 84)).alloc (.cells #[.slice none 0 0] 24)) 27 (.slice p n pc)
  rw [World.size_alloc, World.size_alloc] at bC
  have lW2 := lA.trans (lW0.mono (Nat.le_succ _))
  have hR0 := (R1.below ((hbA).trans (lW2.mono hbA.size)) (Nat.le_refl _)).more (B' := w2.heap.size + 1) (by have := hbA.size; omega)
  have hW0 := hb2a.trans (lW2.mono hb2a.size)
  generalize hWe : (((w2.alloc (.cells #[.func (.func 110) #[] #[], .nilFunc] 84)).alloc (.cells #[.slice none 0 0] 24)).alloc (.cells #[.slice p n pc] 27)) = W0 at *
  have hsz : w2.heap.size + 1 ≤ W0.heap.size := Nat.le_of_lt bF3.lt
  clear hWe
  refine wpIn_rangeFunc_ownF rfl (by omega) (gf := 111) (lb := #[.pointer (some ⟨w2.heap.size + 1 + 1, 0, none⟩)]) rfl trivial (enters_of Try.func111 (by kernel_rfl) rfl)
    (byKey_ok _ (w2.heap.size + 1 + 1) (w2.heap.size + 1) p n pc S hn120 hpc HSO.out W0 hsz bC.cell bC.lt hR0) belowK_t (belowK_b hsz) (Below.refl _ _) (fun _ => rfl)
    (fun (pre : List (GrpOk W0 (w2.heap.size + 1))) W => (∃ v, Boxed W (w2.heap.size + 1) 24 v ∧ W.ownsRow (w2.heap.size + 1) 45 2 v (totG 5 (okGrps pre)).length (flatT (totG 5 (okGrps pre))) ∧ True) ∧ Below (w2.heap.size + 1) W0 W)
    (fun _ _ _ => False)
    (OwnFrom.and (Own.from (holdsRow_own (w2.heap.size + 1) (w2.heap.size + 1) 24 45 2 (fun pre => (totG 5 (okGrps pre)).length) (fun pre => flatT (totG 5 (okGrps pre))) (fun _ _ => True)) _) (ownFrom_below hsz hsz))
    (fun _ _ _ _ _ hs _ _ => hs)
    ⟨⟨_, bF3, World.ownsRow_nil _ _ _ _, trivial⟩, Below.refl _ _⟩
    (fun x => { tmps := #[.slice a n cap, .int .i64 5, undef, undef, .slice none 0 0, .bool false, .slice p n pc, .bool true, .pointer (some ⟨w2.heap.size, 0, none⟩), .bool true, .pointer (some ⟨w2.heap.size + 1, 0, none⟩), .string x.1.key, .slice x.1.a x.1.n x.1.c, .tuple #[.slice p n pc, .bool true], .slice a n cap, .tuple #[.slice p n pc, .bool true], .slice p n pc, .bool true, .tuple #[.agg #[.func (.func 110) #[] #[], .nilFunc], .bool true], .int .i64 5, .tuple #[.agg #[.func (.func 110) #[] #[], .nilFunc], .bool true], .agg #[.func (.func 110) #[] #[], .nilFunc], .bool true, .bool true, .bool false, .bool false, .bool true, .bool false, .bool false, .slice p n pc, .func (.func 111) #[] #[.pointer (some ⟨w2.heap.size + 1 + 1, 0, none⟩)], .string x.1.key, .slice x.1.a x.1.n x.1.c, undef, undef, undef, undef, undef, undef, undef, undef, undef, undef], defers := [] })
    ?assign ?body ?done ?stop
  case assign =>
    intro l x W K hK
    simp only [okGrpV] at *
    gi_wp2_with fail
    exact hK
  case body =>
    rintro l pre x W ⟨⟨v, hv, hrow, _⟩, hB⟩ hlt
    have hEq0 := totG_snocX 5 pre x
    have hxR := x.2.1
    have hxc := x.2.2.1
    have hxm := x.2.2.2.1.1
    have hx1 := x.2.2.2.1.2.1
    have hxo := x.2.2.2.1.2.2
    obtain ⟨⟨key, xa, xn, xc, rows⟩, hxp⟩ := x
    dsimp only at hxR hxc hxm hx1 hxo hEq0 ⊢
    have hxl : rows.length = xn := hxR.rows_length
    have HEQ := Lib.hid hEq0
    have HVT := Lib.hid (show totV 5 rows = ((kindsV rows : Nat) : Int) from rfl)
    have hDl : (totG 5 (okGrps pre)).length ≤ 120 := by rw [totG_length, show (okGrps pre).length = pre.length from List.length_map _]; have := HSL.out; omega
    clear hEq0
    generalize totG 5 (okGrps pre) = D at *
    obtain ⟨b, c, rfl, hbc⟩ := own_slice2 hrow
    have hc := hv.cell
    have hsW : w2.heap.size + 1 ≤ W.heap.size := Nat.le_trans hsz hB.size
    have RN : Rd W.drew (w2.heap.size + 1) 3 xa xn (flat rows) := hxR.below hB.drew (Nat.le_refl _)
    have RX : Rd W.drew W.drew.heap.size 3 xa xn (flat rows) := RN.more hsW
    have k0 : W.cell? ⟨w2.heap.size, 0, none⟩ = some (.func (.func 110) #[] #[]) := (hB.cell (p := ⟨w2.heap.size, 0, none⟩) (Nat.lt_succ_self _)).trans cA0
    clear cA0 cA1
    refine wpIn_block ?_
    refine wpIn_region_round (by kernel_rfl) (by rfl) (by rintro ⟨a, w, h⟩; exact h) ?_
    refine wpAny_take (i := 1) (v := .string key) rfl (by kernel_rfl) (by kernel_rfl) (by kernel_rfl) (fun _ _ _ h => h) (Or.inl ⟨by rfl, fun w => by go_simp⟩) ?_
    refine wpAny_take (i := 2) (v := .pointer (some ⟨w2.heap.size, 0, none⟩)) rfl (by kernel_rfl) (by kernel_rfl) (by kernel_rfl) (fun _ _ _ h => h) (Or.inl ⟨by rfl, fun w => by go_simp⟩) ?_
    refine wpAny_take (i := 4) (v := .slice xa xn xc) rfl (by kernel_rfl) (by kernel_rfl) (by kernel_rfl) (fun _ _ _ h => h) (Or.inl ⟨by rfl, fun w => by go_simp⟩) ?_
    refine wpAny_ready (rs := [0, 3]) (by kernel_rfl) (by simp) ?_
    refine AllReady.cons rfl (fun K hK => ?_) ?_
    · go_simp
      refine hK _ _ ?_
      clear hK K
      refine wpAny_ready (rs := [3]) (by kernel_rfl) (by simp) ?_
      refine AllReady.cons rfl (fun K hK => ?_) AllReady.nil
      go_simp
      refine hK _ _ ?_
      clear hK K
      refine wpAny_ready (rs := [5]) (by kernel_rfl) (by simp) ?_
      refine AllReady.cons rfl (fun K hK => ?_) AllReady.nil
      go_simp
      refine (numberOfValues_any xa xn xc rows W.drew (by omega) hxo RX).mono ?_
      rintro e w2x ⟨rfl, hb2x⟩
      have hb2 : Below W.heap.size W w2x := (Below.refl W.heap.size W).drew.trans hb2x
      rw [← HVT.out]
      refine hK _ _ ?_
      clear hK K
      refine wpAny_take (i := 6) (v := .agg #[.string key, .int .i64 (totV 5 rows)]) rfl (by kernel_rfl) (by kernel_rfl) (by kernel_rfl) (fun _ _ _ h => h) (Or.inl ⟨by rfl, fun w => by go_simp⟩) ?_
      have hv2 : Boxed w2x (w2.heap.size + 1) 24 (.slice b D.length c) := (hb2.block _ hv.lt).trans hv
      have hc2 := hv2.cell
      have hc2a := (hv2.alloc (.cells #[.string key, .int .i64 (totV 5 rows)] 45)).cell
      refine wpAny_ready (rs := [7]) (by kernel_rfl) (by simp) ?_
      refine AllReady.cons rfl (fun K hK => ?_) AllReady.nil
      go_simp
      refine hK _ _ ?_
      clear hK K
      refine wpAny_ready (rs := [8]) (by kernel_rfl) (by simp) ?_
      refine AllReady.cons rfl (fun K hK => ?_) AllReady.nil
      refine step_append_one rfl _ _ 24 rfl (w2.heap.size + 1) 45 i0 (.agg #[.string ⟨#[]⟩, .int .i64 0]) 2 24 Try.underlying24 hi hz0 hz1 hz2 rfl (by decide) (.slice b D.length c) _ _ rfl ((own_below hrow hb2).alloc _) ⟨w2x.heap.size, 0, none⟩ 1 1 [.string key, .int .i64 (totV 5 rows)] rfl rfl (cell_tot_new _ _ _ _) (tot_one ⟨key, totV 5 rows⟩) (by unfold maxLen; omega) (by omega) (by have := hb2.size; simp; omega) ?_
      intro v' w4 hO4 hg4 hat
      obtain ⟨a4, c4, rfl⟩ := own_slice' hO4
      obtain ⟨hv4, hv5, hr5, hk5, hb5⟩ := round_row hv (by decide) hrow hsW (Nat.le_refl _) hb2 hg4 hO4
      have hc4 := hv4.cell
      have hz4 := hv4.frozen
      refine hK _ _ ?_
      clear hK K
      refine wpAny_ready (rs := [9]) (by kernel_rfl) (by simp) ?_
      refine AllReady.cons rfl (fun K hK => ?_) AllReady.nil
      go_simp
      refine hK _ _ ?_
      clear hK K
      refine wpAny_done (by kernel_rfl) ?_ _
      exact ⟨hk5, hb5, ⟨_, hv5, by rw [HEQ.out, List.length_append, flatT_snoc]; exact hr5, trivial⟩, hB.trans hb5⟩
    · refine AllReady.cons rfl (fun K hK => ?_) AllReady.nil
      go_simp
      refine hK _ _ ?_
      clear hK K
      refine wpAny_ready (rs := [0, 5]) (by kernel_rfl) (by simp) ?_
      refine AllReady.cons rfl (fun K hK => ?_) ?_
      · go_simp
        refine hK _ _ ?_
        clear hK K
        refine wpAny_ready (rs := [5]) (by kernel_rfl) (by simp) ?_
        refine AllReady.cons rfl (fun K hK => ?_) AllReady.nil
        go_simp
        refine (numberOfValues_any xa xn xc rows W.drew (by omega) hxo RX).mono ?_
        rintro e w2x ⟨rfl, hb2x⟩
        have hb2 : Below W.heap.size W w2x := (Below.refl W.heap.size W).drew.trans hb2x
        rw [← HVT.out]
        refine hK _ _ ?_
        clear hK K
        refine wpAny_take (i := 6) (v := .agg #[.string key, .int .i64 (totV 5 rows)]) rfl (by kernel_rfl) (by kernel_rfl) (by kernel_rfl) (fun _ _ _ h => h) (Or.inl ⟨by rfl, fun w => by go_simp⟩) ?_
        have hv2 : Boxed w2x (w2.heap.size + 1) 24 (.slice b D.length c) := (hb2.block _ hv.lt).trans hv
        have hc2 := hv2.cell
        have hc2a := (hv2.alloc (.cells #[.string key, .int .i64 (totV 5 rows)] 45)).cell
        refine wpAny_ready (rs := [7]) (by kernel_rfl) (by simp) ?_
        refine AllReady.cons rfl (fun K hK => ?_) AllReady.nil
        go_simp
        refine hK _ _ ?_
        clear hK K
        refine wpAny_ready (rs := [8]) (by kernel_rfl) (by simp) ?_
        refine AllReady.cons rfl (fun K hK => ?_) AllReady.nil
        refine step_append_one rfl _ _ 24 rfl (w2.heap.size + 1) 45 i0 (.agg #[.string ⟨#[]⟩, .int .i64 0]) 2 24 Try.underlying24 hi hz0 hz1 hz2 rfl (by decide) (.slice b D.length c) _ _ rfl ((own_below hrow hb2).alloc _) ⟨w2x.heap.size, 0, none⟩ 1 1 [.string key, .int .i64 (totV 5 rows)] rfl rfl (cell_tot_new _ _ _ _) (tot_one ⟨key, totV 5 rows⟩) (by unfold maxLen; omega) (by omega) (by have := hb2.size; simp; omega) ?_
        intro v' w4 hO4 hg4 hat
        obtain ⟨a4, c4, rfl⟩ := own_slice' hO4
        obtain ⟨hv4, hv5, hr5, hk5, hb5⟩ := round_row hv (by decide) hrow hsW (Nat.le_refl _) hb2 hg4 hO4
        have hc4 := hv4.cell
        have hz4 := hv4.frozen
        refine hK _ _ ?_
        clear hK K
        refine wpAny_ready (rs := [9]) (by kernel_rfl) (by simp) ?_
        refine AllReady.cons rfl (fun K hK => ?_) AllReady.nil
        go_simp
        refine hK _ _ ?_
        clear hK K
        refine wpAny_done (by kernel_rfl) ?_ _
        exact ⟨hk5, hb5, ⟨_, hv5, by rw [HEQ.out, List.length_append, flatT_snoc]; exact hr5, trivial⟩, hB.trans hb5⟩
      · refine AllReady.cons rfl (fun K hK => ?_) AllReady.nil
        go_simp
        refine (numberOfValues_any xa xn xc rows W.drew (by omega) hxo RX).mono ?_
        rintro e w2x ⟨rfl, hb2x⟩
        have hb2 : Below W.heap.size W w2x := (Below.refl W.heap.size W).drew.trans hb2x
        rw [← HVT.out]
        refine hK _ _ ?_
        clear hK K
        refine wpAny_take (i := 6) (v := .agg #[.string key, .int .i64 (totV 5 rows)]) rfl (by kernel_rfl) (by kernel_rfl) (by kernel_rfl) (fun _ _ _ h => h) (Or.inl ⟨by rfl, fun w => by go_simp⟩) ?_
        have hv2 : Boxed w2x (w2.heap.size + 1) 24 (.slice b D.length c) := (hb2.block _ hv.lt).trans hv
        have hc2 := hv2.cell
        have hc2a := (hv2.alloc (.cells #[.string key, .int .i64 (totV 5 rows)] 45)).cell
        refine wpAny_ready (rs := [0, 7]) (by kernel_rfl) (by simp) ?_
        refine AllReady.cons rfl (fun K hK => ?_) ?_
        · go_simp
          refine hK _ _ ?_
          clear hK K
          refine wpAny_ready (rs := [7]) (by kernel_rfl) (by simp) ?_
          refine AllReady.cons rfl (fun K hK => ?_) AllReady.nil
          go_simp
          refine hK _ _ ?_
          clear hK K
          refine wpAny_ready (rs := [8]) (by kernel_rfl) (by simp) ?_
          refine AllReady.cons rfl (fun K hK => ?_) AllReady.nil
          refine step_append_one rfl _ _ 24 rfl (w2.heap.size + 1) 45 i0 (.agg #[.string ⟨#[]⟩, .int .i64 0]) 2 24 Try.underlying24 hi hz0 hz1 hz2 rfl (by decide) (.slice b D.length c) _ _ rfl ((own_below hrow hb2).alloc _) ⟨w2x.heap.size, 0, none⟩ 1 1 [.string key, .int .i64 (totV 5 rows)] rfl rfl (cell_tot_new _ _ _ _) (tot_one ⟨key, totV 5 rows⟩) (by unfold maxLen; omega) (by omega) (by have := hb2.size; simp; omega) ?_
          intro v' w4 hO4 hg4 hat
          obtain ⟨a4, c4, rfl⟩ := own_slice' hO4
          obtain ⟨hv4, hv5, hr5, hk5, hb5⟩ := round_row hv (by decide) hrow hsW (Nat.le_refl _) hb2 hg4 hO4
          have hc4 := hv4.cell
          have hz4 := hv4.frozen
          refine hK _ _ ?_
          clear hK K
          refine wpAny_ready (rs := [9]) (by kernel_rfl) (by simp) ?_
          refine AllReady.cons rfl (fun K hK => ?_) AllReady.nil
          go_simp
          refine hK _ _ ?_
          clear hK K
          refine wpAny_done (by kernel_rfl) ?_ _
          exact ⟨hk5, hb5, ⟨_, hv5, by rw [HEQ.out, List.length_append, flatT_snoc]; exact hr5, trivial⟩, hB.trans hb5⟩
        · refine AllReady.cons rfl (fun K hK => ?_) AllReady.nil
          go_simp
          refine hK _ _ ?_
          clear hK K
          refine wpAny_ready (rs := [0]) (by kernel_rfl) (by simp) ?_
          refine AllReady.cons rfl (fun K hK => ?_) AllReady.nil
          go_simp
          refine hK _ _ ?_
          clear hK K
          refine wpAny_ready (rs := [8]) (by kernel_rfl) (by simp) ?_
          refine AllReady.cons rfl (fun K hK => ?_) AllReady.nil
          refine step_append_one rfl _ _ 24 rfl (w2.heap.size + 1) 45 i0 (.agg #[.string ⟨#[]⟩, .int .i64 0]) 2 24 Try.underlying24 hi hz0 hz1 hz2 rfl (by decide) (.slice b D.length c) _ _ rfl ((own_below hrow hb2).alloc _) ⟨w2x.heap.size, 0, none⟩ 1 1 [.string key, .int .i64 (totV 5 rows)] rfl rfl (cell_tot_new _ _ _ _) (tot_one ⟨key, totV 5 rows⟩) (by unfold maxLen; omega) (by omega) (by have := hb2.size; simp; omega) ?_
          intro v' w4 hO4 hg4 hat
          obtain ⟨a4, c4, rfl⟩ := own_slice' hO4
          obtain ⟨hv4, hv5, hr5, hk5, hb5⟩ := round_row hv (by decide) hrow hsW (Nat.le_refl _) hb2 hg4 hO4
          have hc4 := hv4.cell
          have hz4 := hv4.frozen
          refine hK _ _ ?_
          clear hK K
          refine wpAny_ready (rs := [9]) (by kernel_rfl) (by simp) ?_
          refine AllReady.cons rfl (fun K hK => ?_) AllReady.nil
          go_simp
          refine hK _ _ ?_
          clear hK K
          refine wpAny_done (by kernel_rfl) ?_ _
          exact ⟨hk5, hb5, ⟨_, hv5, by rw [HEQ.out, List.length_append, flatT_snoc]; exact hr5, trivial⟩, hB.trans hb5⟩
  case done =>
    rintro D ys W hD hys ⟨⟨v, hv, hrow, _⟩, hB⟩ hK
    rw [hys] at hrow
    obtain ⟨fb, fc, rfl, _⟩ := own_slice2 hrow
    have hc := hv.cell
    gi_wp2_with fail
    refine ⟨by simp, .inl ⟨_, _, rfl, run_takeDeferred hK, ?_⟩⟩
    exact ⟨_, results_tmp2 rfl _ _ _, fb, fc, by simp, (hW0.trans (hB.mono (by have := hb2a.size; omega))).trans (belowK_b (w := w) (Nat.le_refl _) W D _ _ (by have := hW0.size; omega) hK rfl rfl), own_base' (ownsRow_putObj hrow _ hK rfl) (by have := hb2a.size; omega)⟩
  case stop =>
    rintro D c pre W _ _ h _
    exact h.elim
end Go.Proofs.Ytnmlnenepceabaa

namespace Go.Proofs.Ytnmlnenepceabaa
open Go.RowKit
def TotsB (w : World) (ts : List TotV) (q : Bool) (e : Ending) (w' : World) : Prop := ∃ b c, e = .returned (.tuple #[.slice b ts.length c, .bool q]) ∧ Below w.heap.size w w' ∧ w'.ownsRow w.heap.size 45 2 (.slice b ts.length c) ts.length (flatT ts)
theorem kind_five {n : Int} (h : (decide (1 ≤ n) && decide (n ≤ 5)) = true) : n = 1 ∨ n = 2 ∨ n = 3 ∨ n = 4 ∨ n = 5 := by
  rw [Bool.and_eq_true, decide_eq_true_eq, decide_eq_true_eq] at h
  omega
set_option maxRecDepth 100000 in
set_option maxHeartbeats 2000000 in
theorem specReduced_any (a : Option Addr) (n cap : Nat) (rs : List RowV) (N : Int) (w : World) (hm : n ≤ 1048576) (hok : ∀ r ∈ rs, r.Ok) (hR : Rd w w.heap.size 3 a n (flat rs)) :
    Calls Try.prog 16 #[.slice a n cap, .int .i64 N] w (TotsB w (reducedS rs N) (reducedB rs N)) := by
  have C0 := specRowsOk_any a n cap rs w hm hok hR
  cases hs : rowsOk rs
  · have e1 : reducedB rs N = false := by unfold reducedB; rw [hs]; rfl
    have e2 : reducedS rs N = [] := by unfold reducedS; rw [e1]; exact if_neg (by decide)
    rw [e1, e2]
    rw [hs] at C0
    clear e1 e2 hs
    unfold TotsB
    go_enter Try.func16, Try.ntmps16
    go_wp2_with fail
    refine C0.mono ?_
    rintro e w1 ⟨rfl, hb⟩
    go_wp2_with fail
    go_ret2
    exact ⟨none, 0, rfl, hb, World.ownsRow_nil _ _ _ _⟩
  rw [hs] at C0
  cases hk : (decide (1 ≤ N) && decide (N ≤ 5))
  · have e1 : reducedB rs N = false := by unfold reducedB; rw [hs, hk]; rfl
    have e2 : reducedS rs N = [] := by unfold reducedS; rw [e1]; exact if_neg (by decide)
    rw [e1, e2]
    have CK := fun w => l7Kind_any N false w hk
    clear e1 e2 hs hk
    unfold TotsB
    go_enter Try.func16, Try.ntmps16
    go_wp2_with fail
    refine C0.mono ?_
    rintro e w1 ⟨rfl, hb⟩
    go_wp2_with fail
    refine (CK _).mono ?_
    rintro e w2 ⟨rfl, hb2⟩
    have B2 := hb.trans (hb2.mono hb.size)
    go_wp2_with fail
    go_ret2
    exact ⟨none, 0, rfl, B2, World.ownsRow_nil _ _ _ _⟩
  · have e1 : reducedB rs N = true := by unfold reducedB; rw [hs, hk]; rfl
    have e2 : reducedS rs N = totG N (groupsR (sortL rs)) := by unfold reducedS; rw [if_pos e1]
    have hn : n ≤ 120 := by rw [← hR.rows_length]; exact rowsOk_le5 hs
    have CK := fun w => l7Kind_any N true w hk
    have CR := fun w h => l7Reduced_any a n cap rs N w (kind_five hk) hn hok h
    unfold TotsOut at CR
    rw [e1, e2]
    clear e1 e2 hs hk
    unfold TotsB
    generalize totG N (groupsR (sortL rs)) = T at *
    go_enter Try.func16, Try.ntmps16
    go_wp2_with fail
    refine C0.mono ?_
    rintro e w1 ⟨rfl, hb⟩
    go_wp2_with fail
    refine (CK _).mono ?_
    rintro e w2 ⟨rfl, hb2⟩
    have B2 := hb.trans (hb2.mono hb.size)
    have C3 := CR w2 ((hR.below B2 (Nat.le_refl _)).more B2.size)
    clear C0 CK CR hb hb2
    go_wp2_with fail
    refine C3.mono ?_
    rintro e w3 ⟨b, c, rfl, hb3, hO⟩
    have B3 := B2.trans (hb3.mono B2.size)
    have hO' := own_base' hO B2.size
    go_wp2_with fail
    go_ret2
    exact ⟨b, c, rfl, B3, hO'⟩
def FnV (v : Value) : Prop := v = .nilFunc ∨ ∃ f a b, v = .func f a b
set_option maxRecDepth 100000 in
set_option maxHeartbeats 2000000 in
theorem aggr_no (n : Int) (h : (decide (1 ≤ n) && decide (n ≤ 5)) = false) (w : World) : Calls Try.prog 64 #[.int .i64 n] w fun e w' => e = .returned (.tuple #[.agg #[.nilFunc, .nilFunc], .bool false]) ∧ Below w.heap.size w w' := by
  have hld : ∀ W, Below (w.alloc (.cells #[.nilFunc, .nilFunc] 84)).heap.size (w.alloc (.cells #[.nilFunc, .nilFunc] 84)) W → (loadVar 84 ⟨w.heap.size, 0, none⟩).run Try.prog W = .ok (.agg #[.nilFunc, .nilFunc]) W := fun W h => load_aggr (two_cells w _ _ _ h).1 (two_cells w _ _ _ h).2
  have hb := bl1 w (.cells #[.nilFunc, .nilFunc] 84)
  by_cases h1 : n < 1
  · clear h
    go_enter Try.func64, Try.ntmps64
    go_wp2_with fail
    refine bodyPost_ret (v := .tuple #[.agg #[.nilFunc, .nilFunc], .bool false]) ?_ rfl ⟨rfl, hb⟩
    rw [results_cell_tmp rfl]
    simp [asAddr, Result.andThen]
    rw [hld _ (Below.refl _ _)]
  · have h2 : 5 < n := by
      rcases Int.lt_or_le 5 n with h2 | h2
      · exact h2
      · have : (decide (1 ≤ n) && decide (n ≤ 5)) = true := by simp; omega
        rw [this] at h; cases h
    clear h
    go_enter Try.func64, Try.ntmps64
    go_wp2_with fail
    refine bodyPost_ret (v := .tuple #[.agg #[.nilFunc, .nilFunc], .bool false]) ?_ rfl ⟨rfl, hb⟩
    rw [results_cell_tmp rfl]
    simp [asAddr, Result.andThen]
    rw [hld _ (Below.refl _ _)]
theorem aggr_any (n : Int) (w : World) : Calls Try.prog 64 #[.int .i64 n] w fun e w' => ∃ tv cv, FnV tv ∧ FnV cv ∧ e = .returned (.tuple #[.agg #[tv, cv], .bool (decide (1 ≤ n) && decide (n ≤ 5))]) ∧ Below w.heap.size w w' := by
  cases hk : (decide (1 ≤ n) && decide (n ≤ 5))
  · refine (aggr_no n hk w).mono ?_
    rintro e w1 ⟨rfl, hb⟩
    exact ⟨_, _, .inl rfl, .inl rfl, rfl, hb⟩
  · rcases kind_five hk with rfl | rfl | rfl | rfl | rfl
    · refine (aggr_1 w).mono ?_
      rintro e w1 ⟨rfl, hb⟩
      exact ⟨_, _, .inr ⟨_, _, _, rfl⟩, .inr ⟨_, _, _, rfl⟩, rfl, hb⟩
    · refine (aggr_2 w).mono ?_
      rintro e w1 ⟨B, _, _, _, rfl, hb⟩
      exact ⟨_, _, .inr ⟨_, _, _, rfl⟩, .inr ⟨_, _, _, rfl⟩, rfl, hb⟩
    · refine (aggr_3 w).mono ?_
      rintro e w1 ⟨B, _, _, _, rfl, hb⟩
      exact ⟨_, _, .inr ⟨_, _, _, rfl⟩, .inr ⟨_, _, _, rfl⟩, rfl, hb⟩
    · refine (aggr_4 w).mono ?_
      rintro e w1 ⟨B, _, _, _, rfl, hb⟩
      exact ⟨_, _, .inr ⟨_, _, _, rfl⟩, .inr ⟨_, _, _, rfl⟩, rfl, hb⟩
    · refine (aggr_5 w).mono ?_
      rintro e w1 ⟨rfl, hb⟩
      exact ⟨_, _, .inr ⟨_, _, _, rfl⟩, .inl rfl, rfl, hb⟩
set_option maxRecDepth 100000 in
set_option maxHeartbeats 2000000 in
theorem implReduced_no (a : Option Addr) (n cap : Nat) (N : Int) (rs : List RowV) (w : World) (hm : n ≤ 1048576) (hok : ∀ r ∈ rs, r.Ok) (hR : Rd w w.heap.size 3 a n (flat rs)) (hq : reducedB rs N = false) :
    Calls Try.prog 18 #[.slice a n cap, .int .i64 N] w fun e w' => e = .returned (.tuple #[.slice none 0 0, .bool false]) ∧ Below w.heap.size w w' := by
  have C0 := implSorted_any a n cap rs w hm hok hR
  unfold SortedOut at C0
  unfold reducedB at hq
  have CA := fun w => aggr_any N w
  generalize (decide (1 ≤ N) && decide (N ≤ 5)) = kb at *
  generalize sortedR rs = S at *
  cases hs : rowsOk rs
  case false =>
    rw [hs] at C0
    clear hq hs
    go_enter Try.func18, Try.ntmps18
    go_wp2_with fail
    refine C0.mono ?_
    rintro e w1 ⟨p, pc, rfl, hb, _⟩
    go_wp2_with fail
    refine (CA _).mono ?_
    rintro e w2 ⟨tv, cv, ht, hc, rfl, hb2⟩
    have B2 := hb.trans (hb2.mono hb.size)
    rcases ht with rfl | ⟨f1, a1, b1, rfl⟩ <;> rcases hc with rfl | ⟨f2, a2, b2, rfl⟩
    all_goals
      go_wp2_with fail
      go_ret2
      exact ⟨rfl, B2.alloc B2.size _⟩
  rw [hs] at C0 hq
  obtain rfl : kb = false := by simpa using hq
  clear hq hs
  go_enter Try.func18, Try.ntmps18
  go_wp2_with fail
  refine C0.mono ?_
  rintro e w1 ⟨p, pc, rfl, hb, _⟩
  go_wp2_with fail
  refine (CA _).mono ?_
  rintro e w2 ⟨tv, cv, ht, hc, rfl, hb2⟩
  have B2 := hb.trans (hb2.mono hb.size)
  rcases ht with rfl | ⟨f1, a1, b1, rfl⟩ <;> rcases hc with rfl | ⟨f2, a2, b2, rfl⟩
  all_goals
    go_wp2_with fail
    go_ret2
    exact ⟨rfl, B2.alloc B2.size _⟩
theorem implReduced_any (a : Option Addr) (n cap : Nat) (rs : List RowV) (N : Int) (w : World) (hm : n ≤ 1048576) (hok : ∀ r ∈ rs, r.Ok) (hR : Rd w w.heap.size 3 a n (flat rs)) :
    Calls Try.prog 18 #[.slice a n cap, .int .i64 N] w (TotsB w (reducedS rs N) (reducedB rs N)) := by
  unfold TotsB reducedS
  cases hq : reducedB rs N
  · rw [if_neg (by decide)]
    refine (implReduced_no a n cap N rs w hm hok hR hq).mono ?_
    rintro e w1 ⟨rfl, hb⟩
    exact ⟨none, 0, rfl, hb, World.ownsRow_nil _ _ _ _⟩
  · rw [if_pos rfl]
    have h := hq
    unfold reducedB at h
    rw [Bool.and_eq_true] at h
    rcases kind_five h.2 with rfl | rfl | rfl | rfl | rfl
    · exact implReduced_1 a n cap rs w hm hok hR h.1
    · exact implReduced_2 a n cap rs w hm hok hR h.1
    · exact implReduced_3 a n cap rs w hm hok hR h.1
    · exact implReduced_4 a n cap rs w hm hok hR h.1
    · exact implReduced_5 a n cap rs w hm hok hR h.1
end Go.Proofs.Ytnmlnenepceabaa

namespace Go.Proofs.Ytnmlnenepceabaa
open Go.RowKit
set_option maxRecDepth 100000 in
set_option maxHeartbeats 2000000 in
theorem near_big (g n : Nat) (lo hi : Int) (w : World) (h : Rdr w g n) (h1 : 0 ≤ lo) (h2 : lo ≤ hi) (h3 : hi ≤ 1000000000000) :
    Calls Try.prog 115 #[.pointer (some ⟨g, 0, none⟩), .int .i64 lo, .int .i64 hi] w fun e w' => ∃ z : Int, -9223372036854775808 ≤ z ∧ z ≤ 9223372036854775807 ∧ e = .returned (.int .i64 z) ∧ Drew w w' g n := by
  go_enter Try.func115, Try.ntmps115
  go_wp2_with fail
  refine (below_lit g n 8 _ _ h (by omega) (by omega) (by omega)).mono ?_
  rintro e w1 ⟨x, hx, rfl, hD1⟩
  by_cases h0 : x = 0
  · subst h0
    go_wp2_with fail
    go_ret
    exact ⟨lo, by omega, by omega, rfl, hD1⟩
  by_cases h0' : x = 1
  · subst h0'
    go_wp2_with fail
    go_ret
    exact ⟨hi, by omega, by omega, rfl, hD1⟩
  have b0 : ((x : Int) == 0) = false := by rw [beq_eq_false_iff_ne]; omega
  have b1 : ((x : Int) == 1) = false := by rw [beq_eq_false_iff_ne]; omega
  go_wp2_with fail
  refine (word_any g n _ hD1.rdr).mono ?_
  rintro e w2 ⟨z, hz0, hz1, rfl, hD2⟩
  have hD := hD1.trans hD2
  go_wp2_with fail
  go_ret
  exact ⟨_, (wrap64_bd _).1, (wrap64_bd _).2, rfl, hD⟩
set_option maxRecDepth 100000 in
set_option maxHeartbeats 2000000 in
theorem off_big (g n : Nat) (lo hi : Int) (w : World) (h : Rdr w g n) (h1 : 0 ≤ lo) (h2 : lo ≤ hi) (h3 : hi ≤ 1000000000000) :
    Calls Try.prog 71 #[.pointer (some ⟨g, 0, none⟩), .int .i64 lo, .int .i64 hi] w fun e w' => ∃ z : Int, -9223372036854775808 ≤ z ∧ z ≤ 9223372036854775807 ∧ e = .returned (.int .i64 z) ∧ Drew w w' g n := by
  have hg0 := h.lt
  go_enter Try.func71, Try.ntmps71
  go_wp2_with fail
  refine (once_lit g n 24 _ _ h (by omega) (by omega) (by omega)).mono ?_
  rintro e w1 ⟨b, rfl, hD1⟩
  cases b
  · go_wp2_with fail
    refine (near_big g n lo hi _ hD1.rdr h1 h2 h3).mono ?_
    rintro e w2 ⟨z, hz0, hz1, rfl, hD2⟩
    have hD := hD1.trans hD2
    go_wp2_with fail
    go_ret
    exact ⟨z, hz0, hz1, rfl, hD⟩
  · have hX : (w1.alloc (.cells #[.int .i64 (lo - 1), .int .i64 (hi + 1), .int .i64 (-9223372036854775808), .int .i64 9223372036854775807] 2)).ownsRow w1.heap.size 2 1 (.slice (some ⟨w1.heap.size, 0, none⟩) 4 4) 4 [.int .i64 (lo - 1), .int .i64 (hi + 1), .int .i64 (-9223372036854775808), .int .i64 9223372036854775807] := World.ownsRow_lit (base := w1.heap.size) (size := 1) w1 #[.int .i64 (lo - 1), .int .i64 (hi + 1), .int .i64 (-9223372036854775808), .int .i64 9223372036854775807] 4 (Nat.le_refl _) (by decide) rfl
    have hD2 := hD1.alloc (.cells #[.int .i64 (lo - 1), .int .i64 (hi + 1), .int .i64 (-9223372036854775808), .int .i64 9223372036854775807] 2)
    have hs1 := hD1.size
    go_wp2_with fail
    refine (below_lit g n 4 _ _ hD2.rdr (by omega) (by omega) (by omega)).mono ?_
    rintro e w3 ⟨y, hy, rfl, hD3⟩
    have hX3 := hD3.own hX (by omega)
    have hDc := hD2.trans hD3
    obtain ⟨u, d0, z, hz0, hz1, rfl⟩ := lit_pick (P := fun v => ∃ z : Int, -9223372036854775808 ≤ z ∧ z ≤ 9223372036854775807 ∧ v = .int .i64 z) hX3 hy (by
      intro v hv
      simp only [List.mem_cons, List.not_mem_nil, or_false] at hv
      rcases hv with rfl | rfl | rfl | rfl
      all_goals exact ⟨_, by omega, by omega, rfl⟩)
    clear hX hX3 hD2 hD3
    go_wp2_with fail
    go_ret
    exact ⟨z, hz0, hz1, rfl, hDc⟩
set_option maxRecDepth 100000 in
set_option maxHeartbeats 2000000 in
theorem drawNumberOf_any (a : Option Addr) (len cap : Nat) (w : World) (hl : len ≤ 1048576) (h : IsBy w w.heap.size a len) :
    Calls Try.prog 26 #[.slice a len cap] w fun e w' => ∃ s : ByteArray, s.size ≤ 10 ∧ e = .returned (.string s) ∧ Below w.heap.size w w' := by
  go_enter Try.func26, Try.ntmps26
  go_wp2_with fail
  refine (l1Open_any a len cap w hl h).mono ?_
  rintro e w1 ⟨rfl, hR1, hb1⟩
  have hlt := hR1.lt
  have hX := World.ownsRow_lit (base := w1.heap.size) (size := 1) (e := 9) w1 #[.string ⟨#[]⟩, .string ⟨#[48]⟩, .string ⟨#[55]⟩, .string ⟨#[49, 50]⟩, .string ⟨#[48, 48, 55]⟩, .string ⟨#[120]⟩, .string ⟨#[57, 57, 57, 57, 57, 57, 57, 57, 57]⟩, .string ⟨#[49, 48, 48, 48, 48, 48, 48, 48, 48, 48]⟩, .string ⟨#[45, 49]⟩] 9 (Nat.le_refl _) (by decide) rfl
  have hD2 := (Drew.refl hR1).alloc (.cells #[.string ⟨#[]⟩, .string ⟨#[48]⟩, .string ⟨#[55]⟩, .string ⟨#[49, 50]⟩, .string ⟨#[48, 48, 55]⟩, .string ⟨#[120]⟩, .string ⟨#[57, 57, 57, 57, 57, 57, 57, 57, 57]⟩, .string ⟨#[49, 48, 48, 48, 48, 48, 48, 48, 48, 48]⟩, .string ⟨#[45, 49]⟩] 9)
  go_wp2_with fail
  refine (below_lit w.heap.size len 9 _ _ hD2.rdr (by omega) (by omega) (by omega)).mono ?_
  rintro e w3 ⟨y, hy, rfl, hD3⟩
  have hX3 := hD3.own hX (by omega)
  have hDc := hD2.trans hD3
  obtain ⟨u, d0, s, hs, rfl⟩ := lit_pick (P := fun v => ∃ s : ByteArray, s.size ≤ 10 ∧ v = .string s) hX3 hy (by
    intro v hv
    simp only [List.mem_cons, List.not_mem_nil, or_false] at hv
    rcases hv with rfl | rfl | rfl | rfl | rfl | rfl | rfl | rfl | rfl
    all_goals exact ⟨_, by decide, rfl⟩)
  have hbb := below_drew hb1 hDc
  clear hX hX3 hD2 hD3
  go_wp2_with fail
  go_ret
  exact ⟨s, hs, rfl, hbb⟩
theorem reduced_ok {rs : List RowV} (hok : ∀ r ∈ rs, r.Ok) (hn : rs.length ≤ 120) (N : Int) : ∀ t ∈ reducedS rs N, t.Ok := by
  intro t ht
  unfold reducedS at ht
  split at ht
  · obtain ⟨g, hg, rfl⟩ := List.mem_map.1 ht
    obtain ⟨_, h2, _⟩ := group_facts hok hn hg
    have ha : KAsc (sortL rs) := asc_keys (sortL_asc rs)
    obtain ⟨_, r, hr, e⟩ := (groups_of _ (sortL rs) (Nat.le_refl _) ha).1 g hg
    have h3 := totV_bd N g.2 h2
    refine ⟨?_, int_wf (by show _ ≤ totV N g.2; omega) (by show totV N g.2 ≤ _; omega)⟩
    show g.1.size ≤ maxLen
    rw [← e]
    exact (hok r ((sortL_perm' rs).mem_iff.1 hr)).1
  · cases ht
theorem own_store1 {w : World} {base e s n g cap k : Nat} {xs : List Value} (h : w.ownsRow base e s (.slice (some ⟨g, 0, none⟩) n cap) n xs) (a : Value) :
    (w.setCell ⟨g, k, none⟩ a).ownsRow base e s (.slice (some ⟨g, 0, none⟩) n cap) n (xs.set k a) := (h.stored k a).1
set_option maxRecDepth 100000 in
set_option maxHeartbeats 4000000 in
theorem drawTotalsOk_any (a : Option Addr) (len cap : Nat) (w : World) (hl : len ≤ 1048576) (h : IsBy w w.heap.size a len) :
    Calls Try.prog 27 #[.slice a len cap] w fun e w' => ∃ (ts : List TotV) (b : Option Addr) (c : Nat), ts.length ≤ 1000 ∧ (∀ t ∈ ts, t.Ok) ∧ e = .returned (.slice b ts.length c) ∧ Rd w' w'.heap.size 2 b ts.length (flatT ts) ∧ Below w.heap.size w w' := by
  obtain ⟨i0, hi, hz0, hz1, hz2⟩ := info_parts infoTotal
  go_enter Try.func27, Try.ntmps27
  go_wp2_with fail
  refine (l1Open_any a len cap w hl h).mono ?_
  rintro e w1 ⟨rfl, hR1, hb1⟩
  have hlt := hR1.lt
  go_wp2_with fail
  refine (rows_lit w.heap.size len 8 _ _ hR1 (by omega) (by omega) (by omega)).mono ?_
  rintro e w2 ⟨rs, rb, rc, hll, hok, rfl, hO, hD⟩
  go_wp2_with fail
  refine (below_lit w.heap.size len 5 _ _ hD.rdr (by omega) (by omega) (by omega)).mono ?_
  rintro e w3 ⟨t, ht, rfl, hD3⟩
  have O3 := hD3.own hO hlt
  have hDa := hD.trans hD3
  have hlt3 := hDa.rdr.lt
  have s3 := hDa.size
  have hw1 : IntKind.i64.wrap (1 + (t : Int)) = 1 + (t : Int) := IntWalk.i64_in _ (by omega)
  clear hO hD hD3
  have CR := specReduced_any (some ⟨rb, 0, none⟩) rs.length rc rs (1 + (t : Int)) w3 (by omega) hok (Rd.of_own O3)
  unfold TotsB at CR
  have hts := reducedS_le rs (1 + (t : Int))
  have hok2 := reduced_ok hok (by omega) (1 + (t : Int))
  generalize reducedS rs (1 + (t : Int)) = ts at *
  go_wp2_with fail
  refine CR.mono ?_
  rintro e w4 ⟨b4, c4, rfl, hb4, O4⟩
  have hD4 := hDa.and hb4
  clear CR O3 hDa
  go_wp2_with fail
  refine (below_lit w.heap.size len 6 _ _ hD4.rdr (by omega) (by omega) (by omega)).mono ?_
  rintro e w5 ⟨x, hx, rfl, hD5⟩
  have O5 := hD5.own O4 hlt3
  have hDb := hD4.trans hD5
  have s4 := hb4.size
  have s5 := hD5.size
  clear O4 hD4 hD5
  by_cases h4 : x = 4
  · subst h4
    go_wp2_with fail
    refine (key_any w.heap.size len _ hDb.rdr).mono ?_
    rintro e w6 ⟨k, hk, rfl, hD6⟩
    have O6 := hD6.own O5 hlt3
    have hDc := hDb.trans hD6
    have s6 := hD6.size
    clear O5 hDb hD6
    go_wp2_with fail
    refine (off_any w.heap.size len 0 9 _ hDc.rdr (by omega) (by omega) (by omega)).mono ?_
    rintro e w7 ⟨z, hz0', hz1', rfl, hD7⟩
    have O7 := hD7.own O6 hlt3
    have hDd := hDc.trans hD7
    have s7 := hD7.size
    have hDe := hDd.alloc (.cells #[.string k, .int .i64 z] 45)
    clear O6 hDc hD7
    go_wp2_with (at_builtin; refine wpList_append_own _ rfl _ _ 24 rfl w3.heap.size 45 i0 (.agg #[.string ⟨#[]⟩, .int .i64 0]) 2 24 Try.underlying24 hi hz0 hz1 hz2 rfl (by decide) _ _ _ rfl (O7.alloc _) ⟨w7.heap.size, 0, none⟩ 1 1 [.string k, .int .i64 z] rfl rfl ?c1 ?c2 ?c3 ?c4 ?c5 ?_)
    case c1 =>
      intro j u hj
      match j, hj with
      | 0, hj => simp at hj; subst hj; simp [Addr.add, go_sem]
      | 1, hj => simp at hj; subst hj; simp [Addr.add, go_sem]
    case c2 =>
      intro u hu
      simp at hu
      rcases hu with rfl | rfl <;> rfl
    case c3 => unfold maxLen; omega
    case c4 => omega
    case c5 => simp; omega
    intro v' w8 hO8 hg8 _
    obtain ⟨a', cap', rfl⟩ := own_slice' hO8
    have O9 : w8.ownsRow w3.heap.size 45 2 (.slice a' (ts ++ [TotV.mk k z]).length cap') (ts ++ [TotV.mk k z]).length (flatT (ts ++ [TotV.mk k z])) := by
      rw [flatT_snoc]; simpa using hO8
    have hDf : Drew w1 w8 w.heap.size len := hDe.grown hlt hg8 (fun q e => by have := (own_ge O7 q e).1; omega)
    have hbb := below_drew hb1 hDf
    have hokk : ∀ t ∈ ts ++ [TotV.mk k z], t.Ok := fun t ht => by
      rcases List.mem_append.1 ht with ht | ht
      · exact hok2 t ht
      · rw [List.mem_singleton.1 ht]
        exact ⟨by show k.size ≤ maxLen; unfold maxLen; omega, int_wf hz0' hz1'⟩
    have hlk : (ts ++ [TotV.mk k z]).length ≤ 1000 := by simp; omega
    have He := Lib.hid (show ts.length + 1 = (ts ++ [TotV.mk k z]).length by simp)
    clear hO8 hg8 hDe hDd O7 hDf
    rw [He.out]
    generalize ts ++ [(⟨k, z⟩ : TotV)] = l2 at *
    go_wp2_with fail
    go_ret
    exact ⟨l2, a', cap', hlk, hokk, rfl, Rd.of_own O9, hbb⟩
  by_cases h5 : x = 5
  · subst h5
    by_cases h0 : 0 < ts.length
    · obtain ⟨g, rfl, hg0, _⟩ := own_form O5 h0
      have hd : decide (0 < ts.length) = true := by simpa using h0
      go_wp2_with fail
      refine (off_big w.heap.size len 0 999999999999 _ hDb.rdr (by omega) (by omega) (by omega)).mono ?_
      rintro e w7 ⟨z, hz0', hz1', rfl, hD7⟩
      have O7 := hD7.own O5 hlt3
      have hDd := hDb.trans hD7
      clear O5 hDb hD7
      obtain ⟨t0, ts', rfl⟩ : ∃ t0 ts', ts = t0 :: ts' := by
        cases ts with
        | nil => simp at h0
        | cons t0 ts' => exact ⟨t0, ts', rfl⟩
      have O8 := own_store1 (k := 1) O7 (.int .i64 z)
      have hDe := hDd.set (b := g) (o := 1) hlt (by omega) (.int .i64 z)
      have e8 : (flatT (t0 :: ts')).set 1 (.int .i64 z) = flatT (TotV.mk t0.key z :: ts') := by rfl
      rw [e8] at O8
      obtain ⟨u0, hc0⟩ : ∃ u, w7.cell? ⟨g, 1, none⟩ = some u := ⟨_, O7.cellAt 1 (by simp; omega)⟩
      have f1 := O7.frozenAt 1
      have hokk : ∀ t ∈ TotV.mk t0.key z :: ts', t.Ok := fun t ht => by
        rcases List.mem_cons.1 ht with rfl | ht
        · exact ⟨(hok2 t0 List.mem_cons_self).1, int_wf hz0' hz1'⟩
        · exact hok2 t (List.mem_cons_of_mem _ ht)
      have hbb := below_drew hb1 hDe
      have e9 : (t0 :: ts').length = (TotV.mk t0.key z :: ts').length := rfl
      have hlk : (TotV.mk t0.key z :: ts').length ≤ 1000 := by rw [← e9]; omega
      have h09 : 0 < (TotV.mk t0.key z :: ts').length := h0
      rw [e9] at O8
      clear hDd hDe e8 O7 h0 hd hts hok2
      rw [e9]
      clear e9
      generalize TotV.mk t0.key z :: ts' = l2 at *
      go_wp2_with fail
      go_ret
      exact ⟨l2, some ⟨g, 0, none⟩, c4, hlk, hokk, rfl, Rd.of_own O8, hbb⟩
    · have hd : decide (0 < ts.length) = false := by simpa using h0
      have hbb := below_drew hb1 hDb
      go_wp2_with fail
      go_ret
      exact ⟨ts, b4, c4, by omega, hok2, rfl, Rd.of_own O5, hbb⟩
  have e4 : ((x : Int) == 4) = false := by rw [beq_eq_false_iff_ne]; omega
  have e5 : ((x : Int) == 5) = false := by rw [beq_eq_false_iff_ne]; omega
  have hbb := below_drew hb1 hDb
  go_wp2_with fail
  go_ret
  exact ⟨ts, b4, c4, by omega, hok2, rfl, Rd.of_own O5, hbb⟩
end Go.Proofs.Ytnmlnenepceabaa

namespace Go.Proofs.Ytnmlnenepceabaa
open Go.RowKit
def cntT (ts : List TotV) : Int := (ts.map (·.n)).sum
theorem cntT_take {ts : List TotV} {k : Nat} {t : TotV} (h : ts[k]? = some t) : cntT (ts.take (k + 1)) = cntT (ts.take k) + t.n := by
  rw [List.take_add_one, h, Option.toList_some]
  simp [cntT]
theorem cntT_bd {M : Int} (hM : 0 ≤ M) : ∀ {ts : List TotV}, (∀ t ∈ ts, 0 ≤ t.n ∧ t.n ≤ M) → 0 ≤ cntT ts ∧ cntT ts ≤ M * (ts.length : Int)
  | [], _ => by simp [cntT]
  | t :: ts, h => by
    have h1 := h t List.mem_cons_self
    have h2 := cntT_bd hM (ts := ts) (fun x hx => h x (List.mem_cons_of_mem _ hx))
    have e : cntT (t :: ts) = t.n + cntT ts := by simp [cntT]
    have e2 : M * ((t :: ts).length : Int) = M * (ts.length : Int) + M := by rw [List.length_cons]; push_cast; rw [Int.mul_add]; omega
    rw [e, e2]
    omega
theorem cntT_part {M : Int} (hM : 0 ≤ M) {ts : List TotV} (h : ∀ t ∈ ts, 0 ≤ t.n ∧ t.n ≤ M) (k : Nat) : 0 ≤ cntT (ts.take k) ∧ cntT (ts.take k) ≤ M * (ts.length : Int) := by
  have h1 := cntT_bd hM (ts := ts.take k) (fun t ht => h t (List.mem_of_mem_take ht))
  have h2 : ((ts.take k).length : Int) ≤ (ts.length : Int) := by rw [List.length_take]; omega
  have h3 := Int.mul_le_mul_of_nonneg_left h2 hM
  omega
theorem totG_lens : ∀ G : List (ByteArray × List RowV), cntT (totG 1 G) = ((G.flatMap (·.2)).length : Int)
  | [] => rfl
  | g :: G => by
    have ih := totG_lens G
    have e : cntT (totG 1 (g :: G)) = (g.2.length : Int) + cntT (totG 1 G) := by
      have h0 : totV 1 g.2 = (g.2.length : Int) := rfl
      simp [cntT, totG, h0]
    rw [e, ih, List.flatMap_cons, List.length_append]
    push_cast
    rfl
theorem sumV_append (a b : List RowV) : sumV (a ++ b) = sumV a + sumV b := by simp [sumV]
theorem totG_sums : ∀ G : List (ByteArray × List RowV), cntT (totG 2 G) = sumV (G.flatMap (·.2))
  | [] => rfl
  | g :: G => by
    have ih := totG_sums G
    have e : cntT (totG 2 (g :: G)) = sumV g.2 + cntT (totG 2 G) := by
      have h0 : totV 2 g.2 = sumV g.2 := rfl
      simp [cntT, totG, h0]
    rw [e, ih, List.flatMap_cons, sumV_append]
theorem sumV_perm {a b : List RowV} (p : a.Perm b) : sumV a = sumV b := by
  induction p with
  | nil => rfl
  | cons x _ ih => simp only [sumV, List.map_cons, List.sum_cons] at ih ⊢; rw [ih]
  | swap x y l => simp only [sumV, List.map_cons, List.sum_cons]; omega
  | trans _ _ h1 h2 => exact h1.trans h2
theorem sums_all (l : List RowV) : cntT (totG 1 (groupsR (sortL l))) = (l.length : Int) ∧ cntT (totG 2 (groupsR (sortL l))) = sumV l := by
  rw [totG_lens, totG_sums, groups_flatR _ (sortL l) (Nat.le_refl _), sortL_length, sumV_perm (sortL_perm' l)]
  exact ⟨rfl, rfl⟩
theorem rowsOk_permT {a b : List RowV} (p : a.Perm b) : rowsOk a = rowsOk b := by
  unfold rowsOk
  rw [p.length_eq, p.all_eq]
theorem reduced_back (l : List RowV) (N : Int) : reducedB l.reverse N = reducedB l N ∧ reducedS l.reverse N = reducedS l N := by
  have h1 : reducedB l.reverse N = reducedB l N := by unfold reducedB; rw [rowsOk_permT (List.reverse_perm l)]
  refine ⟨h1, ?_⟩
  unfold reducedS
  rw [h1, sortL_of_perm (List.reverse_perm l)]
theorem tot_bds {rs : List RowV} (hok : ∀ r ∈ rs, r.Ok) (hn : rs.length ≤ 120) (N : Int) : ∀ t ∈ totG N (groupsR (sortL rs)), 0 ≤ t.n ∧ t.n ≤ 999999999 * 120 := by
  intro t ht
  obtain ⟨g, hg, rfl⟩ := List.mem_map.1 ht
  exact totV_bd N g.2 (group_facts hok hn hg).2.1
theorem reduced_fine {rs : List RowV} {N : Int} (hok : ∀ r ∈ rs, r.Ok) (h : reducedB rs N = true) : totsOk (reducedS rs N) = true := by
  have hR : rowsOk rs = true := by unfold reducedB at h; rw [Bool.and_eq_true] at h; exact h.1
  unfold rowsOk at hR
  rw [Bool.and_eq_true, decide_eq_true_eq, List.all_eq_true] at hR
  have hle := reducedS_le rs N
  have eS : reducedS rs N = totG N (groupsR (sortL rs)) := by unfold reducedS; rw [if_pos h]
  have ha : KAsc (sortL rs) := asc_keys (sortL_asc rs)
  obtain ⟨h1, h2, _⟩ := groups_of _ (sortL rs) (Nat.le_refl _) ha
  rw [totsOk_all (k := (reducedS rs N).length) ?_ (Nat.le_refl _)]
  · exact decide_eq_true hle
  · intro j hj
    rw [eS] at hj ⊢
    rw [totG_length] at hj
    have hg : (groupsR (sortL rs))[j]? = some ((groupsR (sortL rs))[j]'hj) := List.getElem?_eq_getElem hj
    have hkk : ∀ g ∈ groupsR (sortL rs), totOkB g.1 (totV N g.2) = true := by
      intro g hm
      obtain ⟨_, r, hr, e⟩ := h1 g hm
      have h3 := totV_bd N g.2 (group_facts hok hR.1 hm).2.1
      have h4 := hR.2 r ((sortL_perm' rs).mem_iff.1 hr)
      have h5 : g.1.size ≤ 12 := by
        rw [← e]
        exact (of_decide_eq_true h4).1
      exact decide_eq_true ⟨h5, h3.1, by omega⟩
    have ht : (totG N (groupsR (sortL rs)))[j]? = some ⟨((groupsR (sortL rs))[j]'hj).1, totV N ((groupsR (sortL rs))[j]'hj).2⟩ := by
      unfold totG
      rw [List.getElem?_map, hg]
      rfl
    have hv := hkk _ (List.mem_of_getElem? hg)
    rcases Nat.eq_zero_or_pos j with rfl | hp
    · exact okAt_first ht hv
    · have hj1 : j - 1 < (groupsR (sortL rs)).length := by omega
      have ht1 : (totG N (groupsR (sortL rs)))[j - 1]? = some ⟨((groupsR (sortL rs))[j - 1]'hj1).1, totV N ((groupsR (sortL rs))[j - 1]'hj1).2⟩ := by
        unfold totG
        rw [List.getElem?_map, List.getElem?_eq_getElem hj1]
        rfl
      rw [okAt_next hp ht1 ht hv]
      have := List.pairwise_iff_getElem.1 h2 (j - 1) j (by simpa using hj1) (by simpa using hj) (by omega)
      simpa using this
end Go.Proofs.Ytnmlnenepceabaa
