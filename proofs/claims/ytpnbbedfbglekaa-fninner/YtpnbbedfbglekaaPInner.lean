/-
  Rows.FnInnerSaid: laws.FnInner returns true for every input, and each argument reads afterwards as it read before. No conditions.
-/
import Derived.Test.YtpnbbedfbglekaaJoinFns
import Derived.Test.YtpnbbedfbglekaaOpenBytes
import Derived.Test.YtpnbbedfbglekaaDrawJoin
import Derived.Test.YtpnbbedfbglekaaOpen
namespace Go.Proofs.Ytpnbbedfbglekaa
open Go.RowKit
theorem rows_by_keys {g : ByteArray → List ByteArray → List PairV} (hg : ∀ k v, (g k v).length = v.length) : ∀ (K : List ByteArray) (l : List RowV), Rising K → (∀ r ∈ l, r.key ∈ K) → (K.flatMap fun k => g k (valsK l k)).length = l.length
  | [], l, _, h => by
    have : l = [] := List.eq_nil_iff_forall_not_mem.2 fun r hr => by have := h r hr; cases this
    subst this
    rfl
  | x :: K, l, hK, h => by
    obtain ⟨k1, k2⟩ := List.pairwise_cons.1 hK
    have hxK : x ∉ K := fun h => by have := k1 x h; rw [bl_irrefl] at this; cases this
    have ih := rows_by_keys hg K (l.filter fun r => !isKey x r) k2 (fun r hr => by
      rw [List.mem_filter] at hr
      refine (List.mem_cons.1 (h r hr.1)).resolve_left fun e => ?_
      rw [isKey_iff.2 e] at hr
      simp at hr)
    have e : (K.flatMap fun k => g k (valsK l k)) = K.flatMap fun k => g k (valsK (l.filter fun r => !isKey x r) k) := flatMap_congr' fun y hy => by
      have hne : y ≠ x := fun e => hxK (e ▸ hy)
      rw [valsK_rest hne]
    rw [List.flatMap_cons, List.length_append, e, ih, hg]
    unfold valsK
    rw [List.length_map]
    have : ∀ l : List RowV, (l.filter (isKey x)).length + (l.filter fun r => !isKey x r).length = l.length := by
      intro l
      induction l with
      | nil => rfl
      | cons r l ih2 => cases hr : isKey x r <;> simp [hr] <;> omega
    exact this l
theorem flatMap_len_le {α β γ : Type} {f : α → List β} {g : α → List γ} : ∀ {l : List α}, (∀ x ∈ l, (f x).length ≤ (g x).length) → (l.flatMap f).length ≤ (l.flatMap g).length
  | [], _ => by simp
  | x :: l, h => by
    have ih := flatMap_len_le (l := l) fun y hy => h y (List.mem_cons_of_mem _ hy)
    have := h x (List.mem_cons_self)
    rw [List.flatMap_cons, List.flatMap_cons, List.length_append, List.length_append]
    omega
theorem keys_all (a b : List RowV) : Rising (keysOf (sortL (a ++ b))) ∧ ∀ x, x ∈ keysOf (sortL (a ++ b)) ↔ (∃ r ∈ a, r.key = x) ∨ ∃ r ∈ b, r.key = x := by
  refine ⟨keysOf_rising (asc_keys (sortL_asc _)), fun x => ?_⟩
  rw [keysOf_mem]
  constructor
  · rintro ⟨r, hr, e⟩
    rw [(sortL_perm' _).mem_iff, List.mem_append] at hr
    rcases hr with hr | hr
    · exact .inl ⟨r, hr, e⟩
    · exact .inr ⟨r, hr, e⟩
  · rintro (⟨r, hr, e⟩ | ⟨r, hr, e⟩)
    · exact ⟨r, by rw [(sortL_perm' _).mem_iff, List.mem_append]; exact .inl hr, e⟩
    · exact ⟨r, by rw [(sortL_perm' _).mem_iff, List.mem_append]; exact .inr hr, e⟩
theorem keys_left (a b : List RowV) : ∀ r ∈ sortL a, r.key ∈ keysOf (sortL (a ++ b)) := fun r hr => ((keys_all a b).2 r.key).2 (.inl ⟨r, (sortL_perm' a).mem_iff.1 hr, rfl⟩)
/-- A row of the left side alone, for each. -/
def lonelyL (a b : List RowV) : List PairV := (keysOf (sortL (a ++ b))).flatMap fun key => (valsK (sortL a) key).map (leftP key)
theorem lonelyL_length (a b : List RowV) : (lonelyL a b).length = a.length := by
  have := rows_by_keys (g := fun k v => v.map (leftP k)) (by simp) (keysOf (sortL (a ++ b))) (sortL a) (keys_all a b).1 (keys_left a b)
  rw [sortL_length] at this
  exact this
theorem valsK_nil (key : ByteArray) : valsK (sortL []) key = [] := rfl
theorem flatMap_one {α β : Type} (f : α → β) (l : List α) : (l.flatMap fun x => [f x]) = l.map f := by
  induction l with
  | nil => rfl
  | cons x l ih => rw [List.flatMap_cons, ih]; rfl
theorem none_left {n : Int} (hn : n = 2 ∨ n = 4 ∨ n = 6) (a : List RowV) : l5J n a [] = lonelyL a [] := by
  unfold l5J lonelyL
  refine flatMap_congr' fun key _ => ?_
  rw [valsK_nil]
  rcases hn with rfl | rfl | rfl <;> simp [oneK, leftP, flatMap_one]
theorem none_none {n : Int} (hn : n = 1 ∨ n = 3 ∨ n = 5) (a : List RowV) : l5J n a [] = [] := by
  unfold l5J
  rw [List.flatMap_eq_nil_iff]
  intro key _
  rw [valsK_nil]
  rcases hn with rfl | rfl | rfl <;> simp [oneK]
theorem self_semi (a : List RowV) : l5J 5 a a = lonelyL a a := by
  unfold l5J lonelyL
  refine flatMap_congr' fun key _ => ?_
  cases h : valsK (sortL a) key with
  | nil => simp [oneK]
  | cons x l => simp [oneK, leftP, flatMap_one]
theorem self_anti (a : List RowV) : l5J 6 a a = [] := by
  unfold l5J
  rw [List.flatMap_eq_nil_iff]
  intro key _
  cases h : valsK (sortL a) key with
  | nil => simp [oneK]
  | cons x l => simp [oneK]
theorem self_full (a : List RowV) : l5J 4 a a = l5J 1 a a := by
  unfold l5J
  refine flatMap_congr' fun key _ => ?_
  cases h : valsK (sortL a) key with
  | nil => simp [oneK]
  | cons x l => simp [oneK]
theorem self_many (a : List RowV) : a.length ≤ (l5J 1 a a).length := by
  rw [← lonelyL_length a a]
  unfold l5J lonelyL
  refine flatMap_len_le fun key _ => ?_
  rw [List.length_map]
  generalize valsK (sortL a) key = v
  have h : ∀ u : List ByteArray, 0 < v.length → u.length ≤ (u.flatMap fun x => v.map fun y => (⟨key, x, y, true, true⟩ : PairV)).length := by
    intro u hv
    induction u with
    | nil => simp
    | cons x u ih =>
      rw [List.flatMap_cons, List.length_append, List.length_map, List.length_cons]
      omega
  rcases Nat.eq_zero_or_pos v.length with h0 | h0
  · omega
  · have := h v h0
    simpa [oneK] using this
end Go.Proofs.Ytpnbbedfbglekaa

namespace Go.Proofs.Ytpnbbedfbglekaa
open Go.RowKit
theorem flatMap_none {α β : Type} (l : List α) : (l.flatMap fun _ => ([] : List β)) = [] := by
  induction l with
  | nil => rfl
  | cons x l ih => rw [List.flatMap_cons, ih]; rfl
theorem filter_map_none {α β : Type} {q : β → Bool} {f : α → β} (h : ∀ x, q (f x) = false) (l : List α) : (l.map f).filter q = [] := by
  rw [List.filter_eq_nil_iff]
  intro x hx
  obtain ⟨y, _, rfl⟩ := List.mem_map.1 hx
  rw [h]; decide
theorem one_semi {key : ByteArray} {a b : List ByteArray} {p : PairV} (h : p ∈ oneK 5 key a b) : p.key = key ∧ b ≠ [] := by
  cases b with
  | nil => simp [oneK] at h
  | cons y b =>
    refine ⟨?_, by simp⟩
    simp [oneK] at h
    obtain ⟨x, _, rfl⟩ := h
    rfl
theorem one_anti {key : ByteArray} {a b : List ByteArray} {p : PairV} (h : p ∈ oneK 6 key a b) : p.key = key ∧ b = [] := by
  cases b with
  | nil =>
    refine ⟨?_, rfl⟩
    simp [oneK] at h
    obtain ⟨x, _, rfl⟩ := h
    rfl
  | cons y b => simp [oneK] at h
theorem semi_anti_keys {a b : List RowV} {p q : PairV} (hp : p ∈ l5J 5 a b) (hq : q ∈ l5J 6 a b) : (p.key.toList == q.key.toList) = false := by
  unfold l5J at hp hq
  obtain ⟨k, _, hk⟩ := List.mem_flatMap.1 hp
  obtain ⟨m, _, hm⟩ := List.mem_flatMap.1 hq
  obtain ⟨e1, h1⟩ := one_semi hk
  obtain ⟨e2, h2⟩ := one_anti hm
  rw [beq_eq_false_iff_ne]
  intro e
  have := ext_toList e
  rw [e1, e2] at this
  rw [this] at h1
  exact h1 h2
theorem flatMap_two {α β γ δ : Type} {f : α → List β} {g : α → List γ} {h : α → List δ} (hh : ∀ x, (f x).length + (g x).length = (h x).length) : ∀ l : List α, (l.flatMap f).length + (l.flatMap g).length = (l.flatMap h).length
  | [] => by simp
  | x :: l => by
    have ih := flatMap_two hh l
    have := hh x
    rw [List.flatMap_cons, List.flatMap_cons, List.flatMap_cons, List.length_append, List.length_append, List.length_append]
    omega
theorem semi_anti_length (a b : List RowV) : (l5J 5 a b).length + (l5J 6 a b).length = a.length := by
  rw [← lonelyL_length a b]
  unfold l5J lonelyL
  refine flatMap_two (fun key => ?_) _
  cases valsK (sortL b) key with
  | nil =>
    have e1 : oneK 5 key (valsK (sortL a) key) [] = [] := by simp only [oneK]; simp [flatMap_none]
    have e2 : oneK 6 key (valsK (sortL a) key) [] = (valsK (sortL a) key).map (leftP key) := by simp only [oneK]; simp [flatMap_one, leftP]
    rw [e1, e2]; simp
  | cons y l =>
    have e1 : oneK 6 key (valsK (sortL a) key) (y :: l) = [] := by simp only [oneK]; simp [flatMap_none]
    have e2 : oneK 5 key (valsK (sortL a) key) (y :: l) = (valsK (sortL a) key).map (leftP key) := by simp only [oneK]; simp [flatMap_one, leftP]
    rw [e1, e2]; simp
theorem one_left {key : ByteArray} (a b : List ByteArray) : (oneK 2 key a b).filter (fun p => !p.hr) = oneK 6 key a b := by
  cases b with
  | nil =>
    simp only [oneK]
    simp [flatMap_one]
  | cons y b =>
    have e2 : oneK 6 key a (y :: b) = [] := by simp only [oneK]; simp [flatMap_none]
    have e1 : oneK 2 key a (y :: b) = a.flatMap fun x => (y :: b).map (bothP key x) := by simp only [oneK]; simp; rfl
    rw [e1, e2, List.filter_flatMap]
    have : ∀ x, ((y :: b).map (bothP key x)).filter (fun p => !p.hr) = [] := fun x => filter_map_none (fun _ => rfl) _
    simp only [this]
    exact flatMap_none a
theorem left_anti (a b : List RowV) : (l5J 2 a b).filter (fun p => !p.hr) = l5J 6 a b := by
  unfold l5J
  rw [List.filter_flatMap]
  exact flatMap_congr' fun key _ => one_left _ _
/-- How many of the first i are left alone. -/
def aloneN (l : List PairV) (i : Nat) : Nat := (l.take i).countP fun p => !p.hr
theorem aloneN_zero (l : List PairV) : aloneN l 0 = 0 := rfl
theorem aloneN_yes {l : List PairV} {i : Nat} {p : PairV} (h : l[i]? = some p) (hr : p.hr = false) : aloneN l (i + 1) = aloneN l i + 1 := by
  unfold aloneN
  rw [List.take_add_one, h, Option.toList_some, List.countP_append]
  simp [hr]
theorem aloneN_no {l : List PairV} {i : Nat} {p : PairV} (h : l[i]? = some p) (hr : p.hr = true) : aloneN l (i + 1) = aloneN l i := by
  unfold aloneN
  rw [List.take_add_one, h, Option.toList_some, List.countP_append]
  simp [hr]
theorem alone_at {l : List PairV} {i : Nat} {p : PairV} (h : l[i]? = some p) (hr : p.hr = false) : (l.filter fun p => !p.hr)[aloneN l i]? = some p := by
  obtain ⟨hi, e⟩ := List.getElem?_eq_some_iff.1 h
  have hs : l = l.take i ++ p :: l.drop (i + 1) := by
    rw [← e, ← List.drop_eq_getElem_cons hi, List.take_append_drop]
  unfold aloneN
  rw [List.countP_eq_length_filter]
  have e2 : (l.filter fun p => !p.hr) = ((l.take i).filter fun p => !p.hr) ++ p :: ((l.drop (i + 1)).filter fun p => !p.hr) := by
    have e3 := congrArg (List.filter fun p : PairV => !p.hr) hs
    rw [List.filter_append, List.filter_cons_of_pos (by simp [hr])] at e3
    exact e3
  rw [e2, List.getElem?_append_right (Nat.le_refl _), Nat.sub_self]
  rfl
theorem aloneN_all {l : List PairV} {i : Nat} (h : l.length ≤ i) : aloneN l i = (l.filter fun p => !p.hr).length := by
  unfold aloneN
  rw [List.take_of_length_le h, List.countP_eq_length_filter]
theorem aloneN_le (l : List PairV) (i : Nat) : aloneN l i ≤ i := by
  unfold aloneN
  have := List.countP_le_length (p := fun p : PairV => !p.hr) (l := l.take i)
  rw [List.length_take] at this
  omega
end Go.Proofs.Ytpnbbedfbglekaa

namespace Go.Proofs.Ytpnbbedfbglekaa
open Go.RowKit
theorem rising_sublist : ∀ {K L : List ByteArray}, Rising K → Rising L → (∀ x ∈ K, x ∈ L) → K.Sublist L
  | [], L, _, _, _ => List.nil_sublist L
  | k :: K, [], _, _, h => by have := h k (List.mem_cons_self); cases this
  | k :: K, y :: L, hK, hL, h => by
    obtain ⟨k1, k2⟩ := List.pairwise_cons.1 hK
    obtain ⟨l1, l2⟩ := List.pairwise_cons.1 hL
    by_cases e : k = y
    · subst e
      refine List.Sublist.cons_cons _ (rising_sublist k2 l2 fun x hx => ?_)
      refine (List.mem_cons.1 (h x (List.mem_cons_of_mem _ hx))).resolve_left fun e => ?_
      subst e
      have := k1 x hx
      rw [bl_irrefl] at this; cases this
    · refine List.Sublist.cons _ (rising_sublist hK l2 fun x hx => ?_)
      refine (List.mem_cons.1 (h x hx)).resolve_left fun e2 => ?_
      subst e2
      have hk : k ∈ L := (List.mem_cons.1 (h k (List.mem_cons_self))).resolve_left e
      have h1 := l1 k hk
      rcases List.mem_cons.1 hx with e3 | hx
      · exact e e3.symm
      · have h2 := k1 x hx
        rw [bl_asymm h1] at h2; cases h2
theorem flatMap_sub {α β : Type} {f g : α → List β} (h : ∀ x, (f x).Sublist (g x)) : ∀ l : List α, (l.flatMap f).Sublist (l.flatMap g)
  | [] => List.Sublist.refl _
  | x :: l => by
    rw [List.flatMap_cons, List.flatMap_cons]
    exact (h x).append (flatMap_sub h l)
theorem sub_flatMap {α β : Type} (f : α → List β) : ∀ {k l : List α}, k.Sublist l → (k.flatMap f).Sublist (l.flatMap f)
  | _, _, .slnil => List.Sublist.refl _
  | _, _, .cons x h => by
    rw [List.flatMap_cons]
    exact (sub_flatMap f h).trans (List.sublist_append_right _ _)
  | _, _, .cons_cons x h => by
    rw [List.flatMap_cons, List.flatMap_cons]
    exact (List.Sublist.refl _).append (sub_flatMap f h)
theorem ins_sub (r : RowV) (l : List RowV) : l.Sublist (ins r l) := by
  unfold ins
  have h : (l.take (insPos r l) ++ l.drop (insPos r l)).Sublist (l.take (insPos r l) ++ [r] ++ l.drop (insPos r l)) :=
    (List.sublist_append_left _ _).append (List.Sublist.refl _)
  rwa [List.take_append_drop] at h
theorem vals_sub (b : List RowV) (r : RowV) (key : ByteArray) : (valsK (sortL b) key).Sublist (valsK (sortL (b ++ [r])) key) := by
  rw [sortL_snoc]
  unfold valsK
  exact ((ins_sub r (sortL b)).filter _).map _
theorem keys_sub (a b : List RowV) (r : RowV) : (keysOf (sortL (a ++ b))).Sublist (keysOf (sortL (a ++ (b ++ [r])))) := by
  refine rising_sublist (keys_all a b).1 (keys_all a (b ++ [r])).1 fun x hx => ?_
  rw [(keys_all a (b ++ [r])).2]
  rcases ((keys_all a b).2 x).1 hx with h | ⟨q, hq, e⟩
  · exact .inl h
  · exact .inr ⟨q, List.mem_append_left _ hq, e⟩
theorem join_sub {n : Int} (hn : ∀ key (v u u' : List ByteArray), u.Sublist u' → (oneK n key v u).Sublist (oneK n key v u')) (a b : List RowV) (r : RowV) : (l5J n a b).Sublist (l5J n a (b ++ [r])) := by
  unfold l5J
  exact (sub_flatMap _ (keys_sub a b r)).trans (flatMap_sub (fun key => hn key _ _ _ (vals_sub b r key)) _)
theorem one_inner (key : ByteArray) (v u : List ByteArray) : oneK 1 key v u = v.flatMap fun x => u.map (bothP key x) := by
  simp only [oneK]; simp; rfl
theorem one_semi_of (key : ByteArray) (v u : List ByteArray) : oneK 5 key v u = if u.length = 0 then [] else v.map (leftP key) := by
  cases u with
  | nil => simp only [oneK]; simp [flatMap_none]
  | cons y u => simp only [oneK]; simp [flatMap_one, leftP]
theorem inner_sub (a b : List RowV) (r : RowV) : (l5J 1 a b).Sublist (l5J 1 a (b ++ [r])) := by
  refine join_sub (fun key v u u' h => ?_) a b r
  rw [one_inner, one_inner]
  exact flatMap_sub (fun x => h.map _) v
theorem anti_less (a b : List RowV) (r : RowV) : (l5J 6 a (b ++ [r])).length ≤ (l5J 6 a b).length := by
  have h : (l5J 5 a b).Sublist (l5J 5 a (b ++ [r])) := by
    refine join_sub (fun key v u u' h => ?_) a b r
    rw [one_semi_of, one_semi_of]
    have hl := h.length_le
    split
    · exact List.nil_sublist _
    · rw [if_neg (by omega)]
      exact List.Sublist.refl _
  have h1 := h.length_le
  have h2 := semi_anti_length a b
  have h3 := semi_anti_length a (b ++ [r])
  omega
/-- One step of finding one list in another. -/
theorem sub_step {x y : PairV} {l f : List PairV} (h : (y :: f).Sublist (x :: l)) : (x = y → f.Sublist l) ∧ (x ≠ y → (y :: f).Sublist l) := by
  constructor
  · rintro rfl
    exact List.cons_sublist_cons.1 h
  · intro hne
    cases h with
    | cons _ h => exact h
    | cons_cons _ h => exact absurd rfl hne
end Go.Proofs.Ytpnbbedfbglekaa

namespace Go.Proofs.Ytpnbbedfbglekaa
open Go.RowKit
/-- Have both rows one key? -/
def eqK (x r : RowV) : Bool := x.key.toList == r.key.toList
theorem eqK_iff {x r : RowV} : eqK x r = true ↔ x.key = r.key := by
  unfold eqK
  rw [beq_iff_eq]
  exact ⟨ext_toList, fun h => by rw [h]⟩
theorem eqK_isKey (x r : RowV) : eqK x r = isKey x.key r := by
  rw [Bool.eq_iff_iff, eqK_iff, isKey_iff]
  exact ⟨Eq.symm, Eq.symm⟩
theorem sum_split (q : RowV → Bool) (f : RowV → Nat) : ∀ l : List RowV, ((l.filter q).map f).sum + ((l.filter fun r => !q r).map f).sum = (l.map f).sum
  | [] => rfl
  | r :: l => by
    have ih := sum_split q f l
    cases hr : q r <;> simp [hr] <;> omega
theorem sum_same {f : RowV → Nat} {c : Nat} : ∀ {l : List RowV}, (∀ r ∈ l, f r = c) → (l.map f).sum = l.length * c
  | [], _ => by simp
  | r :: l, h => by
    have ih := sum_same (l := l) fun x hx => h x (List.mem_cons_of_mem _ hx)
    rw [List.map_cons, List.sum_cons, ih, h r (List.mem_cons_self), List.length_cons, Nat.succ_mul]
    omega
theorem times_by_keys {g : ByteArray → List ByteArray → List PairV} {f : ByteArray → Nat} (hg : ∀ k v, (g k v).length = v.length * f k) : ∀ (K : List ByteArray) (l : List RowV), Rising K → (∀ r ∈ l, r.key ∈ K) → (K.flatMap fun k => g k (valsK l k)).length = (l.map fun r => f r.key).sum
  | [], l, _, h => by
    have : l = [] := List.eq_nil_iff_forall_not_mem.2 fun r hr => by have := h r hr; cases this
    subst this
    rfl
  | x :: K, l, hK, h => by
    obtain ⟨k1, k2⟩ := List.pairwise_cons.1 hK
    have hxK : x ∉ K := fun h => by have := k1 x h; rw [bl_irrefl] at this; cases this
    have ih := times_by_keys hg K (l.filter fun r => !isKey x r) k2 (fun r hr => by
      rw [List.mem_filter] at hr
      refine (List.mem_cons.1 (h r hr.1)).resolve_left fun e => ?_
      rw [isKey_iff.2 e] at hr
      simp at hr)
    have e : (K.flatMap fun k => g k (valsK l k)) = K.flatMap fun k => g k (valsK (l.filter fun r => !isKey x r) k) := flatMap_congr' fun y hy => by
      have hne : y ≠ x := fun e => hxK (e ▸ hy)
      rw [valsK_rest hne]
    rw [List.flatMap_cons, List.length_append, e, ih, hg]
    have h1 : ((l.filter (isKey x)).map fun r => f r.key).sum = (valsK l x).length * f x := by
      unfold valsK
      rw [List.length_map]
      refine sum_same fun r hr => ?_
      rw [List.mem_filter] at hr
      rw [isKey_iff.1 hr.2]
    rw [← h1]
    exact sum_split (isKey x) (fun r => f r.key) l
/-- How many pairs of rows have one key, of the first i rows. -/
def sumTo (a b : List RowV) (i : Nat) : Nat := ((a.take i).map fun x => b.countP (eqK x)).sum
theorem sumTo_zero (a b : List RowV) : sumTo a b 0 = 0 := rfl
theorem sumTo_succ {a b : List RowV} {i : Nat} {x : RowV} (h : a[i]? = some x) : sumTo a b (i + 1) = sumTo a b i + b.countP (eqK x) := by
  unfold sumTo
  rw [List.take_add_one, h, Option.toList_some, List.map_append, List.sum_append]
  simp
def cntTo (x : RowV) (b : List RowV) (k : Nat) : Nat := (b.take k).countP (eqK x)
theorem cntTo_zero (x : RowV) (b : List RowV) : cntTo x b 0 = 0 := rfl
theorem cntTo_succ {x y : RowV} {b : List RowV} {k : Nat} (h : b[k]? = some y) : cntTo x b (k + 1) = cntTo x b k + if eqK x y = true then 1 else 0 := by
  unfold cntTo
  rw [List.take_add_one, h, Option.toList_some, List.countP_append]
  cases e : eqK x y <;> simp [e]
theorem cntTo_all {x : RowV} {b : List RowV} {k : Nat} (h : b.length ≤ k) : cntTo x b k = b.countP (eqK x) := by
  unfold cntTo
  rw [List.take_of_length_le h]
theorem cntTo_le (x : RowV) (b : List RowV) (k : Nat) : cntTo x b k ≤ k := by
  unfold cntTo
  have := List.countP_le_length (p := eqK x) (l := b.take k)
  rw [List.length_take] at this
  omega
theorem sumTo_le {a b : List RowV} {m : Nat} (hb : b.length ≤ m) : ∀ i, sumTo a b i ≤ i * m
  | 0 => by simp [sumTo]
  | i + 1 => by
    have ih := sumTo_le (a := a) hb i
    rcases Nat.lt_or_ge i a.length with h | h
    · rw [sumTo_succ (List.getElem?_eq_getElem h), Nat.succ_mul]
      have := List.countP_le_length (p := eqK a[i]) (l := b)
      omega
    · have : sumTo a b (i + 1) = sumTo a b i := by
        unfold sumTo
        rw [List.take_of_length_le (by omega), List.take_of_length_le h]
      rw [this, Nat.succ_mul]
      omega
theorem inner_len {a b : List RowV} {i : Nat} (hi : a.length ≤ i) : (l5J 1 a b).length = sumTo a b i := by
  have h := times_by_keys (g := fun key v => v.flatMap fun x => (valsK (sortL b) key).map (bothP key x)) (f := fun key => (valsK (sortL b) key).length) (fun key v => by
    induction v with
    | nil => simp
    | cons x v ih => rw [List.flatMap_cons, List.length_append, ih, List.length_map, List.length_cons, Nat.succ_mul]; omega) (keysOf (sortL (a ++ b))) (sortL a) (keys_all a b).1 (keys_left a b)
  have e : l5J 1 a b = (keysOf (sortL (a ++ b))).flatMap fun key => (valsK (sortL a) key).flatMap fun x => (valsK (sortL b) key).map (bothP key x) := by
    unfold l5J
    exact flatMap_congr' fun key _ => one_inner _ _ _
  rw [e, h]
  unfold sumTo
  rw [List.take_of_length_le hi]
  have e2 : (fun r : RowV => (valsK (sortL b) r.key).length) = fun x => b.countP (eqK x) := by
    funext x
    unfold valsK
    rw [List.length_map, ← List.countP_eq_length_filter, ((sortL_perm' b).countP_eq _)]
    congr 1
    funext r
    rw [eqK_isKey]
  rw [e2]
  exact ((sortL_perm' a).map _).sum_nat
/-- What the law asks of one pair. -/
def pairOk (a b : List RowV) (p : PairV) : Prop := p.hl = true ∧ p.hr = true ∧ (∃ r ∈ a, r.key = p.key ∧ r.val = p.l) ∧ ∃ r ∈ b, r.key = p.key ∧ r.val = p.r
theorem valsK_row {l : List RowV} {key x : ByteArray} (h : x ∈ valsK (sortL l) key) : ∃ r ∈ l, r.key = key ∧ r.val = x := by
  unfold valsK at h
  obtain ⟨r, hr, e⟩ := List.mem_map.1 h
  rw [List.mem_filter] at hr
  exact ⟨r, (sortL_perm' l).mem_iff.1 hr.1, isKey_iff.1 hr.2, e⟩
theorem inner_ok {a b : List RowV} {p : PairV} (h : p ∈ l5J 1 a b) : pairOk a b p := by
  unfold l5J at h
  obtain ⟨key, _, hk⟩ := List.mem_flatMap.1 h
  rw [one_inner] at hk
  obtain ⟨x, hx, hk⟩ := List.mem_flatMap.1 hk
  obtain ⟨y, hy, rfl⟩ := List.mem_map.1 hk
  exact ⟨rfl, rfl, valsK_row hx, valsK_row hy⟩
theorem inner_key {key : ByteArray} {v u : List ByteArray} {p : PairV} (h : p ∈ oneK 1 key v u) : p.key = key := by
  rw [one_inner] at h
  obtain ⟨x, _, h⟩ := List.mem_flatMap.1 h
  obtain ⟨y, _, rfl⟩ := List.mem_map.1 h
  rfl
theorem inner_asc (a b : List RowV) : (l5J 1 a b).Pairwise fun p q => Op.bytesLess q.key.toList p.key.toList = false := by
  unfold l5J
  rw [List.pairwise_flatMap]
  refine ⟨fun key _ => ?_, (keys_all a b).1.imp fun {x y} h p hp q hq => ?_⟩
  · refine List.pairwise_of_forall_mem_list fun p hp q hq => ?_
    rw [inner_key hp, inner_key hq]
    exact bl_irrefl _
  · rw [inner_key hp, inner_key hq]
    exact bl_asymm h
theorem inner_next {a b : List RowV} {i : Nat} {p q : PairV} (hp : (l5J 1 a b)[i]? = some p) (hq : (l5J 1 a b)[i + 1]? = some q) : Op.bytesLess q.key.toList p.key.toList = false := by
  obtain ⟨h1, rfl⟩ := List.getElem?_eq_some_iff.1 hp
  obtain ⟨h2, rfl⟩ := List.getElem?_eq_some_iff.1 hq
  exact List.pairwise_iff_getElem.1 (inner_asc a b) i (i + 1) h1 h2 (by omega)
/-- Is there a row of the key and the value among the first k? -/
def hasTo (key v : ByteArray) (l : List RowV) (k : Nat) : Bool := (l.take k).any fun r => r.key.toList == key.toList && r.val.toList == v.toList
theorem hasTo_zero (key v : ByteArray) (l : List RowV) : hasTo key v l 0 = false := rfl
theorem hasTo_succ {key v : ByteArray} {l : List RowV} {k : Nat} {r : RowV} (h : l[k]? = some r) : hasTo key v l (k + 1) = (hasTo key v l k || (r.key.toList == key.toList && r.val.toList == v.toList)) := by
  unfold hasTo
  rw [List.take_add_one, h, Option.toList_some, List.any_append]
  simp
theorem hasTo_all {key v : ByteArray} {l : List RowV} {k : Nat} (hk : l.length ≤ k) (h : ∃ r ∈ l, r.key = key ∧ r.val = v) : hasTo key v l k = true := by
  unfold hasTo
  rw [List.take_of_length_le hk, List.any_eq_true]
  obtain ⟨r, hr, rfl, rfl⟩ := h
  exact ⟨r, hr, by simp⟩
end Go.Proofs.Ytpnbbedfbglekaa

namespace Go.Proofs.Ytpnbbedfbglekaa
open Go.RowKit
set_option maxRecDepth 100000 in
set_option maxHeartbeats 4000000 in
theorem walk_Inner (a : Option Addr) (len cap : Nat) (xs : List Value) (w : World) (hI : IsCode w a len cap xs) :
    Calls Try.prog 8 #[.slice a len cap] w fun e w' => e = .returned (.bool true) ∧ Below w.heap.size w w' := by
  have hI0 := hI.by_
  obtain ⟨hlc, hcm, _, _⟩ := hI
  go_enter Try.func8, Try.ntmps8
  go_wp2_with fail
  refine (big_any a len cap w (by omega)).mono ?_
  rintro e w0 ⟨rfl, rfl⟩
  by_cases hbig : 1048576 < len
  · have hd : decide (1048576 < len) = true := by simpa using hbig
    rw [hd]
    go_wp2_with fail
    go_ret
    exact ⟨rfl, Below.refl _ _⟩
  have hd : decide (1048576 < len) = false := by simpa using hbig
  rw [hd]
  go_wp2_with fail
  refine (drawJoinOf_any a len cap w (by omega) hI0).mono ?_
  rintro e w1 ⟨l, lb, lc, m, mb, mc, z, hll, hok, hml, hmok, rfl, hO, hP, hb⟩
  have B := hb
  clear hb
  have L := Rd.of_own hO
  have M := Rd.of_own hP
  clear hO hP
  cases hq : (rowsOk l && rowsOk m)
  · have hB : ∀ n, joinOfB l m n = false := fun n => by unfold joinOfB; rw [hq]; rfl
    have hS : ∀ n, joinOfS l m n = [] := fun n => joinOf_no (hB n)
    have CI : ∀ w : World, Rd w w.heap.size 3 (some ⟨lb, 0, none⟩) l.length (flat l) → Rd w w.heap.size 3 (some ⟨mb, 0, none⟩) m.length (flat m) → Calls Try.prog 34 #[.slice (some ⟨lb, 0, none⟩) l.length lc, .slice (some ⟨mb, 0, none⟩) m.length mc, .int .i64 1] w (fun e w' => ∃ a c, e = .returned (.tuple #[.slice a 0 c, .bool false]) ∧ Below w.heap.size w w' ∧ w'.ownsRow w.heap.size 54 5 (.slice a 0 c) 0 (flatP [])) := fun w h h2 => by
      have := implJoinOf_any (some ⟨lb, 0, none⟩) l.length lc l (some ⟨mb, 0, none⟩) m.length mc m 1 w (by omega) hok h (by omega) hmok h2
      unfold PairsB at this
      rw [hS, hB] at this
      exact this
    have CS : ∀ w : World, Rd w w.heap.size 3 (some ⟨lb, 0, none⟩) l.length (flat l) → Rd w w.heap.size 3 (some ⟨mb, 0, none⟩) m.length (flat m) → Calls Try.prog 35 #[.slice (some ⟨lb, 0, none⟩) l.length lc, .slice (some ⟨mb, 0, none⟩) m.length mc, .int .i64 1] w (fun e w' => ∃ a c, e = .returned (.tuple #[.slice a 0 c, .bool false]) ∧ Below w.heap.size w w' ∧ w'.ownsRow w.heap.size 54 5 (.slice a 0 c) 0 (flatP [])) := fun w h h2 => by
      have := specJoinOf_any (some ⟨lb, 0, none⟩) l.length lc l (some ⟨mb, 0, none⟩) m.length mc m 1 w (by omega) hok h (by omega) hmok h2
      unfold PairsB at this
      rw [hS, hB] at this
      exact this
    clear hB hS hq
    go_wp2_with fail
    refine (CI w1 L M).mono ?_
    rintro e w2 ⟨pa, pc, rfl, hb, hO⟩
    replace B := B.trans (hb.mono B.size)
    replace L := (L.below hb (Nat.le_refl _)).more hb.size
    replace M := (M.below hb (Nat.le_refl _)).more hb.size
    clear hb
    have P := Rd.of_own hO
    clear hO
    go_wp2_with fail
    refine (CS w2 L M).mono ?_
    rintro e w3 ⟨qa, qc, rfl, hb, hO⟩
    replace B := B.trans (hb.mono B.size)
    replace L := (L.below hb (Nat.le_refl _)).more hb.size
    replace M := (M.below hb (Nat.le_refl _)).more hb.size
    replace P := (P.below hb (Nat.le_refl _)).more hb.size
    clear hb
    have Q := Rd.of_own hO
    clear hO
    go_wp2_with fail
    refine (samePairs_same pa qa 0 pc qc [] w3 (by omega) P Q).mono ?_
    rintro e w4 ⟨rfl, hb⟩
    replace B := B.trans (hb.mono B.size)
    replace L := (L.below hb (Nat.le_refl _)).more hb.size
    replace M := (M.below hb (Nat.le_refl _)).more hb.size
    replace P := (P.below hb (Nat.le_refl _)).more hb.size
    replace Q := (Q.below hb (Nat.le_refl _)).more hb.size
    clear hb
    go_wp2_with fail
    refine (samePairs_same pa qa 0 pc qc [] w4 (by omega) P Q).mono ?_
    rintro e w5 ⟨rfl, hb⟩
    replace B := B.trans (hb.mono B.size)
    replace L := (L.below hb (Nat.le_refl _)).more hb.size
    replace M := (M.below hb (Nat.le_refl _)).more hb.size
    replace P := (P.below hb (Nat.le_refl _)).more hb.size
    replace Q := (Q.below hb (Nat.le_refl _)).more hb.size
    clear hb
    go_wp2_with fail
    go_ret
    exact ⟨rfl, B⟩
  · have hB : ∀ n, kindB n = true → joinOfB l m n = true := fun n h => by unfold joinOfB; rw [hq, h]; rfl
    obtain ⟨n1, hn1⟩ : ∃ k, (l5J 1 l m).length = k := ⟨_, rfl⟩
    have e1 : joinOfS l m 1 = l5J 1 l m := joinOf_yes (hB 1 rfl)
    have hl1 : n1 ≤ 4194304 := by rw [← hn1]; exact l5J_le (by omega) (by omega)
    have CI : ∀ w : World, Rd w w.heap.size 3 (some ⟨lb, 0, none⟩) l.length (flat l) → Rd w w.heap.size 3 (some ⟨mb, 0, none⟩) m.length (flat m) → Calls Try.prog 34 #[.slice (some ⟨lb, 0, none⟩) l.length lc, .slice (some ⟨mb, 0, none⟩) m.length mc, .int .i64 1] w (fun e w' => ∃ a c, e = .returned (.tuple #[.slice a n1 c, .bool true]) ∧ Below w.heap.size w w' ∧ w'.ownsRow w.heap.size 54 5 (.slice a n1 c) n1 (flatP (l5J 1 l m))) := fun w h h2 => by
      have := implJoinOf_any (some ⟨lb, 0, none⟩) l.length lc l (some ⟨mb, 0, none⟩) m.length mc m 1 w (by omega) hok h (by omega) hmok h2
      unfold PairsB at this
      rw [e1, hB 1 rfl, hn1] at this
      exact this
    have CS : ∀ w : World, Rd w w.heap.size 3 (some ⟨lb, 0, none⟩) l.length (flat l) → Rd w w.heap.size 3 (some ⟨mb, 0, none⟩) m.length (flat m) → Calls Try.prog 35 #[.slice (some ⟨lb, 0, none⟩) l.length lc, .slice (some ⟨mb, 0, none⟩) m.length mc, .int .i64 1] w (fun e w' => ∃ a c, e = .returned (.tuple #[.slice a n1 c, .bool true]) ∧ Below w.heap.size w w' ∧ w'.ownsRow w.heap.size 54 5 (.slice a n1 c) n1 (flatP (l5J 1 l m))) := fun w h h2 => by
      have := specJoinOf_any (some ⟨lb, 0, none⟩) l.length lc l (some ⟨mb, 0, none⟩) m.length mc m 1 w (by omega) hok h (by omega) hmok h2
      unfold PairsB at this
      rw [e1, hB 1 rfl, hn1] at this
      exact this
    have HN := Lib.hid (show sumTo l m l.length = n1 by rw [← inner_len (Nat.le_refl _), hn1])
    have HP := Lib.hid (show ∀ p, p ∈ l5J 1 l m → pairOk l m p from fun p h => inner_ok h)
    have HX := Lib.hid (show ∀ i p q, (l5J 1 l m)[i]? = some p → (l5J 1 l m)[i + 1]? = some q → Op.bytesLess q.key.toList p.key.toList = false from fun i p q h1 h2 => inner_next h1 h2)
    have HS := Lib.hid (show ∀ i, sumTo l m i ≤ i * 7 from fun i => sumTo_le hml i)
    clear e1 hB hq hn1
    generalize l5J 1 l m = G at *
    go_wp2_with fail
    refine (CI w1 L M).mono ?_
    rintro e w2 ⟨pa, pc, rfl, hb, hO⟩
    replace B := B.trans (hb.mono B.size)
    replace L := (L.below hb (Nat.le_refl _)).more hb.size
    replace M := (M.below hb (Nat.le_refl _)).more hb.size
    clear hb
    have P := Rd.of_own hO
    clear hO
    go_wp2_with fail
    refine (CS w2 L M).mono ?_
    rintro e w3 ⟨qa, qc, rfl, hb, hO⟩
    replace B := B.trans (hb.mono B.size)
    replace L := (L.below hb (Nat.le_refl _)).more hb.size
    replace M := (M.below hb (Nat.le_refl _)).more hb.size
    replace P := (P.below hb (Nat.le_refl _)).more hb.size
    clear hb
    have Q := Rd.of_own hO
    clear hO CI CS
    go_wp2_with fail
    refine (samePairs_same pa qa n1 pc qc G w3 hl1 P Q).mono ?_
    rintro e w4 ⟨rfl, hb⟩
    replace B := B.trans (hb.mono B.size)
    replace L := (L.below hb (Nat.le_refl _)).more hb.size
    replace M := (M.below hb (Nat.le_refl _)).more hb.size
    replace P := (P.below hb (Nat.le_refl _)).more hb.size
    replace Q := (Q.below hb (Nat.le_refl _)).more hb.size
    clear hb
    clear Q
    go_wp2_with fail
    go_loopw [10, 11] (fun n i wr => ∃ (k c : Nat), k ≤ l.length ∧ i = .int .i64 k ∧ n = .int .i64 c ∧ Hid (sumTo l m k = c) ∧ Below w4.heap.size w4 wr) (fun _ i _ => l.length - (intOf i).toNat)
    case atStart => exact ⟨0, 0, Nat.zero_le _, rfl, rfl, Lib.hid rfl, Below.refl _ _⟩
    case round =>
      obtain ⟨k, c, hk, rfl, rfl, HC, hb⟩ := hrel
      by_cases hlt : k < l.length
      · have hc7 : c ≤ k * 7 := by rw [← HC.out]; exact HS.out k
        obtain ⟨b1, o1, x, e1, hB1, hx, _, _, _⟩ := (L.below hb (Nat.le_refl _)).row hlt
        injection e1 with e1
        injection e1 with e1 e2
        subst e1 e2
        have HX1 := Lib.hid hx
        clear hx
        go_wp2_with fail
        go_loopw [10, 12] (fun n j wx => ∃ (q e : Nat), q ≤ m.length ∧ j = .int .i64 q ∧ n = .int .i64 e ∧ e ≤ c + q ∧ Hid (c + cntTo x m q = e) ∧ Below w4.heap.size w4 wx) (fun _ j _ => m.length - (intOf j).toNat)
        case atStart => exact ⟨0, c, Nat.zero_le _, rfl, rfl, Nat.le_refl _, Lib.hid rfl, hb⟩
        case round =>
          clear hb
          obtain ⟨q, e, hq, rfl, rfl, he, HE, hb⟩ := hrel
          by_cases hlq : q < m.length
          · obtain ⟨b1, o1, x1, e1, hB1, hx, c0, _, _⟩ := (L.below hb (Nat.le_refl _)).row hlt
            injection e1 with e1
            injection e1 with e1 e2
            subst e1 e2
            obtain rfl : x = x1 := by rw [HX1.out] at hx; injection hx
            obtain ⟨b2, o2, y, e1, hB2, hy, d0, _, _⟩ := (M.below hb (Nat.le_refl _)).row hlq
            injection e1 with e1
            injection e1 with e1 e2
            subst e1 e2
            have HQ := Lib.hid (cntTo_succ (x := x) hy)
            simp only [Nat.zero_add] at c0 d0
            clear hx hy
            cases hxy : eqK x y
            · have hne : (x.key.toList == y.key.toList) = false := hxy
              have HE2 := Lib.hid (show c + cntTo x m (q + 1) = e by rw [HQ.out, hxy, if_neg (by decide), Nat.add_zero, HE.out])
              obtain ⟨xk, xt, xv⟩ := x
              obtain ⟨yk, yt, yv⟩ := y
              clear hxy HQ HE
              go_wp2_with fail
              go_quiet (fail)
              have hb1 := hb.trans ((show Below wr.heap.size wr (wr.drewN nq) from below_drewN (Below.refl _ _) nq).mono hb.size)
              generalize wr.drewN nq = w1 at *
              clear c0 d0 hne hb
              go_wp2_with fail
              go_roundw
              case rel => exact ⟨q + 1, e, by omega, by go_num, rfl, by omega, HE2, hb1⟩
              case measure => simp [intOf]; omega
            · have hne : (x.key.toList == y.key.toList) = true := hxy
              have HE2 := Lib.hid (show c + cntTo x m (q + 1) = e + 1 by rw [HQ.out, hxy, if_pos rfl, ← Nat.add_assoc, HE.out])
              obtain ⟨xk, xt, xv⟩ := x
              obtain ⟨yk, yt, yv⟩ := y
              clear hxy HQ HE
              go_wp2_with fail
              go_quiet (fail)
              have hb1 := hb.trans ((show Below wr.heap.size wr (wr.drewN nq) from below_drewN (Below.refl _ _) nq).mono hb.size)
              generalize wr.drewN nq = w1 at *
              clear c0 d0 hne hb
              go_wp2_with fail
              go_roundw
              case rel => exact ⟨q + 1, e + 1, by omega, by go_num, by go_num, by omega, HE2, hb1⟩
              case measure => simp [intOf]; omega
          · have HC2 := Lib.hid (show sumTo l m (k + 1) = e by rw [sumTo_succ HX1.out, HC.out, ← cntTo_all (k := q) (by omega), HE.out])
            clear HX1 HE HC
            go_wp2_with fail
            go_roundw
            case rel => exact ⟨k + 1, e, by omega, by go_num, rfl, HC2, hb⟩
            case measure => simp [intOf]; omega
      · obtain rfl : k = l.length := by omega
        obtain rfl : c = n1 := by rw [← HC.out, HN.out]
        have B2 := B.trans (hb.mono B.size)
        have L2 := (L.below hb (Nat.le_refl _)).more hb.size
        have M2 := (M.below hb (Nat.le_refl _)).more hb.size
        have P2 := (P.below hb (Nat.le_refl _)).more hb.size
        clear B L M P hb HC HN HS
        go_wp2_with fail
        generalize wr = wl at *
        go_loopw [13] (fun i wx => ∃ k : Nat, k ≤ c ∧ i = .int .i64 k ∧ Below wl.heap.size wl wx) (fun i _ => c - (intOf i).toNat)
        case atStart => exact ⟨0, Nat.zero_le _, rfl, Below.refl _ _⟩
        case round =>
          obtain ⟨k, hk, rfl, hb⟩ := hrel
          by_cases hlt : k < c
          · obtain ⟨b1, o1, p, rfl, hB1, hp, c0, c1, c2, c3, c4⟩ := (P2.below hb (Nat.le_refl _)).pair hlt
            obtain ⟨p1, p2, p3, p4⟩ := HP.out p (List.mem_of_getElem? hp)
            have H3 := Lib.hid p3
            have H4 := Lib.hid p4
            have Hp := Lib.hid hp
            obtain ⟨pk, pl, pr, phl, phr⟩ := p
            simp only at p1 p2
            subst p1 p2
            clear p3 p4 hp
            rcases Nat.eq_zero_or_pos k with rfl | hk0
            · simp only [Nat.zero_mul, Nat.add_zero] at c0 c1 c2 c3 c4
              go_wp2_with fail
              go_quiet (fail)
              have hb1 := hb.trans ((show Below wr.heap.size wr (wr.drewN nq) from below_drewN (Below.refl _ _) nq).mono hb.size)
              generalize wr.drewN nq = w1 at *
              clear c0 c1 c2 c3 c4 hb
              go_wp2_with fail
              go_loopw [14, 16] (fun v j wx => ∃ (q : Nat) (t : Bool), q ≤ l.length ∧ j = .int .i64 q ∧ v = .bool t ∧ Hid (hasTo pk pl l q = t) ∧ Below wl.heap.size wl wx) (fun _ j _ => l.length - (intOf j).toNat)
              case atStart => exact ⟨0, false, Nat.zero_le _, rfl, rfl, Lib.hid rfl, hb1⟩
              case round =>
                clear hb1
                obtain ⟨q, t, hq, rfl, rfl, HT, hb⟩ := hrel
                by_cases hlq : q < l.length
                · obtain ⟨b2, o2, x, e1, hB2, hx, d0, _, d2⟩ := (L2.below hb (Nat.le_refl _)).row hlq
                  injection e1 with e1
                  injection e1 with e1 e2
                  subst e1 e2
                  simp only [Nat.zero_add] at d0 d2
                  obtain ⟨b3, o3, p, e1, hB3, hp, c0, c1, c2, _, _⟩ := (P2.below hb (Nat.le_refl _)).pair hlt
                  injection e1 with e1
                  injection e1 with e1 e2
                  subst e1 e2
                  obtain rfl : (⟨pk, pl, pr, true, true⟩ : PairV) = p := by rw [Hp.out] at hp; injection hp
                  simp only [Nat.zero_mul, Nat.add_zero] at c0 c1 c2
                  have HQ := Lib.hid (hasTo_succ (key := pk) (v := pl) hx)
                  obtain ⟨xk, xt, xv⟩ := x
                  clear hx hp
                  simp only at HQ d0 d2
                  cases t
                  · cases f1 : (xk.toList == pk.toList)
                    · have HT2 := Lib.hid (show hasTo pk pl l (q + 1) = false by rw [HQ.out, HT.out, f1]; rfl)
                      clear HQ HT
                      go_wp2_with fail
                      go_quiet (fail)
                      have hb1 := hb.trans ((show Below wr.heap.size wr (wr.drewN nq) from below_drewN (Below.refl _ _) nq).mono hb.size)
                      generalize wr.drewN nq = w1 at *
                      clear c0 c1 c2 d0 d2 hb
                      go_wp2_with fail
                      go_roundw
                      case rel => exact ⟨q + 1, false, by omega, by go_num, rfl, HT2, hb1⟩
                      case measure => simp [intOf]; omega
                    · cases f2 : (xv.toList == pl.toList)
                      · have HT2 := Lib.hid (show hasTo pk pl l (q + 1) = false by rw [HQ.out, HT.out, f1, f2]; rfl)
                        clear HQ HT
                        go_wp2_with fail
                        go_quiet (fail)
                        have hb1 := hb.trans ((show Below wr.heap.size wr (wr.drewN nq) from below_drewN (Below.refl _ _) nq).mono hb.size)
                        generalize wr.drewN nq = w1 at *
                        clear c0 c1 c2 d0 d2 hb
                        go_wp2_with fail
                        go_roundw
                        case rel => exact ⟨q + 1, false, by omega, by go_num, rfl, HT2, hb1⟩
                        case measure => simp [intOf]; omega
                      · have HT2 := Lib.hid (show hasTo pk pl l (q + 1) = true by rw [HQ.out, HT.out, f1, f2]; rfl)
                        clear HQ HT
                        go_wp2_with fail
                        go_quiet (fail)
                        have hb1 := hb.trans ((show Below wr.heap.size wr (wr.drewN nq) from below_drewN (Below.refl _ _) nq).mono hb.size)
                        generalize wr.drewN nq = w1 at *
                        clear c0 c1 c2 d0 d2 hb
                        go_wp2_with fail
                        go_roundw
                        case rel => exact ⟨q + 1, true, by omega, by go_num, rfl, HT2, hb1⟩
                        case measure => simp [intOf]; omega
                  · have HT2 := Lib.hid (show hasTo pk pl l (q + 1) = true by rw [HQ.out, HT.out]; rfl)
                    clear HQ HT
                    go_wp2_with fail
                    go_quiet (fail)
                    have hb1 := hb.trans ((show Below wr.heap.size wr (wr.drewN nq) from below_drewN (Below.refl _ _) nq).mono hb.size)
                    generalize wr.drewN nq = w1 at *
                    clear c0 c1 c2 d0 d2 hb
                    go_wp2_with fail
                    go_roundw
                    case rel => exact ⟨q + 1, true, by omega, by go_num, rfl, HT2, hb1⟩
                    case measure => simp [intOf]; omega
                · have HT2 := Lib.hid (show hasTo pk pl l q = true from hasTo_all (by omega) H3.out)
                  obtain rfl : t = true := by rw [← HT.out, HT2.out]
                  clear HT HT2
                  go_wp2_with fail
                  go_loopw [15, 17] (fun v j wx => ∃ (q : Nat) (t : Bool), q ≤ m.length ∧ j = .int .i64 q ∧ v = .bool t ∧ Hid (hasTo pk pr m q = t) ∧ Below wl.heap.size wl wx) (fun _ j _ => m.length - (intOf j).toNat)
                  case atStart => exact ⟨0, false, Nat.zero_le _, rfl, rfl, Lib.hid rfl, hb⟩
                  case round =>
                    clear hb
                    obtain ⟨q, t, hq, rfl, rfl, HT, hb⟩ := hrel
                    by_cases hlq : q < m.length
                    · obtain ⟨b2, o2, x, e1, hB2, hx, d0, _, d2⟩ := (M2.below hb (Nat.le_refl _)).row hlq
                      injection e1 with e1
                      injection e1 with e1 e2
                      subst e1 e2
                      simp only [Nat.zero_add] at d0 d2
                      obtain ⟨b3, o3, p, e1, hB3, hp, c0, c1, c2, _, _⟩ := (P2.below hb (Nat.le_refl _)).pair hlt
                      injection e1 with e1
                      injection e1 with e1 e2
                      subst e1 e2
                      obtain rfl : (⟨pk, pl, pr, true, true⟩ : PairV) = p := by rw [Hp.out] at hp; injection hp
                      simp only [Nat.zero_mul, Nat.add_zero] at c0 c1 c2
                      have HQ := Lib.hid (hasTo_succ (key := pk) (v := pr) hx)
                      obtain ⟨xk, xt, xv⟩ := x
                      clear hx hp
                      simp only at HQ d0 d2
                      cases t
                      · cases f1 : (xk.toList == pk.toList)
                        · have HT2 := Lib.hid (show hasTo pk pr m (q + 1) = false by rw [HQ.out, HT.out, f1]; rfl)
                          clear HQ HT
                          go_wp2_with fail
                          go_quiet (fail)
                          have hb1 := hb.trans ((show Below wr.heap.size wr (wr.drewN nq) from below_drewN (Below.refl _ _) nq).mono hb.size)
                          generalize wr.drewN nq = w1 at *
                          clear c0 c1 c2 d0 d2 hb
                          go_wp2_with fail
                          go_roundw
                          case rel => exact ⟨q + 1, false, by omega, by go_num, rfl, HT2, hb1⟩
                          case measure => simp [intOf]; omega
                        · cases f2 : (xv.toList == pr.toList)
                          · have HT2 := Lib.hid (show hasTo pk pr m (q + 1) = false by rw [HQ.out, HT.out, f1, f2]; rfl)
                            clear HQ HT
                            go_wp2_with fail
                            go_quiet (fail)
                            have hb1 := hb.trans ((show Below wr.heap.size wr (wr.drewN nq) from below_drewN (Below.refl _ _) nq).mono hb.size)
                            generalize wr.drewN nq = w1 at *
                            clear c0 c1 c2 d0 d2 hb
                            go_wp2_with fail
                            go_roundw
                            case rel => exact ⟨q + 1, false, by omega, by go_num, rfl, HT2, hb1⟩
                            case measure => simp [intOf]; omega
                          · have HT2 := Lib.hid (show hasTo pk pr m (q + 1) = true by rw [HQ.out, HT.out, f1, f2]; rfl)
                            clear HQ HT
                            go_wp2_with fail
                            go_quiet (fail)
                            have hb1 := hb.trans ((show Below wr.heap.size wr (wr.drewN nq) from below_drewN (Below.refl _ _) nq).mono hb.size)
                            generalize wr.drewN nq = w1 at *
                            clear c0 c1 c2 d0 d2 hb
                            go_wp2_with fail
                            go_roundw
                            case rel => exact ⟨q + 1, true, by omega, by go_num, rfl, HT2, hb1⟩
                            case measure => simp [intOf]; omega
                      · have HT2 := Lib.hid (show hasTo pk pr m (q + 1) = true by rw [HQ.out, HT.out]; rfl)
                        clear HQ HT
                        go_wp2_with fail
                        go_quiet (fail)
                        have hb1 := hb.trans ((show Below wr.heap.size wr (wr.drewN nq) from below_drewN (Below.refl _ _) nq).mono hb.size)
                        generalize wr.drewN nq = w1 at *
                        clear c0 c1 c2 d0 d2 hb
                        go_wp2_with fail
                        go_roundw
                        case rel => exact ⟨q + 1, true, by omega, by go_num, rfl, HT2, hb1⟩
                        case measure => simp [intOf]; omega
                    · have HT2 := Lib.hid (show hasTo pk pr m q = true from hasTo_all (by omega) H4.out)
                      obtain rfl : t = true := by rw [← HT.out, HT2.out]
                      clear HT HT2
                      go_wp2_with fail
                      go_roundw
                      case rel => exact ⟨0 + 1, by omega, by go_num, hb⟩
                      case measure => simp [intOf]; omega
            · obtain ⟨j, rfl⟩ : ∃ j, k = j + 1 := ⟨k - 1, by omega⟩
              obtain ⟨b3, o3, p0, e1, hB3, hp0, g0, _, _, _, _⟩ := (P2.below hb (Nat.le_refl _)).pair (show j < c by omega)
              injection e1 with e1
              injection e1 with e1 e2
              subst e1 e2
              have hlss := HX.out j _ _ hp0 Hp.out
              obtain ⟨zk, zl, zr, zh, zi⟩ := p0
              clear hp0
              simp only at g0 hlss
              have hw1 : IntKind.i64.wrap (((j + 1 : Nat) : Int) - 1) = (j : Int) := by have := IntWalk.i64_in (((j + 1 : Nat) : Int) - 1) (by omega); omega
              have hpos : decide ((0 : Int) < ((j + 1 : Nat) : Int)) = true := decide_eq_true (by omega)
              have hgg : ¬ ((!Op.bytesLess zk.toList pk.toList) = true ∧ (!zk.toList == pk.toList) = true) := by
                rintro ⟨h1, h2⟩
                rcases bl_total hlss with h | h
                · rw [h] at h2; simp at h2
                · rw [h] at h1; simp at h1
              go_wp2_with fail
              go_quiet (fail)
              have hb1 := hb.trans ((show Below wr.heap.size wr (wr.drewN nq) from below_drewN (Below.refl _ _) nq).mono hb.size)
              generalize wr.drewN nq = w1 at *
              clear c0 c1 c2 c3 c4 g0 hb
              go_wp2_with fail
              any_goals (first | (exact absurd (by assumption) hgg; done) | skip)
              clear hgg
              go_loopw [14, 16] (fun v j wx => ∃ (q : Nat) (t : Bool), q ≤ l.length ∧ j = .int .i64 q ∧ v = .bool t ∧ Hid (hasTo pk pl l q = t) ∧ Below wl.heap.size wl wx) (fun _ j _ => l.length - (intOf j).toNat)
              case atStart => exact ⟨0, false, Nat.zero_le _, rfl, rfl, Lib.hid rfl, hb1⟩
              case round =>
                clear hb1
                obtain ⟨q, t, hq, rfl, rfl, HT, hb⟩ := hrel
                by_cases hlq : q < l.length
                · obtain ⟨b2, o2, x, e1, hB2, hx, d0, _, d2⟩ := (L2.below hb (Nat.le_refl _)).row hlq
                  injection e1 with e1
                  injection e1 with e1 e2
                  subst e1 e2
                  simp only [Nat.zero_add] at d0 d2
                  obtain ⟨b3, o3, p, e1, hB3, hp, c0, c1, c2, _, _⟩ := (P2.below hb (Nat.le_refl _)).pair hlt
                  injection e1 with e1
                  injection e1 with e1 e2
                  subst e1 e2
                  obtain rfl : (⟨pk, pl, pr, true, true⟩ : PairV) = p := by rw [Hp.out] at hp; injection hp
                  simp only at c0 c1 c2
                  have HQ := Lib.hid (hasTo_succ (key := pk) (v := pl) hx)
                  obtain ⟨xk, xt, xv⟩ := x
                  clear hx hp
                  simp only at HQ d0 d2
                  cases t
                  · cases f1 : (xk.toList == pk.toList)
                    · have HT2 := Lib.hid (show hasTo pk pl l (q + 1) = false by rw [HQ.out, HT.out, f1]; rfl)
                      clear HQ HT
                      go_wp2_with fail
                      go_quiet (fail)
                      have hb1 := hb.trans ((show Below wr.heap.size wr (wr.drewN nq) from below_drewN (Below.refl _ _) nq).mono hb.size)
                      generalize wr.drewN nq = w1 at *
                      clear c0 c1 c2 d0 d2 hb
                      go_wp2_with fail
                      go_roundw
                      case rel => exact ⟨q + 1, false, by omega, by go_num, rfl, HT2, hb1⟩
                      case measure => simp [intOf]; omega
                    · cases f2 : (xv.toList == pl.toList)
                      · have HT2 := Lib.hid (show hasTo pk pl l (q + 1) = false by rw [HQ.out, HT.out, f1, f2]; rfl)
                        clear HQ HT
                        go_wp2_with fail
                        go_quiet (fail)
                        have hb1 := hb.trans ((show Below wr.heap.size wr (wr.drewN nq) from below_drewN (Below.refl _ _) nq).mono hb.size)
                        generalize wr.drewN nq = w1 at *
                        clear c0 c1 c2 d0 d2 hb
                        go_wp2_with fail
                        go_roundw
                        case rel => exact ⟨q + 1, false, by omega, by go_num, rfl, HT2, hb1⟩
                        case measure => simp [intOf]; omega
                      · have HT2 := Lib.hid (show hasTo pk pl l (q + 1) = true by rw [HQ.out, HT.out, f1, f2]; rfl)
                        clear HQ HT
                        go_wp2_with fail
                        go_quiet (fail)
                        have hb1 := hb.trans ((show Below wr.heap.size wr (wr.drewN nq) from below_drewN (Below.refl _ _) nq).mono hb.size)
                        generalize wr.drewN nq = w1 at *
                        clear c0 c1 c2 d0 d2 hb
                        go_wp2_with fail
                        go_roundw
                        case rel => exact ⟨q + 1, true, by omega, by go_num, rfl, HT2, hb1⟩
                        case measure => simp [intOf]; omega
                  · have HT2 := Lib.hid (show hasTo pk pl l (q + 1) = true by rw [HQ.out, HT.out]; rfl)
                    clear HQ HT
                    go_wp2_with fail
                    go_quiet (fail)
                    have hb1 := hb.trans ((show Below wr.heap.size wr (wr.drewN nq) from below_drewN (Below.refl _ _) nq).mono hb.size)
                    generalize wr.drewN nq = w1 at *
                    clear c0 c1 c2 d0 d2 hb
                    go_wp2_with fail
                    go_roundw
                    case rel => exact ⟨q + 1, true, by omega, by go_num, rfl, HT2, hb1⟩
                    case measure => simp [intOf]; omega
                · have HT2 := Lib.hid (show hasTo pk pl l q = true from hasTo_all (by omega) H3.out)
                  obtain rfl : t = true := by rw [← HT.out, HT2.out]
                  clear HT HT2
                  go_wp2_with fail
                  go_loopw [15, 17] (fun v j wx => ∃ (q : Nat) (t : Bool), q ≤ m.length ∧ j = .int .i64 q ∧ v = .bool t ∧ Hid (hasTo pk pr m q = t) ∧ Below wl.heap.size wl wx) (fun _ j _ => m.length - (intOf j).toNat)
                  case atStart => exact ⟨0, false, Nat.zero_le _, rfl, rfl, Lib.hid rfl, hb⟩
                  case round =>
                    clear hb
                    obtain ⟨q, t, hq, rfl, rfl, HT, hb⟩ := hrel
                    by_cases hlq : q < m.length
                    · obtain ⟨b2, o2, x, e1, hB2, hx, d0, _, d2⟩ := (M2.below hb (Nat.le_refl _)).row hlq
                      injection e1 with e1
                      injection e1 with e1 e2
                      subst e1 e2
                      simp only [Nat.zero_add] at d0 d2
                      obtain ⟨b3, o3, p, e1, hB3, hp, c0, c1, c2, _, _⟩ := (P2.below hb (Nat.le_refl _)).pair hlt
                      injection e1 with e1
                      injection e1 with e1 e2
                      subst e1 e2
                      obtain rfl : (⟨pk, pl, pr, true, true⟩ : PairV) = p := by rw [Hp.out] at hp; injection hp
                      simp only at c0 c1 c2
                      have HQ := Lib.hid (hasTo_succ (key := pk) (v := pr) hx)
                      obtain ⟨xk, xt, xv⟩ := x
                      clear hx hp
                      simp only at HQ d0 d2
                      cases t
                      · cases f1 : (xk.toList == pk.toList)
                        · have HT2 := Lib.hid (show hasTo pk pr m (q + 1) = false by rw [HQ.out, HT.out, f1]; rfl)
                          clear HQ HT
                          go_wp2_with fail
                          go_quiet (fail)
                          have hb1 := hb.trans ((show Below wr.heap.size wr (wr.drewN nq) from below_drewN (Below.refl _ _) nq).mono hb.size)
                          generalize wr.drewN nq = w1 at *
                          clear c0 c1 c2 d0 d2 hb
                          go_wp2_with fail
                          go_roundw
                          case rel => exact ⟨q + 1, false, by omega, by go_num, rfl, HT2, hb1⟩
                          case measure => simp [intOf]; omega
                        · cases f2 : (xv.toList == pr.toList)
                          · have HT2 := Lib.hid (show hasTo pk pr m (q + 1) = false by rw [HQ.out, HT.out, f1, f2]; rfl)
                            clear HQ HT
                            go_wp2_with fail
                            go_quiet (fail)
                            have hb1 := hb.trans ((show Below wr.heap.size wr (wr.drewN nq) from below_drewN (Below.refl _ _) nq).mono hb.size)
                            generalize wr.drewN nq = w1 at *
                            clear c0 c1 c2 d0 d2 hb
                            go_wp2_with fail
                            go_roundw
                            case rel => exact ⟨q + 1, false, by omega, by go_num, rfl, HT2, hb1⟩
                            case measure => simp [intOf]; omega
                          · have HT2 := Lib.hid (show hasTo pk pr m (q + 1) = true by rw [HQ.out, HT.out, f1, f2]; rfl)
                            clear HQ HT
                            go_wp2_with fail
                            go_quiet (fail)
                            have hb1 := hb.trans ((show Below wr.heap.size wr (wr.drewN nq) from below_drewN (Below.refl _ _) nq).mono hb.size)
                            generalize wr.drewN nq = w1 at *
                            clear c0 c1 c2 d0 d2 hb
                            go_wp2_with fail
                            go_roundw
                            case rel => exact ⟨q + 1, true, by omega, by go_num, rfl, HT2, hb1⟩
                            case measure => simp [intOf]; omega
                      · have HT2 := Lib.hid (show hasTo pk pr m (q + 1) = true by rw [HQ.out, HT.out]; rfl)
                        clear HQ HT
                        go_wp2_with fail
                        go_quiet (fail)
                        have hb1 := hb.trans ((show Below wr.heap.size wr (wr.drewN nq) from below_drewN (Below.refl _ _) nq).mono hb.size)
                        generalize wr.drewN nq = w1 at *
                        clear c0 c1 c2 d0 d2 hb
                        go_wp2_with fail
                        go_roundw
                        case rel => exact ⟨q + 1, true, by omega, by go_num, rfl, HT2, hb1⟩
                        case measure => simp [intOf]; omega
                    · have HT2 := Lib.hid (show hasTo pk pr m q = true from hasTo_all (by omega) H4.out)
                      obtain rfl : t = true := by rw [← HT.out, HT2.out]
                      clear HT HT2
                      go_wp2_with fail
                      go_roundw
                      case rel => exact ⟨j + 1 + 1, by omega, by go_num, hb⟩
                      case measure => simp [intOf]; omega
          · have B3 := B2.trans (hb.mono B2.size)
            obtain rfl : k = c := by omega
            go_wp2_with fail
            go_ret
            exact ⟨rfl, B3⟩
end Go.Proofs.Ytpnbbedfbglekaa

namespace Go.Proofs.Ytpnbbedfbglekaa
open Go.ChangeShapes Go.WideShapes Go.ChangeAt Go.RowKit Go.Joins
open Go.ChangeMaps (open_string shut_string)
namespace Inner

set_option maxRecDepth 100000 in
theorem lifted (os : Os) (started : os.Started) (H : Type) (enc : TypeId × Value → H) :
    ReturnsInHanded {} Try.checked os 8 .any (Rows.fnInnerSpec.pre6 enc Try.prog Try.f8 Rows.fnInnerRow.domain false) (Rows.fnInnerSpec.post enc Try.prog Try.f8 false true false false) := by
  refine returnsInHanded_of_change (C := Try.checked) own started (by kernel_rfl) Try.func8
    (ChangeSpec.witness6 (enc := enc) (C := Try.checked) false ⟨#[], #[.slice none 0 0], []⟩ 8 (by kernel_rfl) (by kernel_rfl) (by kernel_rfl) (by kernel_rfl)) ?_
  intro W base args ds gs before hval0 hW _ _
  have hval : ∀ (j : Nat) t v, Try.f8.params[j]? = some t → args[j]? = some v → Value.okWide Try.prog W .any base t v := hval0
  have hW' := hW
  obtain ⟨p, q, hA0, hV, rfl, _, _⟩ := hW
  have hA : DataW.TrodAll enc Try.prog W 0 (fun _ => true) true Try.f8.params.toList args.toList ds p := hA0
  rw [Try.params8] at hA hval
  obtain ⟨v0, vs0, d0, ds0, p0, q0, hargs, rfl, rfl, h0, r0⟩ := trodAll_cons hA
  obtain ⟨rfl, rfl, rfl⟩ := trodAll_nil r0
  obtain rfl : args = #[v0] := by cases args; simp_all
  obtain ⟨rfl, rfl⟩ := trodVars_none hV
  have k0 := h0
  have lt0 : ∀ x ∈ p0, x.block < W.heap.size := by obtain ⟨m, hm⟩ := k0; exact DataW.trod_lt m _ _ _ hm
  obtain ⟨a0, len0, cap0, z0, rfl, w0⟩ := open_Bytes (hval 0 41 v0 rfl rfl) h0
  clear hA0 hval0
  refine (walk_Inner a0 len0 cap0 z0 W w0).mono fun e W' ⟨he, bel⟩ => ?_
  subst he
  exact ⟨_, rfl, _, _, _, [], _, [], hW', trodAll_mk1 (shut_bool Try.underlying4 _), (trodAll_cons_mk (Below.trod laidOut (by kernel_rfl) (of_decide_eq_true (by kernel_rfl)) k0 bel lt0) trodAll_mk0), rfl, bel.frame _, fun h => by cases h⟩

theorem over : Rows.fnInnerRow.holds Try.pinned (OpenSpec.ofChange Rows.fnInnerSpec) :=
  OpenClaim.holds_of_wide 8 Try.f8 rfl rfl rfl rfl rfl rfl rfl ⟨rfl, rfl, rfl, rfl, rfl⟩ rfl rfl rfl rfl rfl (by kernel_rfl) Try.func8 (by kernel_rfl)
    (of_decide_eq_true (by kernel_rfl)) (by unfold Func.isWrapper; first | (rw [if_pos (by decide +kernel)]; kernel_rfl) | (rw [if_neg (by decide +kernel)]; exact ⟨rfl, rfl⟩))
    (fun os started H enc _ => lifted os started H enc)
end Inner
theorem fnInner_holds : Rows.FnInnerSaid := Inner.over
end Go.Proofs.Ytpnbbedfbglekaa
