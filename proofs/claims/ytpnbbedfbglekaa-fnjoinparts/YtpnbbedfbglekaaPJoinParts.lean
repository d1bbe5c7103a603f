/-
  Rows.FnJoinPartsSaid: laws.FnJoinParts returns true for every input, and each argument reads afterwards as it read before. No conditions.
-/
import Derived.Test.YtpnbbedfbglekaaJoinFns
import Derived.Laws.StructEq
import Derived.Test.YtpnbbedfbglekaaGrow
import Derived.Test.YtpnbbedfbglekaaSort
import Derived.Test.YtpnbbedfbglekaaSwapMath
import Derived.Test.YtpnbbedfbglekaaPlain
import Derived.WalkKit
import Derived.WalkSpells
import Derived.WalkLawsBesides
import Derived.Outline
import Derived.Lib.Hide
import Derived.Test.YtpnbbedfbglekaaRowOrd
import Derived.Test.YtpnbbedfbglekaaStrMem
import Derived.Sort.OwnSorted
import Derived.Lib.SlicesCompact
import Derived.Test.YtpnbbedfbglekaaCutsMath
import Derived.Test.YtpnbbedfbglekaaSortedList
import Derived.Deep.QuietTactic
import Derived.Lib.RowBridge
import Derived.Maps.AppendAt
import Derived.Deep.RegionLaw
import Derived.Test.YtpnbbedfbglekaaDrawRows
import Derived.Deep.RegionHeld3
import Derived.Test.YtpnbbedfbglekaaOpenBytes
import Derived.Test.YtpnbbedfbglekaaDrawJoin
import Derived.Test.YtpnbbedfbglekaaOpen
namespace Go.Proofs.Ytpnbbedfbglekaa
open Go.RowKit
theorem rows_by_keys {g : ByteArray → List ByteArray → List PairV} (hg : ∀ k v, (g k v).length = v.length) : ∀ (K : List ByteArray) (l : List RowV), Rising K → (∀ r ∈ l, r.key ∈ K) → (K.flatMap fun k => g k (valsK l k)).length = l.length
  | [], l, _, h => by
    have : l = [] := List.eq_nil_iff_forall_not_mem.2 fun r hr => by have := h r hr; cases this
    subst this
    rfl
  | x :: K, l, hK, h => by
    obtain ⟨k1, k2⟩ := List.pairwise_cons.1 hK
    have hxK : x ∉ K := fun h => by have := k1 x h; rw [bl_irrefl] at this; cases this
    have ih := rows_by_keys hg K (l.filter fun r => !isKey x r) k2 (fun r hr => by
      rw [List.mem_filter] at hr
      refine (List.mem_cons.1 (h r hr.1)).resolve_left fun e => ?_
      rw [isKey_iff.2 e] at hr
      simp at hr)
    have e : (K.flatMap fun k => g k (valsK l k)) = K.flatMap fun k => g k (valsK (l.filter fun r => !isKey x r) k) := flatMap_congr' fun y hy => by
      have hne : y ≠ x := fun e => hxK (e ▸ hy)
      rw [valsK_rest hne]
    rw [List.flatMap_cons, List.length_append, e, ih, hg]
    unfold valsK
    rw [List.length_map]
    have : ∀ l : List RowV, (l.filter (isKey x)).length + (l.filter fun r => !isKey x r).length = l.length := by
      intro l
      induction l with
      | nil => rfl
      | cons r l ih2 => cases hr : isKey x r <;> simp [hr] <;> omega
    exact this l
theorem flatMap_len_le {α β γ : Type} {f : α → List β} {g : α → List γ} : ∀ {l : List α}, (∀ x ∈ l, (f x).length ≤ (g x).length) → (l.flatMap f).length ≤ (l.flatMap g).length
  | [], _ => by simp
  | x :: l, h => by
    have ih := flatMap_len_le (l := l) fun y hy => h y (List.mem_cons_of_mem _ hy)
    have := h x (List.mem_cons_self)
    rw [List.flatMap_cons, List.flatMap_cons, List.length_append, List.length_append]
    omega
theorem keys_all (a b : List RowV) : Rising (keysOf (sortL (a ++ b))) ∧ ∀ x, x ∈ keysOf (sortL (a ++ b)) ↔ (∃ r ∈ a, r.key = x) ∨ ∃ r ∈ b, r.key = x := by
  refine ⟨keysOf_rising (asc_keys (sortL_asc _)), fun x => ?_⟩
  rw [keysOf_mem]
  constructor
  · rintro ⟨r, hr, e⟩
    rw [(sortL_perm' _).mem_iff, List.mem_append] at hr
    rcases hr with hr | hr
    · exact .inl ⟨r, hr, e⟩
    · exact .inr ⟨r, hr, e⟩
  · rintro (⟨r, hr, e⟩ | ⟨r, hr, e⟩)
    · exact ⟨r, by rw [(sortL_perm' _).mem_iff, List.mem_append]; exact .inl hr, e⟩
    · exact ⟨r, by rw [(sortL_perm' _).mem_iff, List.mem_append]; exact .inr hr, e⟩
theorem keys_left (a b : List RowV) : ∀ r ∈ sortL a, r.key ∈ keysOf (sortL (a ++ b)) := fun r hr => ((keys_all a b).2 r.key).2 (.inl ⟨r, (sortL_perm' a).mem_iff.1 hr, rfl⟩)
/-- A row of the left side alone, for each. -/
def lonelyL (a b : List RowV) : List PairV := (keysOf (sortL (a ++ b))).flatMap fun key => (valsK (sortL a) key).map (leftP key)
theorem lonelyL_length (a b : List RowV) : (lonelyL a b).length = a.length := by
  have := rows_by_keys (g := fun k v => v.map (leftP k)) (by simp) (keysOf (sortL (a ++ b))) (sortL a) (keys_all a b).1 (keys_left a b)
  rw [sortL_length] at this
  exact this
theorem valsK_nil (key : ByteArray) : valsK (sortL []) key = [] := rfl
theorem flatMap_one {α β : Type} (f : α → β) (l : List α) : (l.flatMap fun x => [f x]) = l.map f := by
  induction l with
  | nil => rfl
  | cons x l ih => rw [List.flatMap_cons, ih]; rfl
theorem none_left {n : Int} (hn : n = 2 ∨ n = 4 ∨ n = 6) (a : List RowV) : l5J n a [] = lonelyL a [] := by
  unfold l5J lonelyL
  refine flatMap_congr' fun key _ => ?_
  rw [valsK_nil]
  rcases hn with rfl | rfl | rfl <;> simp [oneK, leftP, flatMap_one]
theorem none_none {n : Int} (hn : n = 1 ∨ n = 3 ∨ n = 5) (a : List RowV) : l5J n a [] = [] := by
  unfold l5J
  rw [List.flatMap_eq_nil_iff]
  intro key _
  rw [valsK_nil]
  rcases hn with rfl | rfl | rfl <;> simp [oneK]
theorem self_semi (a : List RowV) : l5J 5 a a = lonelyL a a := by
  unfold l5J lonelyL
  refine flatMap_congr' fun key _ => ?_
  cases h : valsK (sortL a) key with
  | nil => simp [oneK]
  | cons x l => simp [oneK, leftP, flatMap_one]
theorem self_anti (a : List RowV) : l5J 6 a a = [] := by
  unfold l5J
  rw [List.flatMap_eq_nil_iff]
  intro key _
  cases h : valsK (sortL a) key with
  | nil => simp [oneK]
  | cons x l => simp [oneK]
theorem self_full (a : List RowV) : l5J 4 a a = l5J 1 a a := by
  unfold l5J
  refine flatMap_congr' fun key _ => ?_
  cases h : valsK (sortL a) key with
  | nil => simp [oneK]
  | cons x l => simp [oneK]
theorem self_many (a : List RowV) : a.length ≤ (l5J 1 a a).length := by
  rw [← lonelyL_length a a]
  unfold l5J lonelyL
  refine flatMap_len_le fun key _ => ?_
  rw [List.length_map]
  generalize valsK (sortL a) key = v
  have h : ∀ u : List ByteArray, 0 < v.length → u.length ≤ (u.flatMap fun x => v.map fun y => (⟨key, x, y, true, true⟩ : PairV)).length := by
    intro u hv
    induction u with
    | nil => simp
    | cons x u ih =>
      rw [List.flatMap_cons, List.length_append, List.length_map, List.length_cons]
      omega
  rcases Nat.eq_zero_or_pos v.length with h0 | h0
  · omega
  · have := h v h0
    simpa [oneK] using this
end Go.Proofs.Ytpnbbedfbglekaa

namespace Go.Proofs.Ytpnbbedfbglekaa
open Go.RowKit
theorem flatMap_none {α β : Type} (l : List α) : (l.flatMap fun _ => ([] : List β)) = [] := by
  induction l with
  | nil => rfl
  | cons x l ih => rw [List.flatMap_cons, ih]; rfl
theorem filter_map_none {α β : Type} {q : β → Bool} {f : α → β} (h : ∀ x, q (f x) = false) (l : List α) : (l.map f).filter q = [] := by
  rw [List.filter_eq_nil_iff]
  intro x hx
  obtain ⟨y, _, rfl⟩ := List.mem_map.1 hx
  rw [h]; decide
theorem one_semi {key : ByteArray} {a b : List ByteArray} {p : PairV} (h : p ∈ oneK 5 key a b) : p.key = key ∧ b ≠ [] := by
  cases b with
  | nil => simp [oneK] at h
  | cons y b =>
    refine ⟨?_, by simp⟩
    simp [oneK] at h
    obtain ⟨x, _, rfl⟩ := h
    rfl
theorem one_anti {key : ByteArray} {a b : List ByteArray} {p : PairV} (h : p ∈ oneK 6 key a b) : p.key = key ∧ b = [] := by
  cases b with
  | nil =>
    refine ⟨?_, rfl⟩
    simp [oneK] at h
    obtain ⟨x, _, rfl⟩ := h
    rfl
  | cons y b => simp [oneK] at h
theorem semi_anti_keys {a b : List RowV} {p q : PairV} (hp : p ∈ l5J 5 a b) (hq : q ∈ l5J 6 a b) : (p.key.toList == q.key.toList) = false := by
  unfold l5J at hp hq
  obtain ⟨k, _, hk⟩ := List.mem_flatMap.1 hp
  obtain ⟨m, _, hm⟩ := List.mem_flatMap.1 hq
  obtain ⟨e1, h1⟩ := one_semi hk
  obtain ⟨e2, h2⟩ := one_anti hm
  rw [beq_eq_false_iff_ne]
  intro e
  have := ext_toList e
  rw [e1, e2] at this
  rw [this] at h1
  exact h1 h2
theorem flatMap_two {α β γ δ : Type} {f : α → List β} {g : α → List γ} {h : α → List δ} (hh : ∀ x, (f x).length + (g x).length = (h x).length) : ∀ l : List α, (l.flatMap f).length + (l.flatMap g).length = (l.flatMap h).length
  | [] => by simp
  | x :: l => by
    have ih := flatMap_two hh l
    have := hh x
    rw [List.flatMap_cons, List.flatMap_cons, List.flatMap_cons, List.length_append, List.length_append, List.length_append]
    omega
theorem semi_anti_length (a b : List RowV) : (l5J 5 a b).length + (l5J 6 a b).length = a.length := by
  rw [← lonelyL_length a b]
  unfold l5J lonelyL
  refine flatMap_two (fun key => ?_) _
  cases valsK (sortL b) key with
  | nil =>
    have e1 : oneK 5 key (valsK (sortL a) key) [] = [] := by simp only [oneK]; simp [flatMap_none]
    have e2 : oneK 6 key (valsK (sortL a) key) [] = (valsK (sortL a) key).map (leftP key) := by simp only [oneK]; simp [flatMap_one, leftP]
    rw [e1, e2]; simp
  | cons y l =>
    have e1 : oneK 6 key (valsK (sortL a) key) (y :: l) = [] := by simp only [oneK]; simp [flatMap_none]
    have e2 : oneK 5 key (valsK (sortL a) key) (y :: l) = (valsK (sortL a) key).map (leftP key) := by simp only [oneK]; simp [flatMap_one, leftP]
    rw [e1, e2]; simp
theorem one_left {key : ByteArray} (a b : List ByteArray) : (oneK 2 key a b).filter (fun p => !p.hr) = oneK 6 key a b := by
  cases b with
  | nil =>
    simp only [oneK]
    simp [flatMap_one]
  | cons y b =>
    have e2 : oneK 6 key a (y :: b) = [] := by simp only [oneK]; simp [flatMap_none]
    have e1 : oneK 2 key a (y :: b) = a.flatMap fun x => (y :: b).map (bothP key x) := by simp only [oneK]; simp; rfl
    rw [e1, e2, List.filter_flatMap]
    have : ∀ x, ((y :: b).map (bothP key x)).filter (fun p => !p.hr) = [] := fun x => filter_map_none (fun _ => rfl) _
    simp only [this]
    exact flatMap_none a
theorem left_anti (a b : List RowV) : (l5J 2 a b).filter (fun p => !p.hr) = l5J 6 a b := by
  unfold l5J
  rw [List.filter_flatMap]
  exact flatMap_congr' fun key _ => one_left _ _
/-- How many of the first i are left alone. -/
def aloneN (l : List PairV) (i : Nat) : Nat := (l.take i).countP fun p => !p.hr
theorem aloneN_zero (l : List PairV) : aloneN l 0 = 0 := rfl
theorem aloneN_yes {l : List PairV} {i : Nat} {p : PairV} (h : l[i]? = some p) (hr : p.hr = false) : aloneN l (i + 1) = aloneN l i + 1 := by
  unfold aloneN
  rw [List.take_add_one, h, Option.toList_some, List.countP_append]
  simp [hr]
theorem aloneN_no {l : List PairV} {i : Nat} {p : PairV} (h : l[i]? = some p) (hr : p.hr = true) : aloneN l (i + 1) = aloneN l i := by
  unfold aloneN
  rw [List.take_add_one, h, Option.toList_some, List.countP_append]
  simp [hr]
theorem alone_at {l : List PairV} {i : Nat} {p : PairV} (h : l[i]? = some p) (hr : p.hr = false) : (l.filter fun p => !p.hr)[aloneN l i]? = some p := by
  obtain ⟨hi, e⟩ := List.getElem?_eq_some_iff.1 h
  have hs : l = l.take i ++ p :: l.drop (i + 1) := by
    rw [← e, ← List.drop_eq_getElem_cons hi, List.take_append_drop]
  unfold aloneN
  rw [List.countP_eq_length_filter]
  have e2 : (l.filter fun p => !p.hr) = ((l.take i).filter fun p => !p.hr) ++ p :: ((l.drop (i + 1)).filter fun p => !p.hr) := by
    have e3 := congrArg (List.filter fun p : PairV => !p.hr) hs
    rw [List.filter_append, List.filter_cons_of_pos (by simp [hr])] at e3
    exact e3
  rw [e2, List.getElem?_append_right (Nat.le_refl _), Nat.sub_self]
  rfl
theorem aloneN_all {l : List PairV} {i : Nat} (h : l.length ≤ i) : aloneN l i = (l.filter fun p => !p.hr).length := by
  unfold aloneN
  rw [List.take_of_length_le h, List.countP_eq_length_filter]
theorem aloneN_le (l : List PairV) (i : Nat) : aloneN l i ≤ i := by
  unfold aloneN
  have := List.countP_le_length (p := fun p : PairV => !p.hr) (l := l.take i)
  rw [List.length_take] at this
  omega
end Go.Proofs.Ytpnbbedfbglekaa

namespace Go.Proofs.Ytpnbbedfbglekaa
open Go.RowKit
theorem rising_sublist : ∀ {K L : List ByteArray}, Rising K → Rising L → (∀ x ∈ K, x ∈ L) → K.Sublist L
  | [], L, _, _, _ => List.nil_sublist L
  | k :: K, [], _, _, h => by have := h k (List.mem_cons_self); cases this
  | k :: K, y :: L, hK, hL, h => by
    obtain ⟨k1, k2⟩ := List.pairwise_cons.1 hK
    obtain ⟨l1, l2⟩ := List.pairwise_cons.1 hL
    by_cases e : k = y
    · subst e
      refine List.Sublist.cons_cons _ (rising_sublist k2 l2 fun x hx => ?_)
      refine (List.mem_cons.1 (h x (List.mem_cons_of_mem _ hx))).resolve_left fun e => ?_
      subst e
      have := k1 x hx
      rw [bl_irrefl] at this; cases this
    · refine List.Sublist.cons _ (rising_sublist hK l2 fun x hx => ?_)
      refine (List.mem_cons.1 (h x hx)).resolve_left fun e2 => ?_
      subst e2
      have hk : k ∈ L := (List.mem_cons.1 (h k (List.mem_cons_self))).resolve_left e
      have h1 := l1 k hk
      rcases List.mem_cons.1 hx with e3 | hx
      · exact e e3.symm
      · have h2 := k1 x hx
        rw [bl_asymm h1] at h2; cases h2
theorem flatMap_sub {α β : Type} {f g : α → List β} (h : ∀ x, (f x).Sublist (g x)) : ∀ l : List α, (l.flatMap f).Sublist (l.flatMap g)
  | [] => List.Sublist.refl _
  | x :: l => by
    rw [List.flatMap_cons, List.flatMap_cons]
    exact (h x).append (flatMap_sub h l)
theorem sub_flatMap {α β : Type} (f : α → List β) : ∀ {k l : List α}, k.Sublist l → (k.flatMap f).Sublist (l.flatMap f)
  | _, _, .slnil => List.Sublist.refl _
  | _, _, .cons x h => by
    rw [List.flatMap_cons]
    exact (sub_flatMap f h).trans (List.sublist_append_right _ _)
  | _, _, .cons_cons x h => by
    rw [List.flatMap_cons, List.flatMap_cons]
    exact (List.Sublist.refl _).append (sub_flatMap f h)
theorem ins_sub (r : RowV) (l : List RowV) : l.Sublist (ins r l) := by
  unfold ins
  have h : (l.take (insPos r l) ++ l.drop (insPos r l)).Sublist (l.take (insPos r l) ++ [r] ++ l.drop (insPos r l)) :=
    (List.sublist_append_left _ _).append (List.Sublist.refl _)
  rwa [List.take_append_drop] at h
theorem vals_sub (b : List RowV) (r : RowV) (key : ByteArray) : (valsK (sortL b) key).Sublist (valsK (sortL (b ++ [r])) key) := by
  rw [sortL_snoc]
  unfold valsK
  exact ((ins_sub r (sortL b)).filter _).map _
theorem keys_sub (a b : List RowV) (r : RowV) : (keysOf (sortL (a ++ b))).Sublist (keysOf (sortL (a ++ (b ++ [r])))) := by
  refine rising_sublist (keys_all a b).1 (keys_all a (b ++ [r])).1 fun x hx => ?_
  rw [(keys_all a (b ++ [r])).2]
  rcases ((keys_all a b).2 x).1 hx with h | ⟨q, hq, e⟩
  · exact .inl h
  · exact .inr ⟨q, List.mem_append_left _ hq, e⟩
theorem join_sub {n : Int} (hn : ∀ key (v u u' : List ByteArray), u.Sublist u' → (oneK n key v u).Sublist (oneK n key v u')) (a b : List RowV) (r : RowV) : (l5J n a b).Sublist (l5J n a (b ++ [r])) := by
  unfold l5J
  exact (sub_flatMap _ (keys_sub a b r)).trans (flatMap_sub (fun key => hn key _ _ _ (vals_sub b r key)) _)
theorem one_inner (key : ByteArray) (v u : List ByteArray) : oneK 1 key v u = v.flatMap fun x => u.map (bothP key x) := by
  simp only [oneK]; simp; rfl
theorem one_semi_of (key : ByteArray) (v u : List ByteArray) : oneK 5 key v u = if u.length = 0 then [] else v.map (leftP key) := by
  cases u with
  | nil => simp only [oneK]; simp [flatMap_none]
  | cons y u => simp only [oneK]; simp [flatMap_one, leftP]
theorem inner_sub (a b : List RowV) (r : RowV) : (l5J 1 a b).Sublist (l5J 1 a (b ++ [r])) := by
  refine join_sub (fun key v u u' h => ?_) a b r
  rw [one_inner, one_inner]
  exact flatMap_sub (fun x => h.map _) v
theorem anti_less (a b : List RowV) (r : RowV) : (l5J 6 a (b ++ [r])).length ≤ (l5J 6 a b).length := by
  have h : (l5J 5 a b).Sublist (l5J 5 a (b ++ [r])) := by
    refine join_sub (fun key v u u' h => ?_) a b r
    rw [one_semi_of, one_semi_of]
    have hl := h.length_le
    split
    · exact List.nil_sublist _
    · rw [if_neg (by omega)]
      exact List.Sublist.refl _
  have h1 := h.length_le
  have h2 := semi_anti_length a b
  have h3 := semi_anti_length a (b ++ [r])
  omega
/-- One step of finding one list in another. -/
theorem sub_step {x y : PairV} {l f : List PairV} (h : (y :: f).Sublist (x :: l)) : (x = y → f.Sublist l) ∧ (x ≠ y → (y :: f).Sublist l) := by
  constructor
  · rintro rfl
    exact List.cons_sublist_cons.1 h
  · intro hne
    cases h with
    | cons _ h => exact h
    | cons_cons _ h => exact absurd rfl hne
end Go.Proofs.Ytpnbbedfbglekaa

namespace Go.Proofs.Ytpnbbedfbglekaa
open Go.RowKit
theorem filter_sorted5 (l : List RowV) (p : RowV → Bool) : (sortL l).filter p = sortL (l.filter p) :=
  sortL_unique (List.Pairwise.sublist List.filter_sublist (sortL_asc l)) ((sortL_perm' l).filter p)
theorem rising_eq {K L : List ByteArray} (hK : Rising K) (hL : Rising L) (h : ∀ x, x ∈ K ↔ x ∈ L) : K = L :=
  (rising_sublist hK hL fun x hx => (h x).1 hx).eq_of_length_le (rising_sublist hL hK fun x hx => (h x).2 hx).length_le
theorem flatMap_filter_none {α β : Type} {f : α → List β} {q : α → Bool} (h : ∀ x, q x = false → f x = []) : ∀ l : List α, l.flatMap f = (l.filter q).flatMap f
  | [] => rfl
  | x :: l => by
    have ih := flatMap_filter_none h l
    cases hq : q x
    · rw [List.flatMap_cons, h x hq, List.filter_cons_of_neg (by rw [hq]; decide), ih]; rfl
    · rw [List.flatMap_cons, List.filter_cons_of_pos hq, List.flatMap_cons, ih]
theorem valsK_mem {l : List RowV} {key : ByteArray} : valsK l key ≠ [] ↔ ∃ r ∈ l, r.key = key := by
  unfold valsK
  rw [Ne, List.map_eq_nil_iff, List.filter_eq_nil_iff]
  constructor
  · intro h
    have h' : ∃ r, r ∈ l ∧ isKey key r = true := by
      apply Classical.byContradiction
      intro h2
      exact h fun r hr hk => h2 ⟨r, hr, hk⟩
    obtain ⟨r, hr, hk⟩ := h'
    exact ⟨r, hr, isKey_iff.1 hk⟩
  · rintro ⟨r, hr, e⟩ h
    exact h r hr (isKey_iff.2 e)
/-- A join that tells nothing of a key that the right side lacks goes by the keys of the right side. -/
theorem by_right {n : Int} (hn : ∀ key v, oneK n key v [] = []) (a b : List RowV) : l5J n a b = (keysOf (sortL b)).flatMap fun key => oneK n key (valsK (sortL a) key) (valsK (sortL b) key) := by
  unfold l5J
  rw [flatMap_filter_none (q := fun key => !(valsK (sortL b) key).isEmpty) (fun key h => by
    have : valsK (sortL b) key = [] := by simpa using h
    rw [this]; exact hn _ _)]
  congr 1
  refine rising_eq (List.Pairwise.filter _ (keys_all a b).1) (keysOf_rising (asc_keys (sortL_asc b))) fun x => ?_
  rw [List.mem_filter, (keys_all a b).2, keysOf_mem]
  have e : (!(valsK (sortL b) x).isEmpty) = true ↔ ∃ r ∈ sortL b, r.key = x := by
    rw [← valsK_mem]; simp
  rw [e]
  constructor
  · exact fun h => h.2
  · rintro ⟨r, hr, hk⟩
    exact ⟨.inr ⟨r, (sortL_perm' b).mem_iff.1 hr, hk⟩, r, hr, hk⟩
theorem join_passed {n : Int} (hn : ∀ key v, oneK n key v [] = []) {a b : List RowV} {p : RowV → Bool} (hp : ∀ r ∈ a, (∃ q ∈ b, q.key = r.key) → p r = true) : l5J n (a.filter p) b = l5J n a b := by
  rw [by_right hn, by_right hn]
  refine flatMap_congr' fun key hkey => ?_
  obtain ⟨q, hq, e⟩ := (keysOf_mem _ _).1 hkey
  have hv : valsK (sortL (a.filter p)) key = valsK (sortL a) key := by
    rw [← filter_sorted5]
    unfold valsK
    rw [List.filter_filter]
    congr 1
    refine List.filter_congr fun r hr => ?_
    cases hk : isKey key r
    · rfl
    · rw [hp r ((sortL_perm' a).mem_iff.1 hr) ⟨q, (sortL_perm' b).mem_iff.1 hq, by rw [e, isKey_iff.1 hk]⟩]; rfl
  rw [hv]
theorem inner_none (key : ByteArray) (v : List ByteArray) : oneK 1 key v [] = [] := by
  rw [one_inner]
  exact flatMap_none v
theorem semi_none (key : ByteArray) (v : List ByteArray) : oneK 5 key v [] = [] := by
  rw [one_semi_of]; rfl
end Go.Proofs.Ytpnbbedfbglekaa

namespace Go.Proofs.Ytpnbbedfbglekaa
open Go.RowKit
theorem one_key {n : Int} {key : ByteArray} {a b : List ByteArray} {p : PairV} (h : p ∈ oneK n key a b) : p.key = key := by
  unfold oneK at h
  rcases List.mem_append.1 h with h | h
  · obtain ⟨x, _, h⟩ := List.mem_flatMap.1 h
    rcases List.mem_append.1 h with h | h
    · split at h
      · rw [List.mem_singleton] at h; subst h; rfl
      · split at h
        · rw [List.mem_singleton] at h; subst h; rfl
        · cases h
    · split at h
      · obtain ⟨y, _, rfl⟩ := List.mem_map.1 h; rfl
      · cases h
  · split at h
    · obtain ⟨y, _, rfl⟩ := List.mem_map.1 h; rfl
    · cases h
theorem filter_by_key {n : Int} {key : ByteArray} {a b : List ByteArray} (q : ByteArray → Bool) : (oneK n key a b).filter (fun p => q p.key) = if q key = true then oneK n key a b else [] := by
  split
  · rename_i h
    rw [List.filter_eq_self]
    intro p hp
    rw [one_key hp, h]
  · rename_i h
    rw [List.filter_eq_nil_iff]
    intro p hp
    rw [one_key hp]
    exact h
theorem valsK_part {q : ByteArray → Bool} {l : List RowV} {key : ByteArray} (h : q key = true) : valsK (sortL (l.filter fun r => q r.key)) key = valsK (sortL l) key := by
  rw [← filter_sorted5]
  unfold valsK
  rw [List.filter_filter]
  congr 1
  refine List.filter_congr fun r _ => ?_
  cases hk : isKey key r
  · rfl
  · rw [isKey_iff.1 hk, h]; rfl
theorem join_part (n : Int) (q : ByteArray → Bool) (a b : List RowV) : (l5J n a b).filter (fun p => q p.key) = l5J n (a.filter fun r => q r.key) (b.filter fun r => q r.key) := by
  unfold l5J
  rw [List.filter_flatMap]
  have e1 : ((keysOf (sortL (a ++ b))).flatMap fun key => (oneK n key (valsK (sortL a) key) (valsK (sortL b) key)).filter fun p => q p.key) = ((keysOf (sortL (a ++ b))).filter q).flatMap fun key => (oneK n key (valsK (sortL a) key) (valsK (sortL b) key)).filter fun p => q p.key :=
    flatMap_filter_none (fun key h => by rw [filter_by_key, if_neg (by rw [h]; decide)]) _
  rw [e1]
  have e2 : (keysOf (sortL (a ++ b))).filter q = keysOf (sortL ((a.filter fun r => q r.key) ++ (b.filter fun r => q r.key))) := by
    refine rising_eq (List.Pairwise.filter _ (keys_all a b).1) (keys_all _ _).1 fun x => ?_
    rw [List.mem_filter, (keys_all a b).2, (keys_all _ _).2]
    constructor
    · rintro ⟨⟨r, hr, rfl⟩ | ⟨r, hr, rfl⟩, h⟩
      · exact .inl ⟨r, List.mem_filter.2 ⟨hr, h⟩, rfl⟩
      · exact .inr ⟨r, List.mem_filter.2 ⟨hr, h⟩, rfl⟩
    · rintro (⟨r, hr, rfl⟩ | ⟨r, hr, rfl⟩)
      · exact ⟨.inl ⟨r, (List.mem_filter.1 hr).1, rfl⟩, (List.mem_filter.1 hr).2⟩
      · exact ⟨.inr ⟨r, (List.mem_filter.1 hr).1, rfl⟩, (List.mem_filter.1 hr).2⟩
  rw [← e2]
  refine flatMap_congr' fun key hkey => ?_
  have h := (List.mem_filter.1 hkey).2
  rw [filter_by_key, if_pos h, valsK_part h, valsK_part h]
theorem join_row {n : Int} {a b : List RowV} {p : PairV} (h : p ∈ l5J n a b) : (∃ r ∈ a, r.key = p.key) ∨ ∃ r ∈ b, r.key = p.key := by
  unfold l5J at h
  obtain ⟨key, hk, hp⟩ := List.mem_flatMap.1 h
  rw [one_key hp]
  exact ((keys_all a b).2 key).1 hk
/-- How many of the first j pairs are in the part. -/
def inTo (q : PairV → Bool) (l : List PairV) (j : Nat) : Nat := (l.take j).countP q
theorem inTo_zero (q : PairV → Bool) (l : List PairV) : inTo q l 0 = 0 := rfl
theorem inTo_yes {q : PairV → Bool} {l : List PairV} {j : Nat} {p : PairV} (h : l[j]? = some p) (hq : q p = true) : inTo q l (j + 1) = inTo q l j + 1 := by
  unfold inTo
  rw [List.take_add_one, h, Option.toList_some, List.countP_append]
  simp [hq]
theorem inTo_no {q : PairV → Bool} {l : List PairV} {j : Nat} {p : PairV} (h : l[j]? = some p) (hq : q p = false) : inTo q l (j + 1) = inTo q l j := by
  unfold inTo
  rw [List.take_add_one, h, Option.toList_some, List.countP_append]
  simp [hq]
theorem inTo_le (q : PairV → Bool) (l : List PairV) (j : Nat) : inTo q l j ≤ j := by
  unfold inTo
  have := List.countP_le_length (p := q) (l := l.take j)
  rw [List.length_take] at this
  omega
theorem inTo_at {q : PairV → Bool} {l : List PairV} {j : Nat} {p : PairV} (h : l[j]? = some p) (hq : q p = true) : (l.filter q)[inTo q l j]? = some p := by
  obtain ⟨hi, e⟩ := List.getElem?_eq_some_iff.1 h
  have hs : l = l.take j ++ p :: l.drop (j + 1) := by
    rw [← e, ← List.drop_eq_getElem_cons hi, List.take_append_drop]
  unfold inTo
  rw [List.countP_eq_length_filter]
  have e2 : l.filter q = ((l.take j).filter q) ++ p :: ((l.drop (j + 1)).filter q) := by
    have e3 := congrArg (List.filter q) hs
    rw [List.filter_append, List.filter_cons_of_pos hq] at e3
    exact e3
  rw [e2, List.getElem?_append_right (Nat.le_refl _), Nat.sub_self]
  rfl
/-- The pairs of the first i parts together. -/
def sumParts (f : PairV → Nat) (l : List PairV) : Nat → Nat
  | 0 => 0
  | i + 1 => sumParts f l i + (l.filter fun p => f p == i).length
theorem sumParts_lt (f : PairV → Nat) (l : List PairV) : ∀ i, sumParts f l i = (l.filter fun p => decide (f p < i)).length
  | 0 => by rw [List.filter_eq_nil_iff.2 (by simp)]; rfl
  | i + 1 => by
    rw [sumParts, sumParts_lt f l i]
    induction l with
    | nil => rfl
    | cons p l ih =>
      by_cases h1 : f p < i
      · have h2 : f p < i + 1 := by omega
        have h3 : (f p == i) = false := by rw [beq_eq_false_iff_ne]; omega
        simp only [List.filter_cons, h1, h2, h3, decide_true, if_true, List.length_cons]
        simp only [Bool.false_eq_true, if_false]
        omega
      · by_cases h2 : f p = i
        · have h3 : (f p == i) = true := by rw [beq_iff_eq]; exact h2
          have h4 : f p < i + 1 := by omega
          simp only [List.filter_cons, h1, h3, h4, decide_true, decide_false, if_true, List.length_cons]
          simp only [Bool.false_eq_true, if_false]
          omega
        · have h3 : (f p == i) = false := by rw [beq_eq_false_iff_ne]; exact h2
          have h4 : ¬ f p < i + 1 := by omega
          simp only [List.filter_cons, h1, h3, h4, decide_false]
          simp only [Bool.false_eq_true, if_false]
          exact ih
theorem sumParts_all {f : PairV → Nat} {l : List PairV} {i : Nat} (h : ∀ p ∈ l, f p < i) : sumParts f l i = l.length := by
  rw [sumParts_lt, List.filter_eq_self.2 fun p hp => decide_eq_true (h p hp)]
end Go.Proofs.Ytpnbbedfbglekaa

namespace Go.Proofs.Ytpnbbedfbglekaa
open Go.RowKit
def PairV.alike (x y : PairV) : Bool := x.key.toList == y.key.toList && (x.l.toList == y.l.toList && (x.r.toList == y.r.toList && (x.hl == y.hl && x.hr == y.hr)))
theorem PairV.alike_iff {x y : PairV} : x.alike y = true ↔ x = y := by
  obtain ⟨a, b, c, d, e⟩ := x
  obtain ⟨a', b', c', d', e'⟩ := y
  unfold PairV.alike
  simp only [Bool.and_eq_true, beq_iff_eq, PairV.mk.injEq]
  constructor
  · rintro ⟨h1, h2, h3, h4, h5⟩
    exact ⟨ext_toList h1, ext_toList h2, ext_toList h3, h4, h5⟩
  · rintro ⟨rfl, rfl, rfl, rfl, rfl⟩
    exact ⟨rfl, rfl, rfl, rfl, rfl⟩
theorem pair_eql2 (x y : PairV) (w : World) : (binOp .eql 54 (.agg #[.string x.key, .string x.l, .string x.r, .bool x.hl, .bool x.hr]) (.agg #[.string y.key, .string y.l, .string y.r, .bool y.hl, .bool y.hr])).run Try.prog w = .ok (.bool (x.alike y)) w := by
  have u3 := Try.underlying9
  have u4 := Try.underlying4
  have hS : Try.prog.underlying 54 = some (.struct (Try.prog.fieldsOf 54)) := by kernel_rfl
  have hp : Try.prog.stoodInHeld 54 = false := by kernel_rfl
  rw [run_eql_struct, show (10000 : Nat) = 9999 + 1 from rfl, run_equalIn_agg w 9999 54 _ _ hS hp]
  simp only [Program.fieldsOf, Try.underlying54]
  go_simp
  unfold PairV.alike
  by_cases h1 : x.key.toList = y.key.toList <;> by_cases h2 : x.l.toList = y.l.toList <;> by_cases h3 : x.r.toList = y.r.toList <;> by_cases h4 : x.hl = y.hl <;> by_cases h5 : x.hr = y.hr <;> simp [h1, h2, h3, h4, h5]
set_option maxRecDepth 100000 in
theorem pair_neq (x : PairV) (w : World) : (binOp .neq 54 (.agg #[.string x.key, .string x.l, .string x.r, .bool x.hl, .bool x.hr]) (.agg #[.string x.key, .string x.l, .string x.r, .bool x.hl, .bool x.hr])).run Try.prog w = .ok (.bool false) w := by
  rw [run_neq_struct]
  have h := pair_eql2 x x w
  rw [run_eql_struct] at h
  generalize (Op.equalIn 10000 54 (.agg #[.string x.key, .string x.l, .string x.r, .bool x.hl, .bool x.hr]) (.agg #[.string x.key, .string x.l, .string x.r, .bool x.hl, .bool x.hr])).run Try.prog w = r at *
  rw [PairV.alike_iff.2 rfl] at h
  cases r with
  | ok b w' =>
    simp only [Result.andThen] at h ⊢
    injection h with h1 h2
    injection h1 with h3
    subst h3 h2
    rfl
  | _ => simp [Result.andThen] at h
end Go.Proofs.Ytpnbbedfbglekaa

namespace Go.Proofs.Ytpnbbedfbglekaa
open Go.RowKit
/-- Worlds that differ in the blocks from lo up to hi and in new ones alone. -/
structure Since (lo hi : Nat) (w w' : World) : Prop where
  os : w'.os = w.os
  tape : w'.tape = w.tape
  output : w'.output = w.output
  size : w.heap.size ≤ w'.heap.size
  block : ∀ k, k < w.heap.size → (k < lo ∨ hi ≤ k) → w'.heap[k]? = w.heap[k]?
theorem Since.refl (lo hi : Nat) (w : World) : Since lo hi w w := ⟨rfl, rfl, rfl, Nat.le_refl _, fun _ _ _ => rfl⟩
theorem Since.trans {lo hi : Nat} {a b c : World} (h : Since lo hi a b) (k : Since lo hi b c) : Since lo hi a c :=
  ⟨k.os.trans h.os, k.tape.trans h.tape, k.output.trans h.output, Nat.le_trans h.size k.size, fun i hi' hne => (k.block i (Nat.lt_of_lt_of_le hi' h.size) hne).trans (h.block i hi' hne)⟩
theorem Since.of_gb {lo hi : Nat} {w w' : World} {row : Option Nat} (h : w.grownBy w' row) (hr : ∀ g, row = some g → lo ≤ g ∧ g < hi) : Since lo hi w w' :=
  ⟨h.os, h.tape, h.output, h.size, fun k hk hne => h.block k hk (fun e => by have := hr k e.symm; omega)⟩
theorem Since.below {lo hi B : Nat} {w w' : World} (h : Since lo hi w w') (hB : B ≤ lo) (hBw : B ≤ w.heap.size) : Below B w w' :=
  ⟨h.os, h.tape, h.output, h.size, fun k hk => h.block k (by omega) (.inl (by omega))⟩
theorem Since.own {lo hi base e s n : Nat} {w w' : World} {v : Value} {xs : List Value} (h : w.ownsRow base e s v n xs) (hs : Since lo hi w w') (hb : hi ≤ base) : w'.ownsRow base e s v n xs := by
  refine ⟨h.1, ?_⟩
  rcases h.2 with h0 | ⟨g, c, cur, hv, hg, hh, h1, h2, h3, h4⟩
  · exact .inl h0
  · have hlt : g < w.heap.size := by
      rcases Nat.lt_or_ge g w.heap.size with hlt | hge
      · exact hlt
      · rw [Array.getElem?_eq_none hge] at hh; cases hh
    exact .inr ⟨g, c, cur, hv, hg, (hs.block g hlt (.inr (by omega))).trans hh, h1, h2, h3, h4⟩
end Go.Proofs.Ytpnbbedfbglekaa

namespace Go.Proofs.Ytpnbbedfbglekaa
open Go.RowKit

/-- Slices of rows, each in memory of its own. -/
structure Fam (w : World) (lo : Nat) (vs : List Value) (ps : List (List RowV)) : Prop where
  len : vs.length = ps.length
  own : ∀ (i : Nat) (v : Value) (rs : List RowV), vs[i]? = some v → ps[i]? = some rs → w.ownsRow lo 52 3 v rs.length (flat rs)
  sep : ∀ (i j : Nat) (v u : Value) (g : Nat), i ≠ j → vs[i]? = some v → vs[j]? = some u → v.ownBlock = some g → u.ownBlock ≠ some g
theorem Fam.nil (w : World) (lo : Nat) : Fam w lo [] [] := ⟨rfl, fun i v rs h => by simp at h, fun i j v u g _ h => by simp at h⟩
theorem Fam.at_ {w : World} {lo : Nat} {vs : List Value} {ps : List (List RowV)} (h : Fam w lo vs ps) {i : Nat} (hi : i < ps.length) : ∃ a c rs, vs[i]? = some (.slice a rs.length c) ∧ ps[i]? = some rs ∧ w.ownsRow lo 52 3 (.slice a rs.length c) rs.length (flat rs) := by
  have h1 : vs[i]? = some (vs[i]'(by rw [h.len]; exact hi)) := List.getElem?_eq_getElem _
  have h2 : ps[i]? = some ps[i] := List.getElem?_eq_getElem hi
  have h3 := h.own i _ _ h1 h2
  obtain ⟨a, c, e⟩ := own_slice' h3
  rw [e] at h1 h3
  exact ⟨a, c, _, h1, h2, h3⟩
theorem Fam.below {w w' : World} {lo : Nat} {vs : List Value} {ps : List (List RowV)} (h : Fam w lo vs ps) (hb : Below w.heap.size w w') : Fam w' lo vs ps := ⟨h.len, fun i v rs h1 h2 => own_below (h.own i v rs h1 h2) hb, h.sep⟩
theorem Fam.base {w : World} {lo lo' : Nat} {vs : List Value} {ps : List (List RowV)} (h : Fam w lo vs ps) (hl : lo' ≤ lo) : Fam w lo' vs ps := ⟨h.len, fun i v rs h1 h2 => own_base' (h.own i v rs h1 h2) hl, h.sep⟩
/-- The block of a value lies at or behind a number, and one changes only another block. -/
theorem own_other {w w' : World} {base e s n : Nat} {v : Value} {xs : List Value} {row : Option Nat} (h : w.ownsRow base e s v n xs) (hg : w.grownBy w' row) (hne : ∀ g, v.ownBlock = some g → row ≠ some g) : w'.ownsRow base e s v n xs :=
  h.kept hg (by
    cases hv : v.ownBlock with
    | none => exact .inl rfl
    | some g => exact .inr (fun he => hne g hv he.symm))
/-- One of the slices is written anew, in its block or in a new one. -/
theorem Fam.set {w w' : World} {lo i : Nat} {vs : List Value} {ps : List (List RowV)} {v v' : Value} {rs' : List RowV} (h : Fam w lo vs ps) (hv : vs[i]? = some v) (hg : w.grownBy w' v.ownBlock) (hO : w'.ownsRow lo 52 3 v' rs'.length (flat rs')) (hat : v'.ownBlock = v.ownBlock ∨ ∀ g, v'.ownBlock = some g → w.heap.size ≤ g) : Fam w' lo (vs.set i v') (ps.set i rs') := by
  have hi := (List.getElem?_eq_some_iff.1 hv).1
  have fresh : ∀ (j : Nat) (u : Value) (g : Nat), j ≠ i → vs[j]? = some u → u.ownBlock = some g → v'.ownBlock ≠ some g := by
    intro j u g hj hu hug hvg
    rcases hat with e | e
    · exact h.sep j i u v g hj hu hv hug (e ▸ hvg)
    · have hj' := (List.getElem?_eq_some_iff.1 hu).1
      obtain ⟨a, c, rs, h1, _, h3⟩ := h.at_ (i := j) (by rw [← h.len]; exact hj')
      rw [h1] at hu; injection hu with hu
      rw [← hu] at hug
      have := (own_ge h3 g hug).2
      have := e g hvg
      omega
  refine ⟨by simp [h.len], ?_, ?_⟩
  · intro j u rs hu hr
    by_cases e : i = j
    · subst e
      rw [List.getElem?_set_self hi] at hu
      rw [List.getElem?_set_self (by rw [← h.len]; exact hi)] at hr
      injection hu with hu; injection hr with hr
      subst hu hr
      exact hO
    · rw [List.getElem?_set_ne e] at hu hr
      exact own_other (h.own j u rs hu hr) hg (fun g hg' he => h.sep j i u v g (Ne.symm e) hu hv hg' he)
  · intro j k u z g hjk hu hz hg'
    by_cases e : i = j
    · subst e
      rw [List.getElem?_set_self hi] at hu
      injection hu with hu
      subst hu
      rw [List.getElem?_set_ne hjk] at hz
      intro hzg
      exact fresh k z g (Ne.symm hjk) hz hzg hg'
    · rw [List.getElem?_set_ne e] at hu
      by_cases e2 : i = k
      · subst e2
        rw [List.getElem?_set_self hi] at hz
        injection hz with hz
        subst hz
        exact fresh j u g (Ne.symm e) hu hg'
      · rw [List.getElem?_set_ne e2] at hz
        exact h.sep j k u z g hjk hu hz hg'
/-- One more slice, in a new block. -/
theorem Fam.snoc {w w' : World} {lo : Nat} {vs : List Value} {ps : List (List RowV)} {v : Value} {rs : List RowV} (h : Fam w lo vs ps) (hb : Below w.heap.size w w') (hO : w'.ownsRow lo 52 3 v rs.length (flat rs)) (hat : ∀ g, v.ownBlock = some g → w.heap.size ≤ g) : Fam w' lo (vs ++ [v]) (ps ++ [rs]) := by
  have old : ∀ (j : Nat) (u : Value) (g : Nat), vs[j]? = some u → u.ownBlock = some g → g < w.heap.size := by
    intro j u g hu hug
    have hj' := (List.getElem?_eq_some_iff.1 hu).1
    obtain ⟨a, c, rs, h1, _, h3⟩ := h.at_ (i := j) (by rw [← h.len]; exact hj')
    rw [h1] at hu; injection hu with hu
    rw [← hu] at hug
    exact (own_ge h3 g hug).2
  have idx : ∀ {β : Type} (l : List β) (x y : β) (j : Nat), (l ++ [x])[j]? = some y → l[j]? = some y ∨ j = l.length ∧ y = x := by
    intro β l x y j hy
    rcases Nat.lt_or_ge j l.length with hj | hj
    · rw [List.getElem?_append_left hj] at hy; exact .inl hy
    · rw [List.getElem?_append_right hj] at hy
      have hj2 := (List.getElem?_eq_some_iff.1 hy).1
      have : j - l.length = 0 := by simpa using hj2
      rw [this] at hy
      exact .inr ⟨by omega, by simpa using hy.symm⟩
  refine ⟨by simp [h.len], ?_, ?_⟩
  · intro j u r hu hr
    rcases idx _ _ _ _ hu with hu | ⟨hj, rfl⟩ <;> rcases idx _ _ _ _ hr with hr | ⟨hj', rfl⟩
    · exact own_below (h.own j u r hu hr) hb
    · have := (List.getElem?_eq_some_iff.1 hu).1
      rw [h.len] at this; omega
    · have := (List.getElem?_eq_some_iff.1 hr).1
      rw [← h.len] at this; omega
    · exact hO
  · intro j k u z g hjk hu hz hg'
    rcases idx _ _ _ _ hu with hu1 | ⟨hj, hju⟩ <;> rcases idx _ _ _ _ hz with hz1 | ⟨hk, hkz⟩
    · exact h.sep j k u z g hjk hu1 hz1 hg'
    · intro e
      have := old j u g hu1 hg'
      have := hat g (hkz ▸ e)
      omega
    · intro e
      have := old k z g hz1 e
      have := hat g (hju ▸ hg')
      omega
    · omega
/-- A list of parts that owns its memory. -/
structure POwn (w : World) (lo : Nat) (a : Option Addr) (n c : Nat) (vs : List Value) (ps : List (List RowV)) : Prop where
  outer : w.ownsRow lo 59 1 (.slice a n c) n vs
  fam : Fam w lo vs ps
  out : ∀ v ∈ vs, ∀ g, v.ownBlock = some g → (Value.slice a n c).ownBlock ≠ some g
/-- A list of parts that can be read below block B. -/
def PRd (w : World) (B : Nat) (a : Option Addr) (n : Nat) (ps : List (List RowV)) : Prop :=
  ∃ vs, Rd w B 1 a n vs ∧ vs.length = ps.length ∧ ∀ (i : Nat) (v : Value) (rs : List RowV), vs[i]? = some v → ps[i]? = some rs → ∃ a' c', v = .slice a' rs.length c' ∧ Rd w B 3 a' rs.length (flat rs)
theorem PRd.len {w : World} {B n : Nat} {a : Option Addr} {ps : List (List RowV)} (h : PRd w B a n ps) : ps.length = n := by
  obtain ⟨vs, h1, h2, _⟩ := h
  have := h1.1
  omega
theorem POwn.len {w : World} {lo n c : Nat} {a : Option Addr} {vs : List Value} {ps : List (List RowV)} (h : POwn w lo a n c vs ps) : ps.length = n := by
  have := h.outer.1
  have := h.fam.len
  omega
theorem PRd.keep {w w' : World} {B n : Nat} {a : Option Addr} {ps : List (List RowV)} (h : PRd w B a n ps) (hk : ∀ b o, b < B → w'.cell? ⟨b, o, none⟩ = w.cell? ⟨b, o, none⟩) : PRd w' B a n ps := by
  obtain ⟨vs, h1, h2, h3⟩ := h
  refine ⟨vs, h1.keep hk, h2, fun i v rs hv hr => ?_⟩
  obtain ⟨a', c', e, h4⟩ := h3 i v rs hv hr
  exact ⟨a', c', e, h4.keep hk⟩
theorem PRd.below {w w' : World} {B B' n : Nat} {a : Option Addr} {ps : List (List RowV)} (h : PRd w B a n ps) (hb : Below B' w w') (hB : B ≤ B') : PRd w' B a n ps := h.keep fun _ _ hp => hb.cell (Nat.lt_of_lt_of_le hp hB)
theorem PRd.more {w : World} {B B' n : Nat} {a : Option Addr} {ps : List (List RowV)} (h : PRd w B a n ps) (hB : B ≤ B') : PRd w B' a n ps := by
  obtain ⟨vs, h1, h2, h3⟩ := h
  refine ⟨vs, h1.more hB, h2, fun i v rs hv hr => ?_⟩
  obtain ⟨a', c', e, h4⟩ := h3 i v rs hv hr
  exact ⟨a', c', e, h4.more hB⟩
theorem PRd.at_ {w : World} {B n i : Nat} {a : Option Addr} {ps : List (List RowV)} (h : PRd w B a n ps) (hi : i < n) : ∃ b off a' c' rs, a = some ⟨b, off, none⟩ ∧ b < B ∧ ps[i]? = some rs ∧ w.cell? ⟨b, off + i, none⟩ = some (.slice a' rs.length c') ∧ Rd w B 3 a' rs.length (flat rs) := by
  have hl := h.len
  obtain ⟨vs, h1, h2, h3⟩ := h
  have hr : ps[i]? = some ps[i] := List.getElem?_eq_getElem (by omega)
  have hv : vs[i]? = some (vs[i]'(by omega)) := List.getElem?_eq_getElem _
  obtain ⟨a', c', e, h4⟩ := h3 i _ _ hv hr
  obtain ⟨b, off, ea, hb, hc⟩ := h1.2 (by omega)
  have := hc i _ hv
  rw [e] at this
  exact ⟨b, off, a', c', _, ea, hb, hr, this, h4⟩
theorem POwn.rd {w : World} {lo n c : Nat} {a : Option Addr} {vs : List Value} {ps : List (List RowV)} (h : POwn w lo a n c vs ps) : PRd w w.heap.size a n ps := by
  refine ⟨vs, Rd.of_own h.outer, h.fam.len, fun i v rs hv hr => ?_⟩
  have := h.fam.own i v rs hv hr
  obtain ⟨a', c', e⟩ := own_slice' this
  subst e
  exact ⟨a', c', rfl, Rd.of_own this⟩
theorem POwn.below {w w' : World} {lo n c : Nat} {a : Option Addr} {vs : List Value} {ps : List (List RowV)} (h : POwn w lo a n c vs ps) (hb : Below w.heap.size w w') : POwn w' lo a n c vs ps := ⟨own_below h.outer hb, h.fam.below hb, h.out⟩
/-- How many rows the parts have. -/
def rowsIn : List (List RowV) → Nat
  | [] => 0
  | r :: ps => r.length + rowsIn ps
theorem rowsIn_take_succ {ps : List (List RowV)} {i : Nat} {rs : List RowV} (h : ps[i]? = some rs) : rowsIn (ps.take (i + 1)) = rowsIn (ps.take i) + rs.length := by
  induction ps generalizing i with
  | nil => simp at h
  | cons r ps ih =>
    cases i with
    | zero => simp at h; subst h; simp [rowsIn]
    | succ i =>
      have := ih (i := i) (by simpa using h)
      simp only [List.take_succ_cons, rowsIn]
      omega
theorem rowsIn_take_le (ps : List (List RowV)) (i : Nat) : rowsIn (ps.take i) ≤ rowsIn ps := by
  induction ps generalizing i with
  | nil => simp [rowsIn]
  | cons r ps ih =>
    cases i with
    | zero => simp [rowsIn]
    | succ i =>
      have := ih i
      simp only [List.take_succ_cons, rowsIn]
      omega
theorem rowsIn_at {ps : List (List RowV)} {i : Nat} {rs : List RowV} (h : ps[i]? = some rs) : rs.length ≤ rowsIn ps := by
  have h1 := rowsIn_take_succ h
  have h2 := rowsIn_take_le ps (i + 1)
  omega
theorem Rd.drew' {w : World} {B size n : Nat} {a : Option Addr} {xs : List Value} (h : Rd w B size a n xs) : Rd w.drew B size a n xs := h.keep fun _ _ _ => rfl
theorem POwn.since {lo hi base n c : Nat} {w w' : World} {a : Option Addr} {vs : List Value} {ps : List (List RowV)} (h : POwn w base a n c vs ps) (hs : Since lo hi w w') (hb : hi ≤ base) : POwn w' base a n c vs ps :=
  ⟨Since.own h.outer hs hb, ⟨h.fam.len, fun i v rs h1 h2 => Since.own (h.fam.own i v rs h1 h2) hs hb, h.fam.sep⟩, h.out⟩
/-- The blocks of parts lie below hi. -/
def Bnd (hi : Nat) (vs : List Value) : Prop := ∀ v ∈ vs, ∀ g, v.ownBlock = some g → g < hi
theorem POwn.bnd {w : World} {lo n c : Nat} {a : Option Addr} {vs : List Value} {ps : List (List RowV)} (h : POwn w lo a n c vs ps) : Bnd w.heap.size vs := fun v hv g hg => by
  obtain ⟨i, hi, e⟩ := List.mem_iff_getElem.1 hv
  have h1 : vs[i]? = some v := by rw [List.getElem?_eq_getElem hi, e]
  have h2 : ps[i]? = some (ps[i]'(by rw [← h.fam.len]; exact hi)) := List.getElem?_eq_getElem _
  exact (own_ge (h.fam.own i v _ h1 h2) g hg).2
end Go.Proofs.Ytpnbbedfbglekaa

namespace Go.Proofs.Ytpnbbedfbglekaa
open Go.RowKit

def fstep (h : Int) (c : UInt8) : Int := bits .xor .u32 h ((c.toNat : Int) % 4294967296) * 16777619 % 4294967296
def fnv (l : List UInt8) : Int := l.foldl fstep 2166136261
theorem fnv_nil : fnv [] = 2166136261 := rfl
theorem fnv_snoc (l : List UInt8) (c : UInt8) : fnv (l ++ [c]) = fstep (fnv l) c := by simp [fnv]
theorem fnv_bd (l : List UInt8) : 0 ≤ fnv l ∧ fnv l < 4294967296 := by
  rcases List.eq_nil_or_concat l with rfl | ⟨l', c, rfl⟩
  · rw [fnv_nil]; omega
  · rw [List.concat_eq_append, fnv_snoc]; unfold fstep; omega
theorem take_snoc (s : ByteArray) (k : Nat) (h : k < s.size) : s.data.toList.take (k + 1) = s.data.toList.take k ++ [s[k]] := by
  rw [List.take_succ_eq_append_getElem (by simpa using h)]; rfl
theorem take_all (s : ByteArray) (k : Nat) (h : s.size ≤ k) : s.data.toList.take k = s.data.toList :=
  List.take_of_length_le (by simpa using h)
theorem fnv_take (s : ByteArray) (k : Nat) (h : k < s.size) : fnv (s.data.toList.take (k + 1)) = bits .xor .u32 (fnv (s.data.toList.take k)) ((s[k].toNat : Int) % 4294967296) * 16777619 % 4294967296 := by
  rw [take_snoc s k h, fnv_snoc]; rfl

set_option maxRecDepth 100000 in
set_option maxHeartbeats 400000 in
theorem fnvOf_any (s : ByteArray) (w : World) (hs : s.size ≤ maxLen) :
    Calls Try.prog 133 #[.string s] w fun e w' => e = .returned (.int .u32 (fnv s.data.toList)) ∧ w = w' := by
  unfold maxLen at hs
  go_enter Try.func133, Try.ntmps133
  go_wp2
  go_loop [3, 7] (fun h i => ∃ k : Nat, k ≤ s.size ∧ i = .int .i64 k ∧ h = .int .u32 (fnv (s.data.toList.take k))) (fun _ i => s.size - (intOf i).toNat)
  case atStart => exact ⟨0, Nat.zero_le _, rfl, rfl⟩
  case round =>
    obtain ⟨k, hk, rfl, rfl⟩ := hrel
    have hz := fnv_bd (s.data.toList.take k)
    by_cases hlt : k < s.size
    · have H := Lib.hid (fnv_take s k hlt)
      generalize fnv (s.data.toList.take k) = z at *
      obtain ⟨hz0, hz1⟩ := hz
      go_wp2
      go_round
      case rel => exact ⟨k + 1, by omega, by go_num, by rw [H.out]⟩
      case measure => simp [intOf]; omega
    · have H := Lib.hid (congrArg fnv (take_all s k (by omega)))
      generalize fnv (s.data.toList.take k) = z at *
      go_wp2
      go_ret
      exact ⟨ret_int H.out, rfl⟩

set_option maxRecDepth 100000 in
set_option maxHeartbeats 400000 in
theorem l2Hash_any (s : ByteArray) (w : World) (hs : s.size ≤ maxLen) :
    Calls Try.prog 159 #[.string s] w fun e w' => e = .returned (.int .i64 (fnv s.data.toList)) ∧ w = w' := by
  unfold maxLen at hs
  go_enter Try.func159, Try.ntmps159
  go_wp2
  go_loop [3, 4] (fun h i => ∃ k : Nat, k ≤ s.size ∧ i = .int .i64 k ∧ h = .int .u32 (fnv (s.data.toList.take k))) (fun _ i => s.size - (intOf i).toNat)
  case atStart => exact ⟨0, Nat.zero_le _, rfl, rfl⟩
  case round =>
    obtain ⟨k, hk, rfl, rfl⟩ := hrel
    have hz := fnv_bd (s.data.toList.take k)
    by_cases hlt : k < s.size
    · have H := Lib.hid (fnv_take s k hlt)
      generalize fnv (s.data.toList.take k) = z at *
      obtain ⟨hz0, hz1⟩ := hz
      go_wp2
      go_round
      case rel => exact ⟨k + 1, by omega, by go_num, by rw [H.out]⟩
      case measure => simp [intOf]; omega
    · have H := Lib.hid (congrArg fnv (take_all s k (by omega)))
      generalize fnv (s.data.toList.take k) = z at *
      obtain ⟨hz0, hz1⟩ := hz
      go_wp2
      go_ret
      exact ⟨ret_int H.out, rfl⟩

end Go.Proofs.Ytpnbbedfbglekaa

namespace Go.Proofs.Ytpnbbedfbglekaa
open Go.RowKit

theorem implHashOf_no (s : ByteArray) (w : World) (hs : s.size ≤ maxLen) (h : ¬ s.size ≤ 12) :
    Calls Try.prog 90 #[.string s] w fun e w' => e = .returned (.int .i64 (-1)) ∧ w = w' := by
  unfold maxLen at hs
  have hd : decide ((s.size : Int) ≤ 12) = false := by simp; omega
  go_enter Try.func90, Try.ntmps90
  go_wp2
  go_ret
  exact ⟨rfl, rfl⟩
theorem implHashOf_yes (s : ByteArray) (w : World) (h : s.size ≤ 12) :
    Calls Try.prog 90 #[.string s] w fun e w' => e = .returned (.int .i64 (fnv s.data.toList)) ∧ w = w' := by
  have hz := fnv_bd s.data.toList
  obtain ⟨hz0, hz1⟩ := hz
  have hd : decide ((s.size : Int) ≤ 12) = true := by simp; omega
  go_enter Try.func90, Try.ntmps90
  go_wp2_with (first | (go_at_call 133; refine (fnvOf_any s _ (by unfold maxLen; omega)).mono ?_; rintro e w' ⟨rfl, rfl⟩) | go_in)
  go_ret
  exact ⟨rfl, rfl⟩
/-- What PartOf returns. -/
def partOf (s : ByteArray) (n : Int) : Int := if s.size ≤ 12 ∧ 1 ≤ n ∧ n ≤ 8 then fnv s.data.toList % n else -1
theorem implPartOf_any (s : ByteArray) (n : Int) (w : World) (hs : s.size ≤ maxLen) :
    Calls Try.prog 38 #[.string s, .int .i64 n] w fun e w' => e = .returned (.int .i64 (partOf s n)) ∧ w = w' := by
  have hz := fnv_bd s.data.toList
  obtain ⟨hz0, hz1⟩ := hz
  by_cases h : s.size ≤ 12
  · have ht : decide ((s.size : Int) ≤ 12) = true := by simp; omega
    by_cases h1 : 1 ≤ n
    · by_cases h2 : n ≤ 8
      · have E := Lib.hid (show partOf s n = fnv s.data.toList % n from if_pos ⟨h, h1, h2⟩)
        have hd : decide (n ≤ 8) = true := by simpa using h2
        have hd1 : decide (1 ≤ n) = true := by simpa using h1
        go_enter Try.func38, Try.ntmps38
        go_wp2_with (first | (go_at_call 90; refine (implHashOf_yes s _ h).mono ?_; rintro e w' ⟨rfl, rfl⟩) | go_in)
        go_ret
        exact ⟨ret_int E.out.symm, rfl⟩
      · have E := Lib.hid (show partOf s n = -1 from if_neg (by omega))
        have hd : decide (n ≤ 8) = false := by simpa using h2
        have hd1 : decide (1 ≤ n) = true := by simpa using h1
        go_enter Try.func38, Try.ntmps38
        go_wp2
        go_ret
        exact ⟨ret_int E.out.symm, rfl⟩
    · have E := Lib.hid (show partOf s n = -1 from if_neg (by omega))
      have hd1 : decide (1 ≤ n) = false := by simpa using h1
      go_enter Try.func38, Try.ntmps38
      go_wp2
      go_ret
      exact ⟨ret_int E.out.symm, rfl⟩
  · have E := Lib.hid (show partOf s n = -1 from if_neg (by omega))
    unfold maxLen at hs
    have ht : decide ((s.size : Int) ≤ 12) = false := by simp; omega
    go_enter Try.func38, Try.ntmps38
    go_wp2
    go_ret
    exact ⟨ret_int E.out.symm, rfl⟩
end Go.Proofs.Ytpnbbedfbglekaa

namespace Go.Proofs.Ytpnbbedfbglekaa
open Go.RowKit

/-- The bytes of strings. -/
def bytesL (ss : List ByteArray) : List (List UInt8) := ss.map fun s => s.data.toList
def keysB (rs : List RowV) : List ByteArray := rs.map RowV.key
theorem bytesL_enc (ss : List ByteArray) : (bytesL ss).map Go.Proofs.encStr = strC ss := by simp [bytesL, strC, Go.Proofs.encStr]
/-- The keys of the sorted rows. -/
def sortedK (rs : List RowV) : List (List UInt8) := bytesL (keysB (sortL rs))
theorem sortedK_length (rs : List RowV) : (sortedK rs).length = rs.length := by simp [sortedK, bytesL, keysB, sortL_length]
theorem notLess_key {r x : RowV} (h : r.less x = false) : x.key.data.toList ≤ r.key.data.toList := by
  rcases (notLess_iff r x).1 h with h | ⟨h, _⟩
  · exact List.le_of_lt h
  · rw [h]; exact List.le_refl _
theorem sortedK_sorted (rs : List RowV) : (sortedK rs).Pairwise (· ≤ ·) := by
  rw [sortedK, bytesL, keysB, List.map_map, List.pairwise_map]
  exact (sortL_asc rs).imp fun h => notLess_key h
theorem sortedK_get {rs : List RowV} {k : Nat} {r : RowV} (h : (sortL rs)[k]? = some r) : (sortedK rs)[k]? = some r.key.data.toList := by simp [sortedK, bytesL, keysB, h]
end Go.Proofs.Ytpnbbedfbglekaa

namespace Go.Proofs.Ytpnbbedfbglekaa
open Go.RowKit

/-- What is picked of the sorted keys. -/
def cutsL (K : List (List UInt8)) (n : Nat) : List (List UInt8) := (List.range (n - 1)).map fun j => K[(j + 1) * K.length / n]!
theorem cutsL_length (K : List (List UInt8)) (n : Nat) : (cutsL K n).length = n - 1 := by simp [cutsL]
theorem cutsL_get {K : List (List UInt8)} {n j : Nat} (h : j < n - 1) : (cutsL K n).toArray[j]! = K[(j + 1) * K.length / n]! := by
  rw [getElem!_pos _ j (by simpa [cutsL] using h)]; simp [cutsL]
theorem pick_lt {len n i : Nat} (hl : 0 < len) (hi : i < n) : i * len / n < len := by
  rw [Nat.div_lt_iff_lt_mul (by omega), Nat.mul_comm]
  exact Nat.mul_lt_mul_of_pos_left hi hl
/-- One pick is at most the next. -/
theorem cutsL_le {K : List (List UInt8)} {n j : Nat} (hK : K.Pairwise (· ≤ ·)) (hl : 0 < K.length) (h : j + 1 < n - 1) : (cutsL K n).toArray[j]! ≤ (cutsL K n).toArray[j + 1]! := by
  rw [cutsL_get (by omega), cutsL_get h]
  have h1 := pick_lt (i := j + 1) (n := n) hl (by omega)
  have h2 := pick_lt (i := j + 1 + 1) (n := n) hl (by omega)
  rw [getElem!_pos K _ h1, getElem!_pos K _ h2]
  have hle : (j + 1) * K.length / n ≤ (j + 1 + 1) * K.length / n := Nat.div_le_div_right (Nat.mul_le_mul_right _ (by omega))
  rcases Nat.lt_or_ge ((j + 1) * K.length / n) ((j + 1 + 1) * K.length / n) with hlt | hge
  · exact (List.pairwise_iff_getElem.1 hK) _ _ h1 h2 hlt
  · have e : (j + 1) * K.length / n = (j + 1 + 1) * K.length / n := by omega
    simp only [e]; exact List.le_refl _
theorem compact_last (d : Array (List UInt8)) : ∀ q, 0 < q → ∃ ys, Lib.compactUpTo d q = ys ++ [d[q - 1]!]
  | 0, h => absurd h (by omega)
  | q + 1, _ => by
    rw [Lib.compactUpTo_succ]
    by_cases hk : Lib.keeps d q = true
    · rw [if_pos hk]; exact ⟨_, rfl⟩
    · rw [if_neg hk, List.append_nil]
      have : ¬ (q = 0 ∨ d[q]! ≠ d[q - 1]!) := by simpa [Lib.keeps] using hk
      obtain ⟨h0, h1⟩ := not_or.1 this
      obtain ⟨ys, hy⟩ := compact_last d q (by omega)
      exact ⟨ys, by rw [hy, Nat.add_sub_cancel, Classical.not_not.1 h1]⟩
theorem compact_zero (d : Array (List UInt8)) : Lib.compactUpTo d 0 = [] := rfl
/-- What is kept is what is greater than the last. -/
theorem keeps_lt {d : Array (List UInt8)} {q : Nat} (hq : 0 < q) (hle : d[q - 1]! ≤ d[q]!) : Lib.keeps d q = Op.bytesLess d[q - 1]! d[q]! := by
  rw [bytesLess_eq, Bool.eq_iff_iff]
  simp only [Lib.keeps, decide_eq_true_eq]
  constructor
  · rintro (h | h)
    · omega
    · by_cases h' : d[q - 1]! < d[q]!
      · exact h'
      · exact absurd (List.le_antisymm (List.not_lt.1 h') hle) h
  · intro h
    right
    intro e
    rw [e] at h
    exact List.lt_irrefl _ h
/-- The cuts. -/
def cutsR (rs : List RowV) (n : Nat) : List (List UInt8) := if rs.length = 0 then [] else Lib.compact (cutsL (sortedK rs) n)
end Go.Proofs.Ytpnbbedfbglekaa

namespace Go.Proofs.Ytpnbbedfbglekaa
open Go.RowKit

def inP (N : Int) : Bool := decide (1 ≤ N) && decide (N ≤ 8)
theorem partsOk_b (N : Int) (b : Bool) (w : World) (h : inP N = b) : Calls Try.prog 86 #[.int .i64 N] w fun e w' => e = .returned (.bool b) ∧ Below w.heap.size w w' := by
  unfold inP at h
  have E := Lib.hid h
  clear h
  by_cases h1 : 1 ≤ N
  · have d1 : decide (1 ≤ N) = true := by simp [h1]
    go_enter Try.func86, Try.ntmps86
    go_wp2
    go_ret
    exact ⟨ret_bool (by rw [← E.out, d1, Bool.true_and]), Below.refl _ _⟩
  · have d1 : decide (1 ≤ N) = false := by simp [h1]
    go_enter Try.func86, Try.ntmps86
    go_wp2
    go_ret
    exact ⟨ret_bool (by rw [← E.out, d1, Bool.false_and]), Below.refl _ _⟩
theorem l1In_b (N : Int) (b : Bool) (w : World) (h : inP N = b) : Calls Try.prog 61 #[.int .i64 N, .int .i64 1, .int .i64 8] w fun e w' => e = .returned (.bool b) ∧ Below w.heap.size w w' := by
  unfold inP at h
  have E := Lib.hid h
  clear h
  by_cases h1 : 1 ≤ N
  · have d1 : decide (1 ≤ N) = true := by simp [h1]
    go_enter Try.func61, Try.ntmps61
    go_wp2
    go_ret
    exact ⟨ret_bool (by rw [← E.out, d1, Bool.true_and]), Below.refl _ _⟩
  · have d1 : decide (1 ≤ N) = false := by simp [h1]
    go_enter Try.func61, Try.ntmps61
    go_wp2
    go_ret
    exact ⟨ret_bool (by rw [← E.out, d1, Bool.false_and]), Below.refl _ _⟩
/-- What CutsOf returns: nil and false, or the cuts in memory of its own. -/
def CutsOut (rs : List RowV) (N : Int) (w : World) (e : Ending) (w' : World) : Prop :=
  ∃ a m c, e = .returned (.tuple #[.slice a m c, .bool (rowsOk rs && inP N)]) ∧ Below w.heap.size w w' ∧ w'.ownsRow w.heap.size 9 1 (.slice a m c) m ((if (rowsOk rs && inP N) = true then cutsR rs N.toNat else []).map encStr)
theorem own_none (w : World) (base : Nat) : w.ownsRow base 9 1 (.slice none 0 0) 0 (([] : List (List UInt8)).map encStr) := World.ownsRow_nil w base _ _
/-- The place of a pick, as the program reckons it. -/
theorem pick_facts {K : List (List UInt8)} {k n M : Nat} (hk : k + 1 < M) (hM : M ≤ 8) (hn : 0 < n) (hm : n ≤ 1048576) (hl : K.length = n) :
    ∃ (Q : Nat) (s : List UInt8), Q < n ∧ (wrap64 (((k : Int) + 1) * (n : Int)) = ((k : Int) + 1) * (n : Int) ∧ wrap64 ((((k : Int) + 1) * (n : Int)).tdiv (M : Int)) = (Q : Int)) ∧ Q = (k + 1) * n / M ∧ K[(k + 1) * n / M]? = some s := by
  have hQ : (k + 1) * n / M < n := pick_lt hn hk
  have e1 : ((k : Int) + 1) * (n : Int) = (((k + 1) * n : Nat) : Int) := by push_cast; rfl
  have hb : (k + 1) * n ≤ 8 * 1048576 := Nat.mul_le_mul (by omega) hm
  have e2 : (((k + 1) * n : Nat) : Int).tdiv (M : Int) = (((k + 1) * n / M : Nat) : Int) := rfl
  refine ⟨(k + 1) * n / M, K[(k + 1) * n / M]'(by omega), hQ, ⟨?_, ?_⟩, rfl, List.getElem?_eq_getElem (by omega)⟩
  · rw [e1]; generalize (k + 1) * n = P at *; unfold wrap64; omega
  · rw [e1, e2]; generalize (k + 1) * n / M = P at *; unfold wrap64; omega
theorem keyAt {K : List (List UInt8)} {Q : Nat} {s : List UInt8} (h : K[Q]? = some s) : (K.map encStr)[Q]? = some (.string ⟨s.toArray⟩) := by simp [h]
theorem cuts_take_succ {K : List (List UInt8)} {k n M : Nat} {s : List UInt8} (hk : k < M - 1) (h : K[(k + 1) * n / M]? = some s) (hl : K.length = n) : ((cutsL K M).take k).map encStr ++ [.string ⟨s.toArray⟩] = ((cutsL K M).take (k + 1)).map encStr := by
  have hkl : k < (cutsL K M).length := by rw [cutsL_length]; exact hk
  rw [List.take_succ_eq_append_getElem hkl, List.map_append]
  have : (cutsL K M)[k] = s := by
    have h1 := (List.getElem?_eq_some_iff.1 h).1
    simp only [cutsL, List.getElem_map, List.getElem_range, hl]
    rw [getElem!_pos K _ h1]
    rw [List.getElem?_eq_getElem h1] at h; injection h
  rw [this]; rfl
theorem own_compact {w : World} {base e g cap q : Nat} {zs ts rest : List (List UInt8)} (h : w.ownsRow base e 1 (.slice (some ⟨g, 0, none⟩) zs.length cap) zs.length (zs.map encStr)) (hl : (ts ++ rest).length = zs.length) :
    (Sort.putRow encStr (Sort.ahead w q) g 0 (ts ++ rest).toArray).ownsRow base e 1 (.slice (some ⟨g, 0, none⟩) ts.length cap) ts.length (ts.map encStr) ∧ w.grownBy (Sort.putRow encStr (Sort.ahead w q) g 0 (ts ++ rest).toArray) (some g) := by
  rcases h.2 with ⟨h0, _⟩ | ⟨g', cap', cur, hv, hgb, hbk, h1, h2, h3, h4⟩
  · cases h0
  obtain ⟨rfl, rfl⟩ : g = g' ∧ cap = cap' := by injection hv with e1 _ e3; injection e1 with e1; injection e1 with e1; exact ⟨e1, e3⟩
  have hh := heap_sorted (n := q) (os := #[]) (ts ++ rest).toArray hbk
  have hg := grownBy_sorted (w := w) (g := g) (n := q) (os := #[]) (ts ++ rest).toArray
  rw [Sort.grow_empty] at hh hg
  refine ⟨⟨by simp, .inr ⟨g, cap, _, rfl, hgb, hh, ?_, h2, by simp [Sort.putCells, h3], ?_⟩⟩, hg⟩
  · have : ts.length ≤ (ts ++ rest).length := by simp
    omega
  · have ht := take_putCells cur (ts ++ rest) (by omega)
    rw [Nat.mul_one]
    have e : ((Sort.putCells encStr 0 (ts ++ rest).toArray cur).toList.take (ts ++ rest).length).take ts.length = (Sort.putCells encStr 0 (ts ++ rest).toArray cur).toList.take ts.length := by
      rw [List.take_take, Nat.min_eq_left (by simp)]
    rw [← e, ht]; simp
end Go.Proofs.Ytpnbbedfbglekaa

namespace Go.Proofs.Ytpnbbedfbglekaa
open Go.RowKit

/-- The rows by their lists: list i has the rows whose number is i, in order. -/
def partsL (f : RowV → Nat) (n : Nat) (l : List RowV) : List (List RowV) := (List.range n).map fun i => l.filter fun r => f r == i
theorem partsL_length (f : RowV → Nat) (n : Nat) (l : List RowV) : (partsL f n l).length = n := by simp [partsL]
theorem partsL_get {f : RowV → Nat} {n i : Nat} {l : List RowV} (h : i < n) : (partsL f n l)[i]? = some (l.filter fun r => f r == i) := by simp [partsL, h]
theorem partsL_step {f : RowV → Nat} {n : Nat} {l : List RowV} {r : RowV} (h : f r < n) : (partsL f n l).set (f r) ((l.filter fun x => f x == f r) ++ [r]) = partsL f n (l ++ [r]) := by
  apply List.ext_getElem?
  intro i
  by_cases e : f r = i
  · subst e
    rw [List.getElem?_set_self (by rw [partsL_length]; exact h), partsL_get h]
    simp
  · rw [List.getElem?_set_ne e]
    rcases Nat.lt_or_ge i n with hi | hi
    · rw [partsL_get hi, partsL_get hi]
      simp [e]
    · rw [List.getElem?_eq_none (by rw [partsL_length]; exact hi), List.getElem?_eq_none (by rw [partsL_length]; exact hi)]
theorem partsL_nil (f : RowV → Nat) (n : Nat) : partsL f n [] = List.replicate n [] := by
  unfold partsL
  simp only [List.filter_nil]
  rw [List.map_const']
  simp
theorem filter_le_take {f : RowV → Nat} {i k : Nat} {l : List RowV} : ((l.take k).filter fun r => f r == i).length ≤ k := Nat.le_trans (List.length_filter_le _ _) (by simp; omega)
theorem rowsIn_replicate (n : Nat) : rowsIn (List.replicate n []) = 0 := by
  induction n with
  | zero => rfl
  | succ n ih => rw [List.replicate_succ, rowsIn, ih]; rfl
theorem rowsIn_set {ps : List (List RowV)} {i : Nat} {a b : List RowV} (h : ps[i]? = some a) : rowsIn (ps.set i b) + a.length = rowsIn ps + b.length := by
  induction ps generalizing i with
  | nil => simp at h
  | cons r ps ih =>
    cases i with
    | zero => simp at h; subst h; simp only [List.set_cons_zero, rowsIn]; omega
    | succ i =>
      have := ih (i := i) (by simpa using h)
      simp only [List.set_cons_succ, rowsIn]
      omega
theorem rowsIn_partsL (f : RowV → Nat) (n : Nat) (l : List RowV) (h : ∀ r ∈ l, f r < n) : rowsIn (partsL f n l) = l.length := by
  rcases List.eq_nil_or_concat l with rfl | ⟨l', r, rfl⟩
  · rw [partsL_nil, rowsIn_replicate]; rfl
  · rw [List.concat_eq_append] at h ⊢
    have hr := h r (by simp)
    have ih := rowsIn_partsL f n l' (fun x hx => h x (by simp [hx]))
    have h1 := rowsIn_set (b := (l'.filter fun x => f x == f r) ++ [r]) (partsL_get (f := f) (l := l') hr)
    rw [partsL_step hr, ih] at h1
    simp at h1 ⊢
    omega
termination_by l.length
decreasing_by simp_all
theorem Fam.nils (w : World) (lo n : Nat) : Fam w lo (List.replicate n (.slice none 0 0)) (List.replicate n []) := by
  refine ⟨by simp, ?_, ?_⟩
  · intro i v rs hv hr
    have e1 : v = .slice none 0 0 := by
      have := List.mem_of_getElem? hv
      exact (List.mem_replicate.1 this).2
    have e2 : rs = [] := by
      have := List.mem_of_getElem? hr
      exact (List.mem_replicate.1 this).2
    subst e1 e2
    exact World.ownsRow_nil w lo _ _
  · intro i j v u g _ hv _ hg
    have e1 : v = .slice none 0 0 := (List.mem_replicate.1 (List.mem_of_getElem? hv)).2
    subst e1
    cases hg
/-- The list p is written anew; its slice is stored into the outer list. -/
theorem POwn.put {w w' : World} {lo g n c p : Nat} {vs : List Value} {ps : List (List RowV)} {v v' : Value} {rs' : List RowV} (h : POwn w lo (some ⟨g, 0, none⟩) n c vs ps) (hv : vs[p]? = some v) (hg : w.grownBy w' v.ownBlock) (hO : w'.ownsRow lo 52 3 v' rs'.length (flat rs')) (hat : v'.ownBlock = v.ownBlock ∨ v'.ownBlock = some w.heap.size) : POwn (w'.setCell ⟨g, p, none⟩ v') lo (some ⟨g, 0, none⟩) n c (vs.set p v') (ps.set p rs') := by
  have hmem := List.mem_of_getElem? hv
  have hgo : (Value.slice (some ⟨g, 0, none⟩) n c).ownBlock = some g := rfl
  have hgw := (own_ge h.outer g hgo).2
  have F := h.fam.set hv hg hO (hat.imp id fun e g' hg' => by rw [e] at hg'; injection hg' with e'; omega)
  have ho : w'.ownsRow lo 59 1 (.slice (some ⟨g, 0, none⟩) n c) n vs := own_other h.outer hg (fun g' h1 h2 => h.out v hmem g' h2 h1)
  have hout : ∀ u ∈ vs.set p v', ∀ g', u.ownBlock = some g' → (Value.slice (some ⟨g, 0, none⟩) n c).ownBlock ≠ some g' := by
    intro u hu g' hg' he
    rw [hgo] at he
    injection he with he
    rcases List.mem_or_eq_of_mem_set hu with hu | rfl
    · exact h.out u hu g' hg' (by rw [hgo, he])
    · rcases hat with e | e
      · exact h.out v hmem g' (e ▸ hg') (by rw [hgo, he])
      · rw [e] at hg'; injection hg' with e'; omega
  refine ⟨(ho.stored p v').1, ⟨F.len, fun i u rs hu hr => ?_, F.sep⟩, hout⟩
  refine own_other (F.own i u rs hu hr) (gb_store (World.grownBy.refl w' (some g)) p v') (fun g' h1 h2 => ?_)
  injection h2 with h2
  exact hout u (List.mem_of_getElem? hu) g' h1 (by rw [hgo, h2])
theorem infoPart : (Try.prog.info? 59).map (fun i => (i.zero, i.size, i.bytes)) = some (some (.agg #[.slice none 0 0]), 1, 24) := by kernel_rfl
theorem made_parts (n : Nat) : (madeCells (Value.agg #[.slice none 0 0]).cells (n * 1)).toList = List.replicate n (.slice none 0 0) := by
  have h : ∀ x : Nat, [Value.slice none 0 0][x % 1]?.getD default = Value.slice none 0 0 := fun x => by rw [Nat.mod_one]; rfl
  simp [madeCells, Value.cells, h]
  exact (List.map_const' ..).trans (by rw [List.length_range])
/-- append to an owned slice, as one step of a region that draws its order. -/
theorem step_append_own_at {P : Program} {ops : Array Oper} {o : Oper} {a : Act} {w : World} {K : Act → World → Prop} {Q : Exit → Act → World → Prop} {E : Prop}
    (hgd : o.guard = none) (s x : Operand) (t : TypeId) (hop : o.op = Op.call { callee := Callee.builtin Builtin.append, args := #[s, x], argTypes := #[t, t] })
    (base : Nat) (e : TypeId) (i : TypeInfo) (z : Value) (size bytes : Nat) (ht : P.underlying t = some (.slice e)) (hi : P.info? e = some i) (hz : i.zero = some z)
    (hsize : i.size = size) (hby : i.bytes = bytes) (hzs : z.cells.size = size) (hsz : 0 < size)
    (v : Value) (n : Nat) (xs : List Value) (hs : a.eval s = v) (hown : w.ownsRow base e size v n xs)
    (ad : Addr) (m c : Nat) (news : List Value) (hx : a.eval x = .slice (some ad) m c) (hl : news.length = m * size) (hnews : ∀ j u, news[j]? = some u → w.cell? (ad.add j) = some u) (h1 : ∀ u ∈ news, u.oneCell' = true)
    (h63 : n + m ≤ maxLen) (hbytes : (n + m) * bytes ≤ 140737488355328) (hbase : base ≤ w.heap.size)
    (h : ∀ v' w', w'.ownsRow base e size v' (n + m) (xs ++ news) → w.grownBy w' v.ownBlock → (v'.ownBlock = v.ownBlock ∨ v'.ownBlock = some w.heap.size) → K (a.put o.dst v') w') :
    if Region.wanted o (yielded ops a.tmps) = true then Oper.wp P o a w K Q else E := by
  have hw : Region.wanted o (yielded ops a.tmps) = true := by simp [Region.wanted, hgd]
  rw [if_pos hw]
  obtain ⟨v', w', hr, h2, h3, h4, h5⟩ := run_append_own_at (P := P) w base t o.type e i z size bytes ht hi hz hsize hby hzs hsz v n xs hown ad m c news hl hnews h1 h63 hbytes hbase
  unfold Oper.wp
  simp [execOp, hop, resolve, invoke, builtin, hs, hx, hr, Result.andThen]
  exact h v' w' h2 h3 h5
theorem row_new (w : World) (r : RowV) (t : TypeId) : ∀ j u, [Value.string r.key, .int .i64 r.tag, .string r.val][j]? = some u → (w.alloc (.cells #[.string r.key, .int .i64 r.tag, .string r.val] t)).cell? ((⟨w.heap.size, 0, none⟩ : Addr).add j) = some u := by
  intro j u hj
  match j, hj with
  | 0, hj => simp at hj; subst hj; simp [Addr.add, go_sem]
  | 1, hj => simp at hj; subst hj; simp [Addr.add, go_sem]
  | 2, hj => simp at hj; subst hj; simp [Addr.add, go_sem]
theorem row_one (r : RowV) : ∀ u ∈ [Value.string r.key, .int .i64 r.tag, .string r.val], u.oneCell' = true := by
  intro u hu
  simp at hu
  rcases hu with rfl | rfl | rfl <;> rfl
/-- The number of a row's part. -/
def partF (M : Nat) (r : RowV) : Nat := (fnv r.key.data.toList).toNat % M
theorem partF_int {M : Nat} (hM : 0 < M) (r : RowV) : fnv r.key.data.toList % (M : Int) = (partF M r : Int) ∧ partF M r < M := by
  have := fnv_bd r.key.data.toList
  refine ⟨?_, Nat.mod_lt _ hM⟩
  unfold partF
  generalize fnv r.key.data.toList = z at *
  obtain ⟨k, rfl⟩ : ∃ k : Nat, z = k := ⟨z.toNat, by omega⟩
  simp
end Go.Proofs.Ytpnbbedfbglekaa

namespace Go.Proofs.Ytpnbbedfbglekaa
open Go.RowKit

/-- The lists of an array of eight, each in memory of its own. -/
structure LOwn (w : World) (lo L : Nat) (vs : List Value) (ps : List (List RowV)) : Prop where
  outer : w.ownsRow lo 175 8 (.slice (some ⟨L, 0, none⟩) 1 1) 1 vs
  fam : Fam w lo vs ps
  out : ∀ v ∈ vs, ∀ g, v.ownBlock = some g → (Value.slice (some ⟨L, 0, none⟩) 1 1).ownBlock ≠ some g
theorem LOwn.new (w : World) (f : RowV → Nat) : LOwn (w.alloc (.cells #[.slice none 0 0, .slice none 0 0, .slice none 0 0, .slice none 0 0, .slice none 0 0, .slice none 0 0, .slice none 0 0, .slice none 0 0] 175)) w.heap.size w.heap.size (List.replicate 8 (.slice none 0 0)) (partsL f 8 []) := by
  refine ⟨World.ownsRow_lit (base := w.heap.size) (size := 8) w #[.slice none 0 0, .slice none 0 0, .slice none 0 0, .slice none 0 0, .slice none 0 0, .slice none 0 0, .slice none 0 0, .slice none 0 0] 1 (Nat.le_refl _) (by decide) rfl, by rw [partsL_nil]; exact Fam.nils _ _ _, fun v hv g hg => ?_⟩
  have e1 : v = .slice none 0 0 := (List.mem_replicate.1 hv).2
  subst e1
  cases hg
theorem LOwn.below {w w' : World} {lo L : Nat} {vs : List Value} {ps : List (List RowV)} (h : LOwn w lo L vs ps) (hb : Below w.heap.size w w') : LOwn w' lo L vs ps := ⟨own_below h.outer hb, h.fam.below hb, h.out⟩
theorem LOwn.bnd {w : World} {lo L : Nat} {vs : List Value} {ps : List (List RowV)} (h : LOwn w lo L vs ps) : Bnd w.heap.size vs := fun v hv g hg => by
  obtain ⟨i, hi, e⟩ := List.mem_iff_getElem.1 hv
  have h1 : vs[i]? = some v := by rw [List.getElem?_eq_getElem hi, e]
  have h2 : ps[i]? = some (ps[i]'(by rw [← h.fam.len]; exact hi)) := List.getElem?_eq_getElem _
  exact (own_ge (h.fam.own i v _ h1 h2) g hg).2
theorem LOwn.other {w w' : World} {lo L : Nat} {vs : List Value} {ps : List (List RowV)} {row : Option Nat} (h : LOwn w lo L vs ps) (hg : w.grownBy w' row) (hr : ∀ g, row = some g → (∀ v ∈ vs, v.ownBlock ≠ some g) ∧ L ≠ g) : LOwn w' lo L vs ps :=
  ⟨own_other h.outer hg (fun g h1 h2 => (hr g h2).2 (by injection h1)), ⟨h.fam.len, fun i v rs hv hrs => own_other (h.fam.own i v rs hv hrs) hg (fun g h1 h2 => (hr g h2).1 v (List.mem_of_getElem? hv) h1), h.fam.sep⟩, h.out⟩
theorem LOwn.put {w w' : World} {lo g p : Nat} {vs : List Value} {ps : List (List RowV)} {v v' : Value} {rs' : List RowV} (h : LOwn w lo g vs ps) (hv : vs[p]? = some v) (hg : w.grownBy w' v.ownBlock) (hO : w'.ownsRow lo 52 3 v' rs'.length (flat rs')) (hat : v'.ownBlock = v.ownBlock ∨ v'.ownBlock = some w.heap.size) : LOwn (w'.setCell ⟨g, p, none⟩ v') lo g (vs.set p v') (ps.set p rs') := by
  have hmem := List.mem_of_getElem? hv
  have hgo : (Value.slice (some ⟨g, 0, none⟩) 1 1).ownBlock = some g := rfl
  have hgw := (own_ge h.outer g hgo).2
  have F := h.fam.set hv hg hO (hat.imp id fun e g' hg' => by rw [e] at hg'; injection hg' with e'; omega)
  have ho : w'.ownsRow lo 175 8 (.slice (some ⟨g, 0, none⟩) 1 1) 1 vs := own_other h.outer hg (fun g' h1 h2 => h.out v hmem g' h2 h1)
  have hout : ∀ u ∈ vs.set p v', ∀ g', u.ownBlock = some g' → (Value.slice (some ⟨g, 0, none⟩) 1 1).ownBlock ≠ some g' := by
    intro u hu g' hg' he
    rw [hgo] at he
    injection he with he
    rcases List.mem_or_eq_of_mem_set hu with hu | rfl
    · exact h.out u hu g' hg' (by rw [hgo, he])
    · rcases hat with e | e
      · exact h.out v hmem g' (e ▸ hg') (by rw [hgo, he])
      · rw [e] at hg'; injection hg' with e'; omega
  refine ⟨(ho.stored p v').1, ⟨F.len, fun i u rs hu hr => ?_, F.sep⟩, hout⟩
  refine own_other (F.own i u rs hu hr) (gb_store (World.grownBy.refl w' (some g)) p v') (fun g' h1 h2 => ?_)
  injection h2 with h2
  exact hout u (List.mem_of_getElem? hu) g' h1 (by rw [hgo, h2])
theorem Fam.take {w : World} {lo : Nat} {vs : List Value} {ps : List (List RowV)} (h : Fam w lo vs ps) (k : Nat) : Fam w lo (vs.take k) (ps.take k) := by
  have up : ∀ {β : Type} (l : List β) (i : Nat) (x : β), (l.take k)[i]? = some x → l[i]? = some x := by
    intro β l i x hx
    have hi := (List.getElem?_eq_some_iff.1 hx).1
    rw [List.length_take] at hi
    rw [List.getElem?_take_of_lt (by omega)] at hx
    exact hx
  exact ⟨by simp [h.len], fun i v rs hv hr => h.own i v rs (up _ _ _ hv) (up _ _ _ hr), fun i j v u g hij hv hu => h.sep i j v u g hij (up _ _ _ hv) (up _ _ _ hu)⟩
theorem partsL_take (f : RowV → Nat) {M : Nat} (rs : List RowV) (hM : M ≤ 8) : (partsL f 8 rs).take M = partsL f M rs := by
  unfold partsL
  rw [← List.map_take, List.take_range, Nat.min_eq_left hM]
set_option maxRecDepth 100000 in
set_option maxHeartbeats 4000000 in
theorem dealtP_any (a : Option Addr) (n cap M B : Nat) (rs : List RowV) (f : RowV → Nat) (w : World) (hm : n ≤ 1048576) (hM1 : 1 ≤ M) (hM8 : M ≤ 8) (hok : ∀ r ∈ rs, r.Ok) (hR : Rd w w.heap.size 3 a n (flat rs)) (hf : ∀ r ∈ rs, f r < M)
    (hplace : ∀ (W : World) (r : RowV), Below w.heap.size w W → r.Ok → r ∈ rs → Calls Try.prog 88 #[.string r.key, .pointer (some ⟨B, 0, none⟩)] W fun e W' => e = .returned (.int .i64 (f r)) ∧ W = W') :
    Calls Try.prog 87 #[.slice a n cap, .int .i64 M, .func (.func 88) #[] #[.pointer (some ⟨B, 0, none⟩)]] w fun e w' => ∃ g vs, e = .returned (.slice (some ⟨g, 0, none⟩) M M) ∧ Below w.heap.size w w' ∧ POwn w' w.heap.size (some ⟨g, 0, none⟩) M M vs (partsL f M rs) := by
  obtain ⟨i0, hi, hz0, hz1, hz2⟩ := info_parts infoRow
  obtain ⟨i1, hj, hy0, hy1, hy2⟩ := info_parts infoPart
  have hl := Lib.hid hR.rows_length
  have HP := Lib.hid hplace
  have HF := Lib.hid hf
  clear hplace hf
  have hL0 := LOwn.new w f
  have hb0 := bl1 w (.cells #[.slice none 0 0, .slice none 0 0, .slice none 0 0, .slice none 0 0, .slice none 0 0, .slice none 0 0, .slice none 0 0, .slice none 0 0] 175)
  go_enter Try.func87, Try.ntmps87
  go_wp2_with fail
  generalize w.alloc (.cells #[.slice none 0 0, .slice none 0 0, .slice none 0 0, .slice none 0 0, .slice none 0 0, .slice none 0 0, .slice none 0 0, .slice none 0 0] 175) = w0 at *
  go_loopw [15] (fun i wr => ∃ (k : Nat) (vs : List Value), k ≤ n ∧ i = .int .i64 k ∧ Below w.heap.size w wr ∧ LOwn wr w.heap.size w.heap.size vs (partsL f 8 (rs.take k))) (fun i _ => n - (intOf i).toNat)
  case atStart => exact ⟨0, _, Nat.zero_le _, rfl, hb0, by rw [List.take_zero]; exact hL0⟩
  case round =>
    obtain ⟨k, vs, hk, rfl, hb, hP⟩ := hrel
    clear hL0 hb0
    by_cases hlt : k < n
    · obtain ⟨b, off, r, rfl, hB, hr, c0, c1, c2⟩ := (hR.below hb (Nat.le_refl _)).row hlt
      have hro := RowV.Ok.of hok hr
      have hmem := List.mem_of_getElem? hr
      have hp2 := HF.out r hmem
      have HS := Lib.hid (show (partsL f 8 (rs.take k)).set (f r) (((rs.take k).filter fun x => f x == f r) ++ [r]) = partsL f 8 (rs.take (k + 1)) by
        rw [partsL_step (by omega)]
        have hkl := (List.getElem?_eq_some_iff.1 hr).1
        have e : rs[k] = r := by rw [List.getElem?_eq_getElem hkl] at hr; injection hr
        rw [List.take_succ_eq_append_getElem hkl, e])
      obtain ⟨va, vc, l, hv1, hv2, hv3⟩ := hP.fam.at_ (i := f r) (by rw [partsL_length]; omega)
      obtain rfl : l = (rs.take k).filter fun x => f x == f r := by rw [partsL_get (by omega)] at hv2; injection hv2 with e; exact e.symm
      have hll := filter_le_take (f := f) (i := f r) (k := k) (l := rs)
      generalize (rs.take k).filter (fun x => f x == f r) = l at *
      have C := Lib.hid (HP.out (wr.alloc (.cells #[.string r.key, .int .i64 r.tag, .string r.val] 52)) r (hb.alloc hb.size _) hro hmem)
      clear hv2 hr hmem
      go_wp2_with fail
      refine C.out.mono ?_
      rintro e w2 ⟨rfl, rfl⟩
      generalize f r = p at *
      have hb' := hb.alloc hb.size (.cells #[.string r.key, .int .i64 r.tag, .string r.val] 52)
      have hP' := hP.below (bl1 wr (.cells #[.string r.key, .int .i64 r.tag, .string r.val] 52))
      have hv' := own_below hv3 (bl1 wr (.cells #[.string r.key, .int .i64 r.tag, .string r.val] 52))
      have q0 := row_new wr r 52 0 _ rfl
      have q1 := row_new wr r 52 1 _ rfl
      have q2 := row_new wr r 52 2 _ rfl
      have hws : wr.heap.size < (wr.alloc (.cells #[.string r.key, .int .i64 r.tag, .string r.val] 52)).heap.size := by simp
      rw [addr_add3, Nat.zero_add] at q0 q1 q2
      generalize hwx : wr.alloc (.cells #[.string r.key, .int .i64 r.tag, .string r.val] 52) = wx at *
      generalize wr.heap.size = B1 at *
      clear hwx hb hP hv3 C c0 c1 c2
      have d0 : wx.cell? ⟨w.heap.size, p, none⟩ = some (.slice va l.length vc) := by
        rw [hP'.outer.cellAt p (by omega)]; exact hv1
      have f0 := hP'.outer.frozenAt p
      have hbA := (hb'.alloc hb'.size (.cells #[.string r.key, .int .i64 r.tag, .string r.val] 52)).drew
      have hPA := (hP'.below (bl1 wx (.cells #[.string r.key, .int .i64 r.tag, .string r.val] 52))).below (Below.refl _ _).drew
      have hvA := own_below (own_below hv' (bl1 wx (.cells #[.string r.key, .int .i64 r.tag, .string r.val] 52))) (Below.refl _ _).drew
      have hnew := row_new wx r 52
      have hlm : l.length + 1 ≤ maxLen := by unfold maxLen; omega
      have hlb : (l.length + 1) * 40 ≤ 140737488355328 := by omega
      have dA : (wx.alloc (.cells #[.string r.key, .int .i64 r.tag, .string r.val] 52)).cell? ⟨w.heap.size, p, none⟩ = some (.slice va l.length vc) := by
        rw [World.cell?_alloc_some _ _ _ (by rw [d0]; rfl)]; exact d0
      have HB := Lib.hid hbA
      have HP2 := Lib.hid hPA
      have HV := Lib.hid hvA
      have HN := Lib.hid hnew
      clear hb' hP' hv' hbA hPA hvA hnew
      have hp8 : (p : Int) < 8 := by omega
      go_wp2_with fail
      go_region_law (refine step_append_own_at rfl (.tmp 26) (.tmp 28) 44 rfl w.heap.size 52 i0 (.agg #[.string ⟨#[]⟩, .int .i64 0, .string ⟨#[]⟩]) 3 40 Try.underlying44 hi hz0 hz1 hz2 rfl (by decide) (.slice va l.length vc) l.length (flat l) rfl HV.out ⟨wx.heap.size, 0, none⟩ 1 1 [.string r.key, .int .i64 r.tag, .string r.val] rfl rfl HN.out (row_one r) hlm hlb HB.out.size ?_; intro v' w3 hO3 hg3 hat; obtain ⟨a3, c3, rfl⟩ := own_slice' hO3; have hPo := own_other HP2.out.outer hg3 (fun g h1 h2 => HP2.out.out _ (List.mem_of_getElem? hv1) g h2 h1); obtain ⟨u0, e0⟩ := own_cell hPo (j := p) (by omega); have f1 := hPo.frozenAt p)
      all_goals
        have hO3' : w3.ownsRow w.heap.size 52 3 (.slice a3 (l.length + 1) c3) (l ++ [r]).length (flat (l ++ [r])) := by
          rw [flat_append]; simpa [flat, RowV.cells] using hO3
        have hgb := HB.out.grown hg3 HB.out.size (fun q e => (own_ge HV.out q e).1)
        have hPn := HP2.out.put hv1 hg3 hO3' hat
        rw [HS.out] at hPn
        have hbn := hgb.setCell (p := ⟨w.heap.size, p, none⟩) (Nat.le_refl _) (.slice a3 (l.length + 1) c3)
        clear hO3 hg3 hat hPo hgb hO3'
        go_wp2_with fail
        go_roundw
        case rel => exact ⟨k + 1, _, by omega, by go_num, hbn, hPn⟩
        case measure => simp [intOf]; omega
    · obtain rfl : k = n := by omega
      rw [List.take_of_length_le (by rw [hl.out]; omega)] at hP
      go_wp2_with (at_make; refine wpList_make_full _ rfl _ _ 55 rfl wr.heap.size 59 i1 (.agg #[.slice none 0 0]) 1 Try.underlying55 hj hy0 hy1 .i64 .i64 _ _ M rfl rfl (by omega) (by omega) (by rw [hy2]; omega) (by unfold maxLen; omega) (Nat.le_refl _) ?_; intro w4 hown hgrow)
      have hb4 := (Below.refl wr.heap.size wr).grown hgrow (Nat.le_refl _) (by simp)
      have hB4 := hb.trans (hb4.mono hb.size)
      have hP4 := hP.below hb4
      have hPb := hP.bnd
      have hs4 : w.heap.size < wr.heap.size := (own_ge hP.outer w.heap.size rfl).2
      rw [made_parts] at hown
      clear hgrow hb4 hb hP
      have hBnd := hPb
      generalize wr.heap.size = gP at *
      clear hPb
      go_wp2_with fail
      go_loopw [36] (fun i wq => ∃ (k : Nat) (xs : List Value), k ≤ M ∧ i = .int .i64 k ∧ Below w.heap.size w wq ∧ LOwn wq w.heap.size w.heap.size vs (partsL f 8 rs) ∧ wq.ownsRow gP 59 1 (.slice (some ⟨gP, 0, none⟩) M M) M xs ∧ Hid (xs.take k = vs.take k)) (fun i _ => M - (intOf i).toNat)
      case atStart => exact ⟨0, _, Nat.zero_le _, rfl, hB4, hP4, hown, Lib.hid rfl⟩
      case round =>
        obtain ⟨q, xs, hq, rfl, hb, hP, hO, Hx⟩ := hrel
        clear hB4 hP4 hown
        have hv8 : vs.length = 8 := by have := hP.outer.1; omega
        by_cases hlt : q < M
        · obtain ⟨v, hv⟩ : ∃ v, vs[q]? = some v := ⟨_, List.getElem?_eq_getElem (by omega)⟩
          obtain ⟨va, vc, l, hv1, _, _⟩ := hP.fam.at_ (i := q) (by rw [partsL_length]; omega)
          have d0 : wr.cell? ⟨w.heap.size, q, none⟩ = some (.slice va l.length vc) := by
            rw [hP.outer.cellAt q (by omega)]; exact hv1
          obtain ⟨u0, e0⟩ := own_cell hO (j := q) (by omega)
          have f0 := hO.frozenAt q
          have hO2 := (hO.stored q (.slice va l.length vc)).1
          have hb2 := hb.setCell (p := ⟨gP, q, none⟩) (Nat.le_of_lt hs4) (.slice va l.length vc)
          have hP2 := hP.other (gb_store (World.grownBy.refl wr (some gP)) q (.slice va l.length vc)) (fun g e => by injection e with e; subst e; exact ⟨fun v hv hg => by have := hBnd v hv gP hg; omega, by omega⟩)
          have Hx2 := Lib.hid (show (xs.set q (.slice va l.length vc)).take (q + 1) = vs.take (q + 1) by
            have hxl : q < xs.length := by rw [hO.1]; omega
            rw [List.take_succ_eq_append_getElem (by simpa using hxl), List.take_succ_eq_append_getElem (by omega : q < vs.length)]
            rw [List.getElem_set_self, List.take_set_of_le (Nat.le_refl q), Hx.out]
            have : vs[q]'(by omega) = .slice va l.length vc := by
              have h := hv1
              rw [List.getElem?_eq_getElem (by omega : q < vs.length)] at h
              injection h
            rw [this])
          have HV8 := Lib.hid hv8
          clear hv hb hP hO hv1 hv8
          have hq8 : (q : Int) < 8 := by omega
          go_wp2_with fail
          go_roundw
          case rel => exact ⟨q + 1, _, by omega, by go_num, hb2, hP2, hO2, Hx2⟩
          case measure => simp [intOf]; omega
        · obtain rfl : q = M := by omega
          have hx := Hx.out
          rw [List.take_of_length_le (by rw [hO.1]; omega)] at hx
          subst hx
          have hPw : POwn wr w.heap.size (some ⟨gP, 0, none⟩) q q (vs.take q) (partsL f q rs) := by
            refine ⟨own_base' hO (Nat.le_of_lt hs4), ?_, fun v hv g hg he => ?_⟩
            · rw [← partsL_take f rs hM8]; exact hP.fam.take q
            · have := hBnd v (List.mem_of_mem_take hv) g hg
              have he' : gP = g := by injection he
              omega
          have HPw := Lib.hid hPw
          clear hPw hP hO
          go_wp2_with fail
          go_ret
          exact ⟨gP, _, rfl, hb, HPw.out⟩
end Go.Proofs.Ytpnbbedfbglekaa

namespace Go.Proofs.Ytpnbbedfbglekaa
open Go.RowKit

theorem POwn.nil (w : World) (lo : Nat) : POwn w lo none 0 0 [] [] := ⟨World.ownsRow_nil w lo _ _, Fam.nil w lo, fun v hv => by cases hv⟩
def partedB (rs : List RowV) (N : Int) : Bool := rowsOk rs && inP N
def partedS (rs : List RowV) (N : Int) : List (List RowV) := if partedB rs N = true then partsL (partF N.toNat) N.toNat rs else []
/-- What Parted returns. -/
def PartedOut (rs : List RowV) (N : Int) (w : World) (e : Ending) (w' : World) : Prop :=
  ∃ a c vs, e = .returned (.tuple #[.slice a (partedS rs N).length c, .bool (partedB rs N)]) ∧ Below w.heap.size w w' ∧ POwn w' w.heap.size a (partedS rs N).length c vs (partedS rs N)
theorem rowsOk_key {rs : List RowV} (h : rowsOk rs = true) {r : RowV} (hr : r ∈ rs) : r.key.size ≤ 12 := by
  unfold rowsOk at h
  rw [Bool.and_eq_true] at h
  have := List.all_eq_true.1 h.2 r hr
  unfold RowV.ok okB at this
  exact (of_decide_eq_true this).1
theorem rowsOk_len {rs : List RowV} (h : rowsOk rs = true) : rs.length ≤ 120 := by
  unfold rowsOk at h
  rw [Bool.and_eq_true] at h
  exact of_decide_eq_true h.1
theorem POwn.base {w : World} {lo lo' n c : Nat} {a : Option Addr} {vs : List Value} {ps : List (List RowV)} (h : POwn w lo a n c vs ps) (hl : lo' ≤ lo) : POwn w lo' a n c vs ps := ⟨own_base' h.outer hl, h.fam.base hl, h.out⟩
theorem placeP_any (B M : Nat) (r : RowV) (w : World) (hk : r.key.size ≤ 12) (hM1 : 1 ≤ M) (hM8 : M ≤ 8) (hB : w.cell? ⟨B, 0, none⟩ = some (.int .i64 M)) :
    Calls Try.prog 88 #[.string r.key, .pointer (some ⟨B, 0, none⟩)] w fun e w' => e = .returned (.int .i64 (partF M r)) ∧ w = w' := by
  have E := Lib.hid (show partOf r.key M = (partF M r : Int) by
    rw [partOf, if_pos ⟨hk, by omega, by omega⟩]; exact (partF_int (by omega) r).1)
  go_enter Try.func88, Try.ntmps88
  go_wp2_with fail
  refine (implPartOf_any r.key M _ (by unfold maxLen; omega)).mono ?_
  rintro e w1 ⟨rfl, rfl⟩
  go_wp2_with fail
  go_ret
  exact ⟨ret_int E.out, rfl⟩
set_option maxRecDepth 100000 in
set_option maxHeartbeats 1000000 in
theorem implParted_any (a : Option Addr) (n cap : Nat) (rs : List RowV) (N : Int) (w : World) (hm : n ≤ 1048576) (hok : ∀ r ∈ rs, r.Ok) (hR : Rd w w.heap.size 3 a n (flat rs)) :
    Calls Try.prog 37 #[.slice a n cap, .int .i64 N] w (PartedOut rs N w) := by
  have hb0 := bl1 w (.cells #[.int .i64 N] 2)
  have d0 : (w.alloc (.cells #[.int .i64 N] 2)).cell? ⟨w.heap.size, 0, none⟩ = some (.int .i64 N) := by simp [go_sem]
  have s0 : w.heap.size < (w.alloc (.cells #[.int .i64 N] 2)).heap.size := by simp
  have C0 := implRowsOk_any a n cap rs (w.alloc (.cells #[.int .i64 N] 2)) hm hok ((hR.below hb0 (Nat.le_refl _)).more hb0.size)
  unfold PartedOut
  cases hq : rowsOk rs
  case false =>
    rw [hq] at C0
    have E : partedB rs N = false := by unfold partedB; rw [hq]; rfl
    have E2 : partedS rs N = [] := by unfold partedS; rw [E]; rfl
    rw [E2, E]
    clear hq E E2
    go_enter Try.func37, Try.ntmps37
    go_wp2_with fail
    refine C0.mono ?_
    rintro e w1 ⟨rfl, hb1⟩
    have hb := hb0.trans (hb1.mono hb0.size)
    go_wp2_with fail
    go_ret2
    exact ⟨none, 0, [], rfl, hb, POwn.nil _ _⟩
  rw [hq] at C0
  cases hp : inP N
  case false =>
    have E : partedB rs N = false := by unfold partedB; rw [hp, Bool.and_false]
    have E2 : partedS rs N = [] := by unfold partedS; rw [E]; rfl
    rw [E2, E]
    have hp' := Lib.hid hp
    clear hq hp E E2
    go_enter Try.func37, Try.ntmps37
    go_wp2_with fail
    refine C0.mono ?_
    rintro e w1 ⟨rfl, hb1⟩
    have hb := hb0.trans (hb1.mono hb0.size)
    have d1 := (hb1.cell (p := ⟨w.heap.size, 0, none⟩) s0).trans d0
    go_wp2_with fail
    refine (partsOk_b N false _ hp'.out).mono ?_
    rintro e w2 ⟨rfl, hb2⟩
    have hb' := hb.trans (hb2.mono hb.size)
    go_wp2_with fail
    go_ret2
    exact ⟨none, 0, [], rfl, hb', POwn.nil _ _⟩
  obtain ⟨hN1, hN8⟩ : 1 ≤ N ∧ N ≤ 8 := by simpa [inP] using hp
  obtain ⟨M, rfl⟩ : ∃ M : Nat, N = (M : Int) := ⟨N.toNat, by omega⟩
  have E : partedB rs M = true := by unfold partedB; rw [hp, hq]; rfl
  have E2 : partedS rs M = partsL (partF M) M rs := by unfold partedS; rw [E]; rfl
  rw [E2, E, partsL_length]
  have hp' := Lib.hid hp
  have hq' := Lib.hid hq
  clear hq hp E E2
  go_enter Try.func37, Try.ntmps37
  go_wp2_with fail
  refine C0.mono ?_
  rintro e w1 ⟨rfl, hb1⟩
  have hb := hb0.trans (hb1.mono hb0.size)
  have d1 := (hb1.cell (p := ⟨w.heap.size, 0, none⟩) s0).trans d0
  have s1 : w.heap.size < w1.heap.size := Nat.lt_of_lt_of_le s0 hb1.size
  clear C0 hb1 d0 s0 hb0
  go_wp2_with fail
  refine (partsOk_b M true _ hp'.out).mono ?_
  rintro e w2 ⟨rfl, hb2⟩
  have hb' := hb.trans (hb2.mono hb.size)
  have d2 := (hb2.cell (p := ⟨w.heap.size, 0, none⟩) s1).trans d1
  have s2 : w.heap.size < w2.heap.size := Nat.lt_of_lt_of_le s1 hb2.size
  have C2 := dealtP_any a n cap M w.heap.size rs (partF M) w2 hm (by omega) (by omega) hok ((hR.below hb' (Nat.le_refl _)).more hb'.size) (fun r _ => (partF_int (by omega) r).2)
    (fun W r hW _ hr => placeP_any w.heap.size M r W (rowsOk_key hq'.out hr) (by omega) (by omega) ((hW.cell (p := ⟨w.heap.size, 0, none⟩) s2).trans d2))
  clear d1 hb hb2 s1
  go_wp2_with fail
  refine C2.mono ?_
  rintro e w3 ⟨g, vs, rfl, hb3, hP⟩
  have hb4 := hb'.trans (hb3.mono hb'.size)
  have hP' := hP.base hb'.size
  clear C2 hP hb3
  go_wp2_with fail
  go_ret2
  exact ⟨_, M, vs, rfl, hb4, hP'⟩
theorem partedS_le (rs : List RowV) (N : Int) : (partedS rs N).length ≤ 1048576 ∧ rowsIn (partedS rs N) ≤ 1048576 := by
  unfold partedS
  split
  · rename_i h
    unfold partedB at h
    rw [Bool.and_eq_true] at h
    have h1 := rowsOk_len h.1
    obtain ⟨hN1, hN8⟩ : 1 ≤ N ∧ N ≤ 8 := by simpa [inP] using h.2
    rw [partsL_length, rowsIn_partsL _ _ _ (fun r _ => (partF_int (by omega) r).2)]
    omega
  · simp [rowsIn]
end Go.Proofs.Ytpnbbedfbglekaa

namespace Go.Proofs.Ytpnbbedfbglekaa
open Go.RowKit
theorem partsP_yes {l : List RowV} {N : Int} (h : partedB l N = true) : partedS l N = partsL (partF N.toNat) N.toNat l := if_pos h
theorem partsP_no {l : List RowV} {N : Int} (h : partedB l N = false) : partedS l N = [] := if_neg (by rw [h]; simp)
theorem partedB_in {l : List RowV} {N : Int} (h : partedB l N = true) : 1 ≤ N ∧ N ≤ 8 := by
  unfold partedB inP at h
  simp only [Bool.and_eq_true, decide_eq_true_eq] at h
  exact h.2
theorem partsP_rows (l : List RowV) (N : Int) : rowsIn (partedS l N) ≤ l.length := by
  cases h : partedB l N
  · rw [partsP_no h]; exact Nat.zero_le _
  · have := partedB_in h
    rw [partsP_yes h, rowsIn_partsL _ _ _ (fun r _ => (partF_int (show 0 < N.toNat by omega) r).2)]; exact Nat.le_refl _
theorem partsP_len (l : List RowV) (N : Int) : (partedS l N).length ≤ 8 := by
  cases h : partedB l N
  · rw [partsP_no h]; exact Nat.zero_le _
  · have := partedB_in h
    rw [partsP_yes h, partsL_length]; omega
end Go.Proofs.Ytpnbbedfbglekaa

namespace Go.Proofs.Ytpnbbedfbglekaa
open Go.RowKit
section
variable {v W W' : World} {C : World → Prop}
theorem kStart (hC : ∀ W, Below v.heap.size v W → C W) : C v.drew ∧ Below v.heap.size v v.drew := ⟨hC _ (Below.refl _ _).drew, (Below.refl _ _).drew⟩
theorem kCall (hC : ∀ W, Below v.heap.size v W → C W) (H : Below W.heap.size W W') (G : C W ∧ Below v.heap.size v W) : C W' ∧ Below v.heap.size v W' := ⟨hC _ (G.2.trans (H.mono G.2.size)), G.2.trans (H.mono G.2.size)⟩
theorem kBelow (_hC : ∀ W, Below v.heap.size v W → C W) (G : C W ∧ Below v.heap.size v W) : Below v.heap.size v W := G.2
theorem kSize (_hC : ∀ W, Below v.heap.size v W → C W) (H : Below W.heap.size W W') (G : C W ∧ Below v.heap.size v W) : v.heap.size ≤ W'.heap.size := Nat.le_trans G.2.size H.size
theorem kAlloc {o : Obj} (hC : ∀ W, Below v.heap.size v W → C W) (G : C W ∧ Below v.heap.size v W) : C (W.alloc o) ∧ Below v.heap.size v (W.alloc o) := ⟨hC _ (G.2.alloc G.2.size _), G.2.alloc G.2.size _⟩
theorem kSwap {o o' : Obj} (hC : ∀ W, Below v.heap.size v W → C W) (hw : v.heap.size ≤ W.heap.size) (G : C (W.alloc o) ∧ Below v.heap.size v (W.alloc o)) : C (W.alloc o') ∧ Below v.heap.size v (W.alloc o') := by
  have h1 : Below W.heap.size (W.alloc o) (W.alloc o') := ⟨rfl, rfl, rfl, by simp, fun k hk => by rw [Below.heap_alloc _ _ _ hk, Below.heap_alloc _ _ _ hk]⟩
  have h2 := G.2.trans (h1.mono hw)
  exact ⟨hC _ h2, h2⟩
end
end Go.Proofs.Ytpnbbedfbglekaa

namespace Go.Proofs.Ytpnbbedfbglekaa
open Go.RowKit
/-- The part of a pair, by its key. -/
def pF (p : PairV) : Nat := partF 3 ⟨p.key, 0, ⟨#[]⟩⟩
theorem pF_of {p : PairV} (hs : p.key.size ≤ 12) : partOf p.key 3 = (pF p : Int) := by
  have := (partF_int (M := 3) (by omega) ⟨p.key, 0, ⟨#[]⟩⟩).1
  unfold pF
  rw [← this]
  exact if_pos ⟨hs, by omega, by omega⟩
theorem pF_lt (p : PairV) : pF p < 3 := (partF_int (M := 3) (by omega) ⟨p.key, 0, ⟨#[]⟩⟩).2
theorem rowsOk_part {l : List RowV} (q : RowV → Bool) (h : rowsOk l = true) : rowsOk (l.filter q) = true := by
  unfold rowsOk at h ⊢
  rw [Bool.and_eq_true] at h ⊢
  obtain ⟨h1, h2⟩ := h
  have hle := List.length_filter_le q l
  refine ⟨decide_eq_true (Nat.le_trans hle (of_decide_eq_true h1)), List.all_eq_true.2 fun r hr => List.all_eq_true.1 h2 r (List.mem_filter.1 hr).1⟩
theorem key_le {n : Int} {a b : List RowV} (ha : rowsOk a = true) (hb : rowsOk b = true) {p : PairV} (h : p ∈ l5J n a b) : p.key.size ≤ 12 := by
  rcases join_row h with ⟨r, hr, e⟩ | ⟨r, hr, e⟩
  · rw [← e]; exact rowsOk_key ha hr
  · rw [← e]; exact rowsOk_key hb hr
theorem join_of_part (n : Int) (a b : List RowV) (i : Nat) : (l5J n a b).filter (fun p => pF p == i) = l5J n (a.filter fun r => partF 3 r == i) (b.filter fun r => partF 3 r == i) :=
  join_part n (fun key => partF 3 ⟨key, 0, ⟨#[]⟩⟩ == i) a b
set_option maxRecDepth 100000 in
set_option maxHeartbeats 4000000 in
theorem walk_JoinParts (a : Option Addr) (len cap : Nat) (xs : List Value) (w : World) (hI : IsCode w a len cap xs) :
    Calls Try.prog 9 #[.slice a len cap] w fun e w' => e = .returned (.bool true) ∧ Below w.heap.size w w' := by
  have hI0 := hI.by_
  obtain ⟨hlc, hcm, _, _⟩ := hI
  go_enter Try.func9, Try.ntmps9
  go_wp2_with fail
  refine (big_any a len cap w (by omega)).mono ?_
  rintro e w0 ⟨rfl, rfl⟩
  by_cases hbig : 1048576 < len
  · have hd : decide (1048576 < len) = true := by simpa using hbig
    rw [hd]
    go_wp2_with fail
    go_ret
    exact ⟨rfl, Below.refl _ _⟩
  have hd : decide (1048576 < len) = false := by simpa using hbig
  rw [hd]
  go_wp2_with fail
  refine (drawJoinOf_any a len cap w (by omega) hI0).mono ?_
  rintro e w1 ⟨l, lb, lc, m, mb, mc, z, hll, hok, hml, hmok, rfl, hO, hP, hb⟩
  have B := hb
  clear hb
  have L := Rd.of_own hO
  have M := Rd.of_own hP
  clear hO hP
  cases hq : joinOfB l m z
  · have hS : joinOfS l m z = [] := joinOf_no hq
    have CI : ∀ w : World, Rd w w.heap.size 3 (some ⟨lb, 0, none⟩) l.length (flat l) → Rd w w.heap.size 3 (some ⟨mb, 0, none⟩) m.length (flat m) → Calls Try.prog 34 #[.slice (some ⟨lb, 0, none⟩) l.length lc, .slice (some ⟨mb, 0, none⟩) m.length mc, .int .i64 z] w (fun e w' => ∃ a c, e = .returned (.tuple #[.slice a 0 c, .bool false]) ∧ Below w.heap.size w w' ∧ w'.ownsRow w.heap.size 54 5 (.slice a 0 c) 0 (flatP [])) := fun w h h2 => by
      have := implJoinOf_any (some ⟨lb, 0, none⟩) l.length lc l (some ⟨mb, 0, none⟩) m.length mc m z w (by omega) hok h (by omega) hmok h2
      unfold PairsB at this
      rw [hS, hq] at this
      exact this
    have CS : ∀ w : World, Rd w w.heap.size 3 (some ⟨lb, 0, none⟩) l.length (flat l) → Rd w w.heap.size 3 (some ⟨mb, 0, none⟩) m.length (flat m) → Calls Try.prog 35 #[.slice (some ⟨lb, 0, none⟩) l.length lc, .slice (some ⟨mb, 0, none⟩) m.length mc, .int .i64 z] w (fun e w' => ∃ a c, e = .returned (.tuple #[.slice a 0 c, .bool false]) ∧ Below w.heap.size w w' ∧ w'.ownsRow w.heap.size 54 5 (.slice a 0 c) 0 (flatP [])) := fun w h h2 => by
      have := specJoinOf_any (some ⟨lb, 0, none⟩) l.length lc l (some ⟨mb, 0, none⟩) m.length mc m z w (by omega) hok h (by omega) hmok h2
      unfold PairsB at this
      rw [hS, hq] at this
      exact this
    clear hS hq
    go_wp2_with fail
    refine (CI w1 L M).mono ?_
    rintro e w2 ⟨pa, pc, rfl, hb, hO⟩
    replace B := B.trans (hb.mono B.size)
    replace L := (L.below hb (Nat.le_refl _)).more hb.size
    replace M := (M.below hb (Nat.le_refl _)).more hb.size
    clear hb
    have P := Rd.of_own hO
    clear hO
    go_wp2_with fail
    refine (CS w2 L M).mono ?_
    rintro e w3 ⟨qa, qc, rfl, hb, hO⟩
    replace B := B.trans (hb.mono B.size)
    replace L := (L.below hb (Nat.le_refl _)).more hb.size
    replace M := (M.below hb (Nat.le_refl _)).more hb.size
    replace P := (P.below hb (Nat.le_refl _)).more hb.size
    clear hb
    have Q := Rd.of_own hO
    clear hO
    go_wp2_with fail
    refine (samePairs_same pa qa 0 pc qc [] w3 (by omega) P Q).mono ?_
    rintro e w4 ⟨rfl, hb⟩
    replace B := B.trans (hb.mono B.size)
    replace L := (L.below hb (Nat.le_refl _)).more hb.size
    replace M := (M.below hb (Nat.le_refl _)).more hb.size
    replace P := (P.below hb (Nat.le_refl _)).more hb.size
    replace Q := (Q.below hb (Nat.le_refl _)).more hb.size
    clear hb
    go_wp2_with fail
    refine (samePairs_same pa qa 0 pc qc [] w4 (by omega) P Q).mono ?_
    rintro e w5 ⟨rfl, hb⟩
    replace B := B.trans (hb.mono B.size)
    replace L := (L.below hb (Nat.le_refl _)).more hb.size
    replace M := (M.below hb (Nat.le_refl _)).more hb.size
    replace P := (P.below hb (Nat.le_refl _)).more hb.size
    replace Q := (Q.below hb (Nat.le_refl _)).more hb.size
    clear hb
    go_wp2_with fail
    go_ret
    exact ⟨rfl, B⟩
  · obtain ⟨⟨hr1, hr2⟩, hkz⟩ : (rowsOk l = true ∧ rowsOk m = true) ∧ kindB z = true := by simpa [joinOfB, Bool.and_eq_true] using hq
    obtain ⟨nF, hnF⟩ : ∃ k, (l5J z l m).length = k := ⟨_, rfl⟩
    have e1 : joinOfS l m z = l5J z l m := joinOf_yes hq
    have hlF : nF ≤ 4194304 := by rw [← hnF]; exact l5J_le (by omega) (by omega)
    have CI : ∀ w : World, Rd w w.heap.size 3 (some ⟨lb, 0, none⟩) l.length (flat l) → Rd w w.heap.size 3 (some ⟨mb, 0, none⟩) m.length (flat m) → Calls Try.prog 34 #[.slice (some ⟨lb, 0, none⟩) l.length lc, .slice (some ⟨mb, 0, none⟩) m.length mc, .int .i64 z] w (fun e w' => ∃ a c, e = .returned (.tuple #[.slice a nF c, .bool true]) ∧ Below w.heap.size w w' ∧ w'.ownsRow w.heap.size 54 5 (.slice a nF c) nF (flatP (l5J z l m))) := fun w h h2 => by
      have := implJoinOf_any (some ⟨lb, 0, none⟩) l.length lc l (some ⟨mb, 0, none⟩) m.length mc m z w (by omega) hok h (by omega) hmok h2
      unfold PairsB at this
      rw [e1, hq, hnF] at this
      exact this
    have CS : ∀ w : World, Rd w w.heap.size 3 (some ⟨lb, 0, none⟩) l.length (flat l) → Rd w w.heap.size 3 (some ⟨mb, 0, none⟩) m.length (flat m) → Calls Try.prog 35 #[.slice (some ⟨lb, 0, none⟩) l.length lc, .slice (some ⟨mb, 0, none⟩) m.length mc, .int .i64 z] w (fun e w' => ∃ a c, e = .returned (.tuple #[.slice a nF c, .bool true]) ∧ Below w.heap.size w w' ∧ w'.ownsRow w.heap.size 54 5 (.slice a nF c) nF (flatP (l5J z l m))) := fun w h h2 => by
      have := specJoinOf_any (some ⟨lb, 0, none⟩) l.length lc l (some ⟨mb, 0, none⟩) m.length mc m z w (by omega) hok h (by omega) hmok h2
      unfold PairsB at this
      rw [e1, hq, hnF] at this
      exact this
    have HJ : ∀ (i : Nat) (b1 b2 : Option Addr) (c1 c2 : Nat) (r1 r2 : List RowV), r1 = (l.filter fun r => partF 3 r == i) → r2 = (m.filter fun r => partF 3 r == i) → ∀ w : World, Rd w w.heap.size 3 b1 r1.length (flat r1) → Rd w w.heap.size 3 b2 r2.length (flat r2) →
        Calls Try.prog 34 #[.slice b1 r1.length c1, .slice b2 r2.length c2, .int .i64 z] w (fun e w' => ∃ a c, e = .returned (.tuple #[.slice a ((l5J z l m).filter fun p => pF p == i).length c, .bool true]) ∧ Below w.heap.size w w' ∧ w'.ownsRow w.heap.size 54 5 (.slice a ((l5J z l m).filter fun p => pF p == i).length c) ((l5J z l m).filter fun p => pF p == i).length (flatP ((l5J z l m).filter fun p => pF p == i))) := fun i b1 b2 c1 c2 r1 r2 hr1' hr2' w h h2 => by
      have f1 := List.length_filter_le (fun r => partF 3 r == i) l
      have f2 := List.length_filter_le (fun r => partF 3 r == i) m
      have := implJoinOf_any b1 r1.length c1 r1 b2 r2.length c2 r2 z w (by rw [hr1']; omega) (fun r hr => by rw [hr1'] at hr; exact hok r (List.mem_filter.1 hr).1) h (by rw [hr2']; omega) (fun r hr => by rw [hr2'] at hr; exact hmok r (List.mem_filter.1 hr).1) h2
      have q2 : joinOfB r1 r2 z = true := by unfold joinOfB; rw [hr1', hr2', rowsOk_part _ hr1, rowsOk_part _ hr2, hkz]; rfl
      unfold PairsB at this
      rw [q2, joinOf_yes q2] at this
      rw [join_of_part, ← hr1', ← hr2']
      exact this
    have HPl := Lib.hid (show partedB l 3 = true by unfold partedB; rw [hr1]; rfl)
    have HPm := Lib.hid (show partedB m 3 = true by unfold partedB; rw [hr2]; rfl)
    have HSl := Lib.hid (show partedS l 3 = partsL (partF 3) 3 l from partsP_yes HPl.out)
    have HSm := Lib.hid (show partedS m 3 = partsL (partF 3) 3 m from partsP_yes HPm.out)
    have HK := Lib.hid (show ∀ p, p ∈ l5J z l m → partOf p.key 3 = (pF p : Int) ∧ p.key.size ≤ 12 from fun p h => ⟨pF_of (key_le hr1 hr2 h), key_le hr1 hr2 h⟩)
    have HN := Lib.hid (show sumParts pF (l5J z l m) 3 = nF by rw [sumParts_all fun p _ => pF_lt p, hnF])
    have HF := Lib.hid hnF
    have HL := Lib.hid (show ∀ i, ((l5J z l m).filter fun p => pF p == i).length ≤ 4194304 from fun i => Nat.le_trans (List.length_filter_le _ _) (by omega))
    clear e1 hq hnF hr1 hr2 hkz
    generalize l5J z l m = F at *
    go_wp2_with fail
    refine (CI w1 L M).mono ?_
    rintro e w2 ⟨pa, pc, rfl, hb, hO⟩
    replace B := B.trans (hb.mono B.size)
    replace L := (L.below hb (Nat.le_refl _)).more hb.size
    replace M := (M.below hb (Nat.le_refl _)).more hb.size
    clear hb
    have P := Rd.of_own hO
    clear hO
    go_wp2_with fail
    refine (CS w2 L M).mono ?_
    rintro e w3 ⟨qa, qc, rfl, hb, hO⟩
    replace B := B.trans (hb.mono B.size)
    replace L := (L.below hb (Nat.le_refl _)).more hb.size
    replace M := (M.below hb (Nat.le_refl _)).more hb.size
    replace P := (P.below hb (Nat.le_refl _)).more hb.size
    clear hb
    have Q := Rd.of_own hO
    clear hO CI CS
    go_wp2_with fail
    refine (samePairs_same pa qa nF pc qc F w3 hlF P Q).mono ?_
    rintro e w4 ⟨rfl, hb⟩
    replace B := B.trans (hb.mono B.size)
    replace L := (L.below hb (Nat.le_refl _)).more hb.size
    replace M := (M.below hb (Nat.le_refl _)).more hb.size
    replace P := (P.below hb (Nat.le_refl _)).more hb.size
    replace Q := (Q.below hb (Nat.le_refl _)).more hb.size
    clear hb
    clear Q
    have CP := implParted_any (some ⟨lb, 0, none⟩) l.length lc l 3 w4 (by omega) hok L
    unfold PartedOut at CP
    rw [HSl.out, HPl.out, partsL_length] at CP
    go_wp2_with fail
    refine (CP).mono ?_
    rintro e w5 ⟨ga, gc, gv, rfl, hb, hG⟩
    replace B := B.trans (hb.mono B.size)
    replace L := (L.below hb (Nat.le_refl _)).more hb.size
    replace M := (M.below hb (Nat.le_refl _)).more hb.size
    replace P := (P.below hb (Nat.le_refl _)).more hb.size
    clear hb
    have G := hG.rd
    clear hG
    clear L
    have CP2 := implParted_any (some ⟨mb, 0, none⟩) m.length mc m 3 w5 (by omega) hmok M
    unfold PartedOut at CP2
    rw [HSm.out, HPm.out, partsL_length] at CP2
    go_wp2_with fail
    refine (CP2).mono ?_
    rintro e w6 ⟨ha, hc, hv, rfl, hb, hH⟩
    replace B := B.trans (hb.mono B.size)
    replace M := (M.below hb (Nat.le_refl _)).more hb.size
    replace P := (P.below hb (Nat.le_refl _)).more hb.size
    replace G := (G.below hb (Nat.le_refl _)).more hb.size
    clear hb
    have H := hH.rd
    clear hH CP CP2 HSl HSm HPl HPm
    clear M
    go_wp2_with fail
    go_loopw [14, 15] (fun n i wr => ∃ (k c : Nat), k ≤ 3 ∧ i = .int .i64 k ∧ n = .int .i64 c ∧ c ≤ k * 4194304 ∧ Hid (sumParts pF F k = c) ∧ Below w6.heap.size w6 wr) (fun _ i _ => 3 - (intOf i).toNat)
    case atStart => exact ⟨0, 0, by omega, rfl, rfl, Nat.zero_le _, Lib.hid rfl, Below.refl _ _⟩
    case round =>
      obtain ⟨k, c, hk, rfl, rfl, hc3, HC, hb⟩ := hrel
      by_cases hlt : k < 3
      · obtain ⟨b1, o1, a1, c1, r1, e1, hB1, hx1, g1, R1⟩ := ((G.below hb (Nat.le_refl _)).more hb.size).at_ hlt
        subst e1
        obtain ⟨b2, o2, a2, c2, r2, e1, hB2, hx2, g2, R2⟩ := ((H.below hb (Nat.le_refl _)).more hb.size).at_ hlt
        subst e1
        have y1 : r1 = (l.filter fun r => partF 3 r == k) := by rw [partsL_get hlt] at hx1; injection hx1 with hx1; exact hx1.symm
        have y2 : r2 = (m.filter fun r => partF 3 r == k) := by rw [partsL_get hlt] at hx2; injection hx2 with hx2; exact hx2.symm
        have CJ := fun w => HJ k a1 a2 c1 c2 r1 r2 y1 y2 w
        have hN := HL.out k
        have HC2 := Lib.hid (show sumParts pF F (k + 1) = c + (F.filter fun p => pF p == k).length by rw [sumParts, HC.out])
        have HM : Hid ((F.filter fun p => pF p == k).length = (F.filter fun p => pF p == k).length) := Lib.hid rfl
        clear hx1 hx2 y1 y2 HC
        generalize hE : (F.filter fun p => pF p == k) = E at CJ hN HC2 HM
        have HE := Lib.hid hE
        clear hE HM
        generalize hlE : E.length = nE at CJ hN HC2
        have HLE := Lib.hid hlE
        clear hlE
        have hB1' := hB1
        have hB2' := hB2
        go_wp2_with fail
        have HS3 := Lib.hid (show ∀ W, Below wr.heap.size wr W → W.cell? ⟨b1, o1 + k, none⟩ = some (.slice a1 r1.length c1) ∧ W.cell? ⟨b2, o2 + k, none⟩ = some (.slice a2 r2.length c2) from fun W hW => ⟨(hW.cell (p := ⟨b1, o1 + k, none⟩) hB1').trans g1, (hW.cell (p := ⟨b2, o2 + k, none⟩) hB2').trans g2⟩)
        go_region_held3 (fun w' => (w'.cell? ⟨b1, o1 + k, none⟩ = some (.slice a1 r1.length c1) ∧ w'.cell? ⟨b2, o2 + k, none⟩ = some (.slice a2 r2.length c2)) ∧ Below wr.heap.size wr w') (first | exact kStart HS3.out | exact kCall HS3.out hb' (by assumption))
          (first | (go_at_call 34; refine (CJ _ ((R1.below (kBelow HS3.out (by assumption)) (Nat.le_refl _)).more (kBelow HS3.out (by assumption)).size) ((R2.below (kBelow HS3.out (by assumption)) (Nat.le_refl _)).more (kBelow HS3.out (by assumption)).size)).mono ?_; rintro e w9 ⟨x9, c9, rfl, hb', hO9⟩))
        all_goals (
          have hH := (show (_ ∧ _) ∧ Below wr.heap.size wr w9 by assumption).2
          have H9 := hb.trans (hH.mono hb.size)
          have X := Rd.of_own hO9
          clear hO9 hb' HS3 hH g1 g2 R1 R2 CJ hB1 hB2 hB1' hB2' hb
          go_wp2_with fail
          go_loopw [18, 19] (fun q i wx => ∃ (j d : Nat), j ≤ nF ∧ i = .int .i64 j ∧ q = .int .i64 d ∧ d ≤ j ∧ Hid (inTo (fun p => pF p == k) F j = d) ∧ Below w9.heap.size w9 wx) (fun _ i _ => nF - (intOf i).toNat)
          case atStart => exact ⟨0, 0, Nat.zero_le _, rfl, rfl, Nat.le_refl _, Lib.hid rfl, Below.refl _ _⟩
          case round =>
            obtain ⟨j, d, hj, rfl, rfl, hdj, HD, hb⟩ := hrel
            by_cases hlj : j < nF
            · have H8 := H9.trans (hb.mono H9.size)
              obtain ⟨b3, o3, p, rfl, hB3, hp, c0, c1, c2, c3, c4⟩ := (P.below H8 (Nat.le_refl _)).pair hlj
              obtain ⟨hk1, hk2⟩ := HK.out p (List.mem_of_getElem? hp)
              have CPO : ∀ w : World, Calls Try.prog 38 #[.string p.key, .int .i64 3] w (fun e w' => e = .returned (.int .i64 (pF p)) ∧ w = w') := fun w => by
                have := implPartOf_any p.key 3 w (by unfold maxLen; omega)
                rw [hk1] at this
                exact this
              clear H8 hk1 hk2
              by_cases hfk : pF p = k
              · have hq : (fun p => pF p == k) p = true := by simpa using hfk
                have HD2 := Lib.hid (show inTo (fun p => pF p == k) F (j + 1) = d + 1 by rw [inTo_yes (q := fun p => pF p == k) hp hq, HD.out])
                have hat := inTo_at (q := fun p => pF p == k) hp hq
                rw [HE.out, HD.out] at hat
                have hdn : d < nE := by rw [← HLE.out]; exact (List.getElem?_eq_some_iff.1 hat).1
                obtain ⟨b4, o4, y, rfl, hB4, hy, d0, d1, d2, d3, d4⟩ := (X.below hb (Nat.le_refl _)).pair hdn
                obtain rfl : p = y := by rw [hat] at hy; injection hy
                have hcn1 : ((d : Int) == (nE : Int)) = false := by rw [beq_eq_false_iff_ne]; omega
                have hcn2 : (d == nE) = false := by rw [beq_eq_false_iff_ne]; omega
                rw [hfk] at CPO
                have hne := pair_neq p
                obtain ⟨pk, pl, pr, ph, pi⟩ := p
                clear hp hy hat hq hfk HD
                simp only at CPO c0 c1 c2 c3 c4 d0 d1 d2 d3 d4 hne
                go_wp2_with fail
                refine (CPO _).mono ?_
                rintro e wz ⟨rfl, rfl⟩
                clear CPO
                go_wp2_with fail
                go_quiet (fail)
                have hb1 := hb.trans ((show Below wr.heap.size wr (wr.drewN nq) from below_drewN (Below.refl _ _) nq).mono hb.size)
                generalize wr.drewN nq = w1 at *
                clear c0 c1 c2 c3 c4 d0 d1 d2 d3 d4 hb hne
                go_wp2_with fail
                go_roundw
                case rel => exact ⟨j + 1, d + 1, by omega, by go_num, by go_num, by omega, HD2, hb1⟩
                case measure => simp [intOf]; omega
              · have hq : (fun p => pF p == k) p = false := by rw [beq_eq_false_iff_ne]; exact hfk
                have HD2 := Lib.hid (show inTo (fun p => pF p == k) F (j + 1) = d by rw [inTo_no (q := fun p => pF p == k) hp hq, HD.out])
                have hfi : ((pF p : Int) != (k : Int)) = true := by simp; omega
                generalize pF p = f at CPO hfi
                obtain ⟨pk, pl, pr, ph, pi⟩ := p
                clear hp hq hfk HD c1 c2 c3 c4
                simp only at CPO c0
                go_wp2_with fail
                refine (CPO _).mono ?_
                rintro e wz ⟨rfl, rfl⟩
                clear CPO
                go_wp2_with fail
                go_roundw
                case rel => exact ⟨j + 1, d, by omega, by go_num, rfl, by omega, HD2, hb⟩
                case measure => simp [intOf]; omega
            · have H8 := H9.trans (hb.mono H9.size)
              go_wp2_with fail
              go_roundw
              case rel => exact ⟨k + 1, c + nE, by omega, by go_num, by go_num, by omega, HC2, H8⟩
              case measure => simp [intOf]; omega)
      · obtain rfl : k = 3 := by omega
        obtain rfl : c = nF := by rw [← HC.out, HN.out]
        have B2 := B.trans (hb.mono B.size)
        go_wp2_with fail
        go_ret
        exact ⟨rfl, B2⟩
end Go.Proofs.Ytpnbbedfbglekaa

namespace Go.Proofs.Ytpnbbedfbglekaa
open Go.ChangeShapes Go.WideShapes Go.ChangeAt Go.RowKit Go.Joins
open Go.ChangeMaps (open_string shut_string)
namespace JoinParts

set_option maxRecDepth 100000 in
theorem lifted (os : Os) (started : os.Started) (H : Type) (enc : TypeId × Value → H) :
    ReturnsInHanded {} Try.checked os 9 .any (Rows.fnJoinPartsSpec.pre6 enc Try.prog Try.f9 Rows.fnJoinPartsRow.domain false) (Rows.fnJoinPartsSpec.post enc Try.prog Try.f9 false true false false) := by
  refine returnsInHanded_of_change (C := Try.checked) own started (by kernel_rfl) Try.func9
    (ChangeSpec.witness6 (enc := enc) (C := Try.checked) false ⟨#[], #[.slice none 0 0], []⟩ 8 (by kernel_rfl) (by kernel_rfl) (by kernel_rfl) (by kernel_rfl)) ?_
  intro W base args ds gs before hval0 hW _ _
  have hval : ∀ (j : Nat) t v, Try.f9.params[j]? = some t → args[j]? = some v → Value.okWide Try.prog W .any base t v := hval0
  have hW' := hW
  obtain ⟨p, q, hA0, hV, rfl, _, _⟩ := hW
  have hA : DataW.TrodAll enc Try.prog W 0 (fun _ => true) true Try.f9.params.toList args.toList ds p := hA0
  rw [Try.params9] at hA hval
  obtain ⟨v0, vs0, d0, ds0, p0, q0, hargs, rfl, rfl, h0, r0⟩ := trodAll_cons hA
  obtain ⟨rfl, rfl, rfl⟩ := trodAll_nil r0
  obtain rfl : args = #[v0] := by cases args; simp_all
  obtain ⟨rfl, rfl⟩ := trodVars_none hV
  have k0 := h0
  have lt0 : ∀ x ∈ p0, x.block < W.heap.size := by obtain ⟨m, hm⟩ := k0; exact DataW.trod_lt m _ _ _ hm
  obtain ⟨a0, len0, cap0, z0, rfl, w0⟩ := open_Bytes (hval 0 41 v0 rfl rfl) h0
  clear hA0 hval0
  refine (walk_JoinParts a0 len0 cap0 z0 W w0).mono fun e W' ⟨he, bel⟩ => ?_
  subst he
  exact ⟨_, rfl, _, _, _, [], _, [], hW', trodAll_mk1 (shut_bool Try.underlying4 _), (trodAll_cons_mk (Below.trod laidOut (by kernel_rfl) (of_decide_eq_true (by kernel_rfl)) k0 bel lt0) trodAll_mk0), rfl, bel.frame _, fun h => by cases h⟩

theorem over : Rows.fnJoinPartsRow.holds Try.pinned (OpenSpec.ofChange Rows.fnJoinPartsSpec) :=
  OpenClaim.holds_of_wide 9 Try.f9 rfl rfl rfl rfl rfl rfl rfl ⟨rfl, rfl, rfl, rfl, rfl⟩ rfl rfl rfl rfl rfl (by kernel_rfl) Try.func9 (by kernel_rfl)
    (of_decide_eq_true (by kernel_rfl)) (by unfold Func.isWrapper; first | (rw [if_pos (by decide +kernel)]; kernel_rfl) | (rw [if_neg (by decide +kernel)]; exact ⟨rfl, rfl⟩))
    (fun os started H enc _ => lifted os started H enc)
end JoinParts
theorem fnJoinParts_holds : Rows.FnJoinPartsSaid := JoinParts.over
end Go.Proofs.Ytpnbbedfbglekaa
