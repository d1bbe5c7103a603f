/-
  Rows.FnChainTurnedSaid: laws.FnChainTurned returns true for every input, and each argument reads afterwards as it read before. No conditions.
-/
import Derived.Test.YtjepmcepgoncnaaDrawJoin
import Derived.Test.YtjepmcepgoncnaaJoinFns
import Derived.Test.YtjepmcepgoncnaaStepOne
import Derived.Test.YtjepmcepgoncnaaCollect
import Derived.Maps.AppendAt
import Derived.Test.YtjepmcepgoncnaaOpenBytes
import Derived.Test.YtjepmcepgoncnaaOpen
namespace Go.Proofs.Ytjepmcepgoncnaa
open Go.RowKit
def ThreeOut (w : World) (e : Ending) (w' : World) : Prop := ∃ (l : List RowV) (b c : Nat) (m : List RowV) (d f : Nat) (k : List RowV) (g h : Nat), l.length ≤ 5 ∧ (∀ r ∈ l, r.Ok) ∧ m.length ≤ 5 ∧ (∀ r ∈ m, r.Ok) ∧ k.length ≤ 5 ∧ (∀ r ∈ k, r.Ok) ∧
      e = .returned (.tuple #[.slice (some ⟨b, 0, none⟩) l.length c, .slice (some ⟨d, 0, none⟩) m.length f, .slice (some ⟨g, 0, none⟩) k.length h]) ∧ w'.ownsRow w.heap.size 77 3 (.slice (some ⟨b, 0, none⟩) l.length c) l.length (flat l) ∧ w'.ownsRow w.heap.size 77 3 (.slice (some ⟨d, 0, none⟩) m.length f) m.length (flat m) ∧ w'.ownsRow w.heap.size 77 3 (.slice (some ⟨g, 0, none⟩) k.length h) k.length (flat k) ∧ Below w.heap.size w w'
set_option maxRecDepth 100000 in
theorem drawCogrouped_any (a : Option Addr) (len cap : Nat) (w : World) (hl : len ≤ 1048576) (h : IsBy w w.heap.size a len) :
    Calls Try.prog 88 #[.slice a len cap] w (ThreeOut w) := by
  unfold ThreeOut
  go_enter Try.func88, Try.ntmps88
  go_wp2_with fail
  refine (l1Open_any a len cap w hl h).mono ?_
  rintro e w1 ⟨rfl, hR1, hb1⟩
  have hlt := hR1.lt
  go_wp2_with fail
  refine (rows_lit w.heap.size len 5 _ _ hR1 (by omega) (by omega) (by omega)).mono ?_
  rintro e w2 ⟨l, b, c, hll, hok, rfl, hO, hD⟩
  have hlt2 := hD.rdr.lt
  go_wp2_with fail
  refine (rows_lit w.heap.size len 5 _ _ hD.rdr (by omega) (by omega) (by omega)).mono ?_
  rintro e w3 ⟨m, d, f, hml, hmok, rfl, hP, hD2⟩
  have O3 := hD2.own hO hlt
  have D3 := hD.trans hD2
  have hlt3 := D3.rdr.lt
  go_wp2_with fail
  refine (rows_lit w.heap.size len 5 _ _ D3.rdr (by omega) (by omega) (by omega)).mono ?_
  rintro e w4 ⟨k, g, i, hkl, hkok, rfl, hQ, hD3⟩
  have O4 := hD3.own O3 hlt
  have P4 := hD3.own hP hlt2
  have hb4 := below_drew hb1 (D3.trans hD3)
  have hws1 : w.heap.size ≤ w1.heap.size := hb1.size
  have hws2 : w.heap.size ≤ w2.heap.size := Nat.le_trans hws1 hD.size
  have hws3 : w.heap.size ≤ w3.heap.size := Nat.le_trans hws1 D3.size
  clear hO O3 hP hD hD2 D3 hD3
  go_wp2_with fail
  refine bodyPost_ret (v := .tuple #[.slice (some ⟨b, 0, none⟩) l.length c, .slice (some ⟨d, 0, none⟩) m.length f, .slice (some ⟨g, 0, none⟩) k.length i]) ?_ rfl ⟨l, b, c, m, d, f, k, g, i, hll, hok, hml, hmok, hkl, hkok, rfl, own_base' O4 hws1, own_base' P4 hws2, own_base' hQ hws3, hb4⟩
  simp [results, Try.results88, go_sem]
set_option maxRecDepth 100000 in
theorem drawChained_any (a : Option Addr) (len cap : Nat) (w : World) (hl : len ≤ 1048576) (h : IsBy w w.heap.size a len) :
    Calls Try.prog 41 #[.slice a len cap] w (ThreeOut w) := by
  have C := drawCogrouped_any a len cap w hl h
  unfold ThreeOut at *
  go_enter Try.func41, Try.ntmps41
  go_wp2_with fail
  refine C.mono ?_
  clear C
  rintro e w1 ⟨l, b, c, m, d, f, k, g, i, hll, hok, hml, hmok, hkl, hkok, rfl, O, P, Q, hb⟩
  go_wp2_with fail
  refine bodyPost_ret (v := .tuple #[.slice (some ⟨b, 0, none⟩) l.length c, .slice (some ⟨d, 0, none⟩) m.length f, .slice (some ⟨g, 0, none⟩) k.length i]) ?_ rfl ⟨l, b, c, m, d, f, k, g, i, hll, hok, hml, hmok, hkl, hkok, rfl, O, P, Q, hb⟩
  simp [results, Try.results41, go_sem]
set_option maxRecDepth 100000 in
theorem drawSkewed_any (a : Option Addr) (len cap : Nat) (w : World) (hl : len ≤ 1048576) (h : IsBy w w.heap.size a len) :
    Calls Try.prog 39 #[.slice a len cap] w fun e w' => ∃ (l : List RowV) (b c : Nat) (z : Int), l.length ≤ 12 ∧ (∀ r ∈ l, r.Ok) ∧ -9223372036854775808 ≤ z ∧ z ≤ 9223372036854775807 ∧
      e = .returned (.tuple #[.slice (some ⟨b, 0, none⟩) l.length c, .int .i64 z]) ∧ w'.ownsRow w.heap.size 77 3 (.slice (some ⟨b, 0, none⟩) l.length c) l.length (flat l) ∧ Below w.heap.size w w' := by
  go_enter Try.func39, Try.ntmps39
  go_wp2_with fail
  refine (l1Open_any a len cap w hl h).mono ?_
  rintro e w1 ⟨rfl, hR1, hb1⟩
  have hlt := hR1.lt
  go_wp2_with fail
  refine (rows_lit w.heap.size len 12 _ _ hR1 (by omega) (by omega) (by omega)).mono ?_
  rintro e w2 ⟨l, b, c, hll, hok, rfl, hO, hD⟩
  have hlt2 := hD.rdr.lt
  go_wp2_with fail
  refine (off_any w.heap.size len 0 4 _ hD.rdr (by omega) (by omega) (by omega)).mono ?_
  rintro e w3 ⟨z, hz0, hz1, rfl, hD2⟩
  have O3 := hD2.own hO hlt
  have hb3 := below_drew hb1 (hD.trans hD2)
  have hws1 : w.heap.size ≤ w1.heap.size := hb1.size
  clear hO hD hD2
  go_wp2_with fail
  refine bodyPost_ret (v := .tuple #[.slice (some ⟨b, 0, none⟩) l.length c, .int .i64 z]) ?_ rfl ⟨l, b, c, z, hll, hok, hz0, hz1, rfl, own_base' O3 hws1, hb3⟩
  simp [results, Try.results39, go_sem]
end Go.Proofs.Ytjepmcepgoncnaa

namespace Go.Proofs.Ytjepmcepgoncnaa
open Go.RowKit
theorem rows_by_keys {g : ByteArray → List ByteArray → List PairV} (hg : ∀ k v, (g k v).length = v.length) : ∀ (K : List ByteArray) (l : List RowV), Rising K → (∀ r ∈ l, r.key ∈ K) → (K.flatMap fun k => g k (valsK l k)).length = l.length
  | [], l, _, h => by
    have : l = [] := List.eq_nil_iff_forall_not_mem.2 fun r hr => by have := h r hr; cases this
    subst this
    rfl
  | x :: K, l, hK, h => by
    obtain ⟨k1, k2⟩ := List.pairwise_cons.1 hK
    have hxK : x ∉ K := fun h => by have := k1 x h; rw [bl_irrefl] at this; cases this
    have ih := rows_by_keys hg K (l.filter fun r => !isKey x r) k2 (fun r hr => by
      rw [List.mem_filter] at hr
      refine (List.mem_cons.1 (h r hr.1)).resolve_left fun e => ?_
      rw [isKey_iff.2 e] at hr
      simp at hr)
    have e : (K.flatMap fun k => g k (valsK l k)) = K.flatMap fun k => g k (valsK (l.filter fun r => !isKey x r) k) := flatMap_congr' fun y hy => by
      have hne : y ≠ x := fun e => hxK (e ▸ hy)
      rw [valsK_rest hne]
    rw [List.flatMap_cons, List.length_append, e, ih, hg]
    unfold valsK
    rw [List.length_map]
    have : ∀ l : List RowV, (l.filter (isKey x)).length + (l.filter fun r => !isKey x r).length = l.length := by
      intro l
      induction l with
      | nil => rfl
      | cons r l ih2 => cases hr : isKey x r <;> simp [hr] <;> omega
    exact this l
theorem flatMap_len_le {α β γ : Type} {f : α → List β} {g : α → List γ} : ∀ {l : List α}, (∀ x ∈ l, (f x).length ≤ (g x).length) → (l.flatMap f).length ≤ (l.flatMap g).length
  | [], _ => by simp
  | x :: l, h => by
    have ih := flatMap_len_le (l := l) fun y hy => h y (List.mem_cons_of_mem _ hy)
    have := h x (List.mem_cons_self)
    rw [List.flatMap_cons, List.flatMap_cons, List.length_append, List.length_append]
    omega
theorem keys_all (a b : List RowV) : Rising (keysOf (sortL (a ++ b))) ∧ ∀ x, x ∈ keysOf (sortL (a ++ b)) ↔ (∃ r ∈ a, r.key = x) ∨ ∃ r ∈ b, r.key = x := by
  refine ⟨keysOf_rising (asc_keys (sortL_asc _)), fun x => ?_⟩
  rw [keysOf_mem]
  constructor
  · rintro ⟨r, hr, e⟩
    rw [(sortL_perm' _).mem_iff, List.mem_append] at hr
    rcases hr with hr | hr
    · exact .inl ⟨r, hr, e⟩
    · exact .inr ⟨r, hr, e⟩
  · rintro (⟨r, hr, e⟩ | ⟨r, hr, e⟩)
    · exact ⟨r, by rw [(sortL_perm' _).mem_iff, List.mem_append]; exact .inl hr, e⟩
    · exact ⟨r, by rw [(sortL_perm' _).mem_iff, List.mem_append]; exact .inr hr, e⟩
theorem keys_left (a b : List RowV) : ∀ r ∈ sortL a, r.key ∈ keysOf (sortL (a ++ b)) := fun r hr => ((keys_all a b).2 r.key).2 (.inl ⟨r, (sortL_perm' a).mem_iff.1 hr, rfl⟩)
/-- A row of the left side alone, for each. -/
def lonelyL (a b : List RowV) : List PairV := (keysOf (sortL (a ++ b))).flatMap fun key => (valsK (sortL a) key).map (leftP key)
theorem lonelyL_length (a b : List RowV) : (lonelyL a b).length = a.length := by
  have := rows_by_keys (g := fun k v => v.map (leftP k)) (by simp) (keysOf (sortL (a ++ b))) (sortL a) (keys_all a b).1 (keys_left a b)
  rw [sortL_length] at this
  exact this
theorem valsK_nil (key : ByteArray) : valsK (sortL []) key = [] := rfl
theorem flatMap_one {α β : Type} (f : α → β) (l : List α) : (l.flatMap fun x => [f x]) = l.map f := by
  induction l with
  | nil => rfl
  | cons x l ih => rw [List.flatMap_cons, ih]; rfl
theorem none_left {n : Int} (hn : n = 2 ∨ n = 4 ∨ n = 6) (a : List RowV) : l5J n a [] = lonelyL a [] := by
  unfold l5J lonelyL
  refine flatMap_congr' fun key _ => ?_
  rw [valsK_nil]
  rcases hn with rfl | rfl | rfl <;> simp [oneK, leftP, flatMap_one]
theorem none_none {n : Int} (hn : n = 1 ∨ n = 3 ∨ n = 5) (a : List RowV) : l5J n a [] = [] := by
  unfold l5J
  rw [List.flatMap_eq_nil_iff]
  intro key _
  rw [valsK_nil]
  rcases hn with rfl | rfl | rfl <;> simp [oneK]
theorem self_semi (a : List RowV) : l5J 5 a a = lonelyL a a := by
  unfold l5J lonelyL
  refine flatMap_congr' fun key _ => ?_
  cases h : valsK (sortL a) key with
  | nil => simp [oneK]
  | cons x l => simp [oneK, leftP, flatMap_one]
theorem self_anti (a : List RowV) : l5J 6 a a = [] := by
  unfold l5J
  rw [List.flatMap_eq_nil_iff]
  intro key _
  cases h : valsK (sortL a) key with
  | nil => simp [oneK]
  | cons x l => simp [oneK]
theorem self_full (a : List RowV) : l5J 4 a a = l5J 1 a a := by
  unfold l5J
  refine flatMap_congr' fun key _ => ?_
  cases h : valsK (sortL a) key with
  | nil => simp [oneK]
  | cons x l => simp [oneK]
theorem self_many (a : List RowV) : a.length ≤ (l5J 1 a a).length := by
  rw [← lonelyL_length a a]
  unfold l5J lonelyL
  refine flatMap_len_le fun key _ => ?_
  rw [List.length_map]
  generalize valsK (sortL a) key = v
  have h : ∀ u : List ByteArray, 0 < v.length → u.length ≤ (u.flatMap fun x => v.map fun y => (⟨key, x, y, true, true⟩ : PairV)).length := by
    intro u hv
    induction u with
    | nil => simp
    | cons x u ih =>
      rw [List.flatMap_cons, List.length_append, List.length_map, List.length_cons]
      omega
  rcases Nat.eq_zero_or_pos v.length with h0 | h0
  · omega
  · have := h v h0
    simpa [oneK] using this
end Go.Proofs.Ytjepmcepgoncnaa

namespace Go.Proofs.Ytjepmcepgoncnaa
open Go.RowKit
theorem flatMap_none {α β : Type} (l : List α) : (l.flatMap fun _ => ([] : List β)) = [] := by
  induction l with
  | nil => rfl
  | cons x l ih => rw [List.flatMap_cons, ih]; rfl
theorem filter_map_none {α β : Type} {q : β → Bool} {f : α → β} (h : ∀ x, q (f x) = false) (l : List α) : (l.map f).filter q = [] := by
  rw [List.filter_eq_nil_iff]
  intro x hx
  obtain ⟨y, _, rfl⟩ := List.mem_map.1 hx
  rw [h]; decide
theorem one_semi {key : ByteArray} {a b : List ByteArray} {p : PairV} (h : p ∈ oneK 5 key a b) : p.key = key ∧ b ≠ [] := by
  cases b with
  | nil => simp [oneK] at h
  | cons y b =>
    refine ⟨?_, by simp⟩
    simp [oneK] at h
    obtain ⟨x, _, rfl⟩ := h
    rfl
theorem one_anti {key : ByteArray} {a b : List ByteArray} {p : PairV} (h : p ∈ oneK 6 key a b) : p.key = key ∧ b = [] := by
  cases b with
  | nil =>
    refine ⟨?_, rfl⟩
    simp [oneK] at h
    obtain ⟨x, _, rfl⟩ := h
    rfl
  | cons y b => simp [oneK] at h
theorem semi_anti_keys {a b : List RowV} {p q : PairV} (hp : p ∈ l5J 5 a b) (hq : q ∈ l5J 6 a b) : (p.key.toList == q.key.toList) = false := by
  unfold l5J at hp hq
  obtain ⟨k, _, hk⟩ := List.mem_flatMap.1 hp
  obtain ⟨m, _, hm⟩ := List.mem_flatMap.1 hq
  obtain ⟨e1, h1⟩ := one_semi hk
  obtain ⟨e2, h2⟩ := one_anti hm
  rw [beq_eq_false_iff_ne]
  intro e
  have := ext_toList e
  rw [e1, e2] at this
  rw [this] at h1
  exact h1 h2
theorem flatMap_two {α β γ δ : Type} {f : α → List β} {g : α → List γ} {h : α → List δ} (hh : ∀ x, (f x).length + (g x).length = (h x).length) : ∀ l : List α, (l.flatMap f).length + (l.flatMap g).length = (l.flatMap h).length
  | [] => by simp
  | x :: l => by
    have ih := flatMap_two hh l
    have := hh x
    rw [List.flatMap_cons, List.flatMap_cons, List.flatMap_cons, List.length_append, List.length_append, List.length_append]
    omega
theorem semi_anti_length (a b : List RowV) : (l5J 5 a b).length + (l5J 6 a b).length = a.length := by
  rw [← lonelyL_length a b]
  unfold l5J lonelyL
  refine flatMap_two (fun key => ?_) _
  cases valsK (sortL b) key with
  | nil =>
    have e1 : oneK 5 key (valsK (sortL a) key) [] = [] := by simp only [oneK]; simp [flatMap_none]
    have e2 : oneK 6 key (valsK (sortL a) key) [] = (valsK (sortL a) key).map (leftP key) := by simp only [oneK]; simp [flatMap_one, leftP]
    rw [e1, e2]; simp
  | cons y l =>
    have e1 : oneK 6 key (valsK (sortL a) key) (y :: l) = [] := by simp only [oneK]; simp [flatMap_none]
    have e2 : oneK 5 key (valsK (sortL a) key) (y :: l) = (valsK (sortL a) key).map (leftP key) := by simp only [oneK]; simp [flatMap_one, leftP]
    rw [e1, e2]; simp
theorem one_left {key : ByteArray} (a b : List ByteArray) : (oneK 2 key a b).filter (fun p => !p.hr) = oneK 6 key a b := by
  cases b with
  | nil =>
    simp only [oneK]
    simp [flatMap_one]
  | cons y b =>
    have e2 : oneK 6 key a (y :: b) = [] := by simp only [oneK]; simp [flatMap_none]
    have e1 : oneK 2 key a (y :: b) = a.flatMap fun x => (y :: b).map (bothP key x) := by simp only [oneK]; simp; rfl
    rw [e1, e2, List.filter_flatMap]
    have : ∀ x, ((y :: b).map (bothP key x)).filter (fun p => !p.hr) = [] := fun x => filter_map_none (fun _ => rfl) _
    simp only [this]
    exact flatMap_none a
theorem left_anti (a b : List RowV) : (l5J 2 a b).filter (fun p => !p.hr) = l5J 6 a b := by
  unfold l5J
  rw [List.filter_flatMap]
  exact flatMap_congr' fun key _ => one_left _ _
/-- How many of the first i are left alone. -/
def aloneN (l : List PairV) (i : Nat) : Nat := (l.take i).countP fun p => !p.hr
theorem aloneN_zero (l : List PairV) : aloneN l 0 = 0 := rfl
theorem aloneN_yes {l : List PairV} {i : Nat} {p : PairV} (h : l[i]? = some p) (hr : p.hr = false) : aloneN l (i + 1) = aloneN l i + 1 := by
  unfold aloneN
  rw [List.take_add_one, h, Option.toList_some, List.countP_append]
  simp [hr]
theorem aloneN_no {l : List PairV} {i : Nat} {p : PairV} (h : l[i]? = some p) (hr : p.hr = true) : aloneN l (i + 1) = aloneN l i := by
  unfold aloneN
  rw [List.take_add_one, h, Option.toList_some, List.countP_append]
  simp [hr]
theorem alone_at {l : List PairV} {i : Nat} {p : PairV} (h : l[i]? = some p) (hr : p.hr = false) : (l.filter fun p => !p.hr)[aloneN l i]? = some p := by
  obtain ⟨hi, e⟩ := List.getElem?_eq_some_iff.1 h
  have hs : l = l.take i ++ p :: l.drop (i + 1) := by
    rw [← e, ← List.drop_eq_getElem_cons hi, List.take_append_drop]
  unfold aloneN
  rw [List.countP_eq_length_filter]
  have e2 : (l.filter fun p => !p.hr) = ((l.take i).filter fun p => !p.hr) ++ p :: ((l.drop (i + 1)).filter fun p => !p.hr) := by
    have e3 := congrArg (List.filter fun p : PairV => !p.hr) hs
    rw [List.filter_append, List.filter_cons_of_pos (by simp [hr])] at e3
    exact e3
  rw [e2, List.getElem?_append_right (Nat.le_refl _), Nat.sub_self]
  rfl
theorem aloneN_all {l : List PairV} {i : Nat} (h : l.length ≤ i) : aloneN l i = (l.filter fun p => !p.hr).length := by
  unfold aloneN
  rw [List.take_of_length_le h, List.countP_eq_length_filter]
theorem aloneN_le (l : List PairV) (i : Nat) : aloneN l i ≤ i := by
  unfold aloneN
  have := List.countP_le_length (p := fun p : PairV => !p.hr) (l := l.take i)
  rw [List.length_take] at this
  omega
end Go.Proofs.Ytjepmcepgoncnaa

namespace Go.Proofs.Ytjepmcepgoncnaa
open Go.RowKit
theorem rising_sublist : ∀ {K L : List ByteArray}, Rising K → Rising L → (∀ x ∈ K, x ∈ L) → K.Sublist L
  | [], L, _, _, _ => List.nil_sublist L
  | k :: K, [], _, _, h => by have := h k (List.mem_cons_self); cases this
  | k :: K, y :: L, hK, hL, h => by
    obtain ⟨k1, k2⟩ := List.pairwise_cons.1 hK
    obtain ⟨l1, l2⟩ := List.pairwise_cons.1 hL
    by_cases e : k = y
    · subst e
      refine List.Sublist.cons_cons _ (rising_sublist k2 l2 fun x hx => ?_)
      refine (List.mem_cons.1 (h x (List.mem_cons_of_mem _ hx))).resolve_left fun e => ?_
      subst e
      have := k1 x hx
      rw [bl_irrefl] at this; cases this
    · refine List.Sublist.cons _ (rising_sublist hK l2 fun x hx => ?_)
      refine (List.mem_cons.1 (h x hx)).resolve_left fun e2 => ?_
      subst e2
      have hk : k ∈ L := (List.mem_cons.1 (h k (List.mem_cons_self))).resolve_left e
      have h1 := l1 k hk
      rcases List.mem_cons.1 hx with e3 | hx
      · exact e e3.symm
      · have h2 := k1 x hx
        rw [bl_asymm h1] at h2; cases h2
theorem flatMap_sub {α β : Type} {f g : α → List β} (h : ∀ x, (f x).Sublist (g x)) : ∀ l : List α, (l.flatMap f).Sublist (l.flatMap g)
  | [] => List.Sublist.refl _
  | x :: l => by
    rw [List.flatMap_cons, List.flatMap_cons]
    exact (h x).append (flatMap_sub h l)
theorem sub_flatMap {α β : Type} (f : α → List β) : ∀ {k l : List α}, k.Sublist l → (k.flatMap f).Sublist (l.flatMap f)
  | _, _, .slnil => List.Sublist.refl _
  | _, _, .cons x h => by
    rw [List.flatMap_cons]
    exact (sub_flatMap f h).trans (List.sublist_append_right _ _)
  | _, _, .cons_cons x h => by
    rw [List.flatMap_cons, List.flatMap_cons]
    exact (List.Sublist.refl _).append (sub_flatMap f h)
theorem ins_sub (r : RowV) (l : List RowV) : l.Sublist (ins r l) := by
  unfold ins
  have h : (l.take (insPos r l) ++ l.drop (insPos r l)).Sublist (l.take (insPos r l) ++ [r] ++ l.drop (insPos r l)) :=
    (List.sublist_append_left _ _).append (List.Sublist.refl _)
  rwa [List.take_append_drop] at h
theorem vals_sub (b : List RowV) (r : RowV) (key : ByteArray) : (valsK (sortL b) key).Sublist (valsK (sortL (b ++ [r])) key) := by
  rw [sortL_snoc]
  unfold valsK
  exact ((ins_sub r (sortL b)).filter _).map _
theorem keys_sub (a b : List RowV) (r : RowV) : (keysOf (sortL (a ++ b))).Sublist (keysOf (sortL (a ++ (b ++ [r])))) := by
  refine rising_sublist (keys_all a b).1 (keys_all a (b ++ [r])).1 fun x hx => ?_
  rw [(keys_all a (b ++ [r])).2]
  rcases ((keys_all a b).2 x).1 hx with h | ⟨q, hq, e⟩
  · exact .inl h
  · exact .inr ⟨q, List.mem_append_left _ hq, e⟩
theorem join_sub {n : Int} (hn : ∀ key (v u u' : List ByteArray), u.Sublist u' → (oneK n key v u).Sublist (oneK n key v u')) (a b : List RowV) (r : RowV) : (l5J n a b).Sublist (l5J n a (b ++ [r])) := by
  unfold l5J
  exact (sub_flatMap _ (keys_sub a b r)).trans (flatMap_sub (fun key => hn key _ _ _ (vals_sub b r key)) _)
theorem one_inner (key : ByteArray) (v u : List ByteArray) : oneK 1 key v u = v.flatMap fun x => u.map (bothP key x) := by
  simp only [oneK]; simp; rfl
theorem one_semi_of (key : ByteArray) (v u : List ByteArray) : oneK 5 key v u = if u.length = 0 then [] else v.map (leftP key) := by
  cases u with
  | nil => simp only [oneK]; simp [flatMap_none]
  | cons y u => simp only [oneK]; simp [flatMap_one, leftP]
theorem inner_sub (a b : List RowV) (r : RowV) : (l5J 1 a b).Sublist (l5J 1 a (b ++ [r])) := by
  refine join_sub (fun key v u u' h => ?_) a b r
  rw [one_inner, one_inner]
  exact flatMap_sub (fun x => h.map _) v
theorem anti_less (a b : List RowV) (r : RowV) : (l5J 6 a (b ++ [r])).length ≤ (l5J 6 a b).length := by
  have h : (l5J 5 a b).Sublist (l5J 5 a (b ++ [r])) := by
    refine join_sub (fun key v u u' h => ?_) a b r
    rw [one_semi_of, one_semi_of]
    have hl := h.length_le
    split
    · exact List.nil_sublist _
    · rw [if_neg (by omega)]
      exact List.Sublist.refl _
  have h1 := h.length_le
  have h2 := semi_anti_length a b
  have h3 := semi_anti_length a (b ++ [r])
  omega
/-- One step of finding one list in another. -/
theorem sub_step {x y : PairV} {l f : List PairV} (h : (y :: f).Sublist (x :: l)) : (x = y → f.Sublist l) ∧ (x ≠ y → (y :: f).Sublist l) := by
  constructor
  · rintro rfl
    exact List.cons_sublist_cons.1 h
  · intro hne
    cases h with
    | cons _ h => exact h
    | cons_cons _ h => exact absurd rfl hne
end Go.Proofs.Ytjepmcepgoncnaa

namespace Go.Proofs.Ytjepmcepgoncnaa
open Go.RowKit
/-- Have both rows one key? -/
def eqK (x r : RowV) : Bool := x.key.toList == r.key.toList
theorem eqK_iff {x r : RowV} : eqK x r = true ↔ x.key = r.key := by
  unfold eqK
  rw [beq_iff_eq]
  exact ⟨ext_toList, fun h => by rw [h]⟩
theorem eqK_isKey (x r : RowV) : eqK x r = isKey x.key r := by
  rw [Bool.eq_iff_iff, eqK_iff, isKey_iff]
  exact ⟨Eq.symm, Eq.symm⟩
theorem sum_split (q : RowV → Bool) (f : RowV → Nat) : ∀ l : List RowV, ((l.filter q).map f).sum + ((l.filter fun r => !q r).map f).sum = (l.map f).sum
  | [] => rfl
  | r :: l => by
    have ih := sum_split q f l
    cases hr : q r <;> simp [hr] <;> omega
theorem sum_same {f : RowV → Nat} {c : Nat} : ∀ {l : List RowV}, (∀ r ∈ l, f r = c) → (l.map f).sum = l.length * c
  | [], _ => by simp
  | r :: l, h => by
    have ih := sum_same (l := l) fun x hx => h x (List.mem_cons_of_mem _ hx)
    rw [List.map_cons, List.sum_cons, ih, h r (List.mem_cons_self), List.length_cons, Nat.succ_mul]
    omega
theorem times_by_keys {g : ByteArray → List ByteArray → List PairV} {f : ByteArray → Nat} (hg : ∀ k v, (g k v).length = v.length * f k) : ∀ (K : List ByteArray) (l : List RowV), Rising K → (∀ r ∈ l, r.key ∈ K) → (K.flatMap fun k => g k (valsK l k)).length = (l.map fun r => f r.key).sum
  | [], l, _, h => by
    have : l = [] := List.eq_nil_iff_forall_not_mem.2 fun r hr => by have := h r hr; cases this
    subst this
    rfl
  | x :: K, l, hK, h => by
    obtain ⟨k1, k2⟩ := List.pairwise_cons.1 hK
    have hxK : x ∉ K := fun h => by have := k1 x h; rw [bl_irrefl] at this; cases this
    have ih := times_by_keys hg K (l.filter fun r => !isKey x r) k2 (fun r hr => by
      rw [List.mem_filter] at hr
      refine (List.mem_cons.1 (h r hr.1)).resolve_left fun e => ?_
      rw [isKey_iff.2 e] at hr
      simp at hr)
    have e : (K.flatMap fun k => g k (valsK l k)) = K.flatMap fun k => g k (valsK (l.filter fun r => !isKey x r) k) := flatMap_congr' fun y hy => by
      have hne : y ≠ x := fun e => hxK (e ▸ hy)
      rw [valsK_rest hne]
    rw [List.flatMap_cons, List.length_append, e, ih, hg]
    have h1 : ((l.filter (isKey x)).map fun r => f r.key).sum = (valsK l x).length * f x := by
      unfold valsK
      rw [List.length_map]
      refine sum_same fun r hr => ?_
      rw [List.mem_filter] at hr
      rw [isKey_iff.1 hr.2]
    rw [← h1]
    exact sum_split (isKey x) (fun r => f r.key) l
/-- How many pairs of rows have one key, of the first i rows. -/
def sumTo (a b : List RowV) (i : Nat) : Nat := ((a.take i).map fun x => b.countP (eqK x)).sum
theorem sumTo_zero (a b : List RowV) : sumTo a b 0 = 0 := rfl
theorem sumTo_succ {a b : List RowV} {i : Nat} {x : RowV} (h : a[i]? = some x) : sumTo a b (i + 1) = sumTo a b i + b.countP (eqK x) := by
  unfold sumTo
  rw [List.take_add_one, h, Option.toList_some, List.map_append, List.sum_append]
  simp
def cntTo (x : RowV) (b : List RowV) (k : Nat) : Nat := (b.take k).countP (eqK x)
theorem cntTo_zero (x : RowV) (b : List RowV) : cntTo x b 0 = 0 := rfl
theorem cntTo_succ {x y : RowV} {b : List RowV} {k : Nat} (h : b[k]? = some y) : cntTo x b (k + 1) = cntTo x b k + if eqK x y = true then 1 else 0 := by
  unfold cntTo
  rw [List.take_add_one, h, Option.toList_some, List.countP_append]
  cases e : eqK x y <;> simp [e]
theorem cntTo_all {x : RowV} {b : List RowV} {k : Nat} (h : b.length ≤ k) : cntTo x b k = b.countP (eqK x) := by
  unfold cntTo
  rw [List.take_of_length_le h]
theorem cntTo_le (x : RowV) (b : List RowV) (k : Nat) : cntTo x b k ≤ k := by
  unfold cntTo
  have := List.countP_le_length (p := eqK x) (l := b.take k)
  rw [List.length_take] at this
  omega
theorem sumTo_le {a b : List RowV} {m : Nat} (hb : b.length ≤ m) : ∀ i, sumTo a b i ≤ i * m
  | 0 => by simp [sumTo]
  | i + 1 => by
    have ih := sumTo_le (a := a) hb i
    rcases Nat.lt_or_ge i a.length with h | h
    · rw [sumTo_succ (List.getElem?_eq_getElem h), Nat.succ_mul]
      have := List.countP_le_length (p := eqK a[i]) (l := b)
      omega
    · have : sumTo a b (i + 1) = sumTo a b i := by
        unfold sumTo
        rw [List.take_of_length_le (by omega), List.take_of_length_le h]
      rw [this, Nat.succ_mul]
      omega
theorem inner_len {a b : List RowV} {i : Nat} (hi : a.length ≤ i) : (l5J 1 a b).length = sumTo a b i := by
  have h := times_by_keys (g := fun key v => v.flatMap fun x => (valsK (sortL b) key).map (bothP key x)) (f := fun key => (valsK (sortL b) key).length) (fun key v => by
    induction v with
    | nil => simp
    | cons x v ih => rw [List.flatMap_cons, List.length_append, ih, List.length_map, List.length_cons, Nat.succ_mul]; omega) (keysOf (sortL (a ++ b))) (sortL a) (keys_all a b).1 (keys_left a b)
  have e : l5J 1 a b = (keysOf (sortL (a ++ b))).flatMap fun key => (valsK (sortL a) key).flatMap fun x => (valsK (sortL b) key).map (bothP key x) := by
    unfold l5J
    exact flatMap_congr' fun key _ => one_inner _ _ _
  rw [e, h]
  unfold sumTo
  rw [List.take_of_length_le hi]
  have e2 : (fun r : RowV => (valsK (sortL b) r.key).length) = fun x => b.countP (eqK x) := by
    funext x
    unfold valsK
    rw [List.length_map, ← List.countP_eq_length_filter, ((sortL_perm' b).countP_eq _)]
    congr 1
    funext r
    rw [eqK_isKey]
  rw [e2]
  exact ((sortL_perm' a).map _).sum_nat
/-- What the law asks of one pair. -/
def pairOk (a b : List RowV) (p : PairV) : Prop := p.hl = true ∧ p.hr = true ∧ (∃ r ∈ a, r.key = p.key ∧ r.val = p.l) ∧ ∃ r ∈ b, r.key = p.key ∧ r.val = p.r
theorem valsK_row {l : List RowV} {key x : ByteArray} (h : x ∈ valsK (sortL l) key) : ∃ r ∈ l, r.key = key ∧ r.val = x := by
  unfold valsK at h
  obtain ⟨r, hr, e⟩ := List.mem_map.1 h
  rw [List.mem_filter] at hr
  exact ⟨r, (sortL_perm' l).mem_iff.1 hr.1, isKey_iff.1 hr.2, e⟩
theorem inner_ok {a b : List RowV} {p : PairV} (h : p ∈ l5J 1 a b) : pairOk a b p := by
  unfold l5J at h
  obtain ⟨key, _, hk⟩ := List.mem_flatMap.1 h
  rw [one_inner] at hk
  obtain ⟨x, hx, hk⟩ := List.mem_flatMap.1 hk
  obtain ⟨y, hy, rfl⟩ := List.mem_map.1 hk
  exact ⟨rfl, rfl, valsK_row hx, valsK_row hy⟩
theorem inner_key {key : ByteArray} {v u : List ByteArray} {p : PairV} (h : p ∈ oneK 1 key v u) : p.key = key := by
  rw [one_inner] at h
  obtain ⟨x, _, h⟩ := List.mem_flatMap.1 h
  obtain ⟨y, _, rfl⟩ := List.mem_map.1 h
  rfl
theorem inner_asc (a b : List RowV) : (l5J 1 a b).Pairwise fun p q => Op.bytesLess q.key.toList p.key.toList = false := by
  unfold l5J
  rw [List.pairwise_flatMap]
  refine ⟨fun key _ => ?_, (keys_all a b).1.imp fun {x y} h p hp q hq => ?_⟩
  · refine List.pairwise_of_forall_mem_list fun p hp q hq => ?_
    rw [inner_key hp, inner_key hq]
    exact bl_irrefl _
  · rw [inner_key hp, inner_key hq]
    exact bl_asymm h
theorem inner_next {a b : List RowV} {i : Nat} {p q : PairV} (hp : (l5J 1 a b)[i]? = some p) (hq : (l5J 1 a b)[i + 1]? = some q) : Op.bytesLess q.key.toList p.key.toList = false := by
  obtain ⟨h1, rfl⟩ := List.getElem?_eq_some_iff.1 hp
  obtain ⟨h2, rfl⟩ := List.getElem?_eq_some_iff.1 hq
  exact List.pairwise_iff_getElem.1 (inner_asc a b) i (i + 1) h1 h2 (by omega)
/-- Is there a row of the key and the value among the first k? -/
def hasTo (key v : ByteArray) (l : List RowV) (k : Nat) : Bool := (l.take k).any fun r => r.key.toList == key.toList && r.val.toList == v.toList
theorem hasTo_zero (key v : ByteArray) (l : List RowV) : hasTo key v l 0 = false := rfl
theorem hasTo_succ {key v : ByteArray} {l : List RowV} {k : Nat} {r : RowV} (h : l[k]? = some r) : hasTo key v l (k + 1) = (hasTo key v l k || (r.key.toList == key.toList && r.val.toList == v.toList)) := by
  unfold hasTo
  rw [List.take_add_one, h, Option.toList_some, List.any_append]
  simp
theorem hasTo_all {key v : ByteArray} {l : List RowV} {k : Nat} (hk : l.length ≤ k) (h : ∃ r ∈ l, r.key = key ∧ r.val = v) : hasTo key v l k = true := by
  unfold hasTo
  rw [List.take_of_length_le hk, List.any_eq_true]
  obtain ⟨r, hr, rfl, rfl⟩ := h
  exact ⟨r, hr, by simp⟩
end Go.Proofs.Ytjepmcepgoncnaa

namespace Go.Proofs.Ytjepmcepgoncnaa
open Go.RowKit
theorem filter_sorted5 (l : List RowV) (p : RowV → Bool) : (sortL l).filter p = sortL (l.filter p) :=
  sortL_unique (List.Pairwise.sublist List.filter_sublist (sortL_asc l)) ((sortL_perm' l).filter p)
theorem rising_eq {K L : List ByteArray} (hK : Rising K) (hL : Rising L) (h : ∀ x, x ∈ K ↔ x ∈ L) : K = L :=
  (rising_sublist hK hL fun x hx => (h x).1 hx).eq_of_length_le (rising_sublist hL hK fun x hx => (h x).2 hx).length_le
theorem flatMap_filter_none {α β : Type} {f : α → List β} {q : α → Bool} (h : ∀ x, q x = false → f x = []) : ∀ l : List α, l.flatMap f = (l.filter q).flatMap f
  | [] => rfl
  | x :: l => by
    have ih := flatMap_filter_none h l
    cases hq : q x
    · rw [List.flatMap_cons, h x hq, List.filter_cons_of_neg (by rw [hq]; decide), ih]; rfl
    · rw [List.flatMap_cons, List.filter_cons_of_pos hq, List.flatMap_cons, ih]
theorem valsK_mem {l : List RowV} {key : ByteArray} : valsK l key ≠ [] ↔ ∃ r ∈ l, r.key = key := by
  unfold valsK
  rw [Ne, List.map_eq_nil_iff, List.filter_eq_nil_iff]
  constructor
  · intro h
    have h' : ∃ r, r ∈ l ∧ isKey key r = true := by
      apply Classical.byContradiction
      intro h2
      exact h fun r hr hk => h2 ⟨r, hr, hk⟩
    obtain ⟨r, hr, hk⟩ := h'
    exact ⟨r, hr, isKey_iff.1 hk⟩
  · rintro ⟨r, hr, e⟩ h
    exact h r hr (isKey_iff.2 e)
/-- A join that tells nothing of a key that the right side lacks goes by the keys of the right side. -/
theorem by_right {n : Int} (hn : ∀ key v, oneK n key v [] = []) (a b : List RowV) : l5J n a b = (keysOf (sortL b)).flatMap fun key => oneK n key (valsK (sortL a) key) (valsK (sortL b) key) := by
  unfold l5J
  rw [flatMap_filter_none (q := fun key => !(valsK (sortL b) key).isEmpty) (fun key h => by
    have : valsK (sortL b) key = [] := by simpa using h
    rw [this]; exact hn _ _)]
  congr 1
  refine rising_eq (List.Pairwise.filter _ (keys_all a b).1) (keysOf_rising (asc_keys (sortL_asc b))) fun x => ?_
  rw [List.mem_filter, (keys_all a b).2, keysOf_mem]
  have e : (!(valsK (sortL b) x).isEmpty) = true ↔ ∃ r ∈ sortL b, r.key = x := by
    rw [← valsK_mem]; simp
  rw [e]
  constructor
  · exact fun h => h.2
  · rintro ⟨r, hr, hk⟩
    exact ⟨.inr ⟨r, (sortL_perm' b).mem_iff.1 hr, hk⟩, r, hr, hk⟩
theorem join_passed {n : Int} (hn : ∀ key v, oneK n key v [] = []) {a b : List RowV} {p : RowV → Bool} (hp : ∀ r ∈ a, (∃ q ∈ b, q.key = r.key) → p r = true) : l5J n (a.filter p) b = l5J n a b := by
  rw [by_right hn, by_right hn]
  refine flatMap_congr' fun key hkey => ?_
  obtain ⟨q, hq, e⟩ := (keysOf_mem _ _).1 hkey
  have hv : valsK (sortL (a.filter p)) key = valsK (sortL a) key := by
    rw [← filter_sorted5]
    unfold valsK
    rw [List.filter_filter]
    congr 1
    refine List.filter_congr fun r hr => ?_
    cases hk : isKey key r
    · rfl
    · rw [hp r ((sortL_perm' a).mem_iff.1 hr) ⟨q, (sortL_perm' b).mem_iff.1 hq, by rw [e, isKey_iff.1 hk]⟩]; rfl
  rw [hv]
theorem inner_none (key : ByteArray) (v : List ByteArray) : oneK 1 key v [] = [] := by
  rw [one_inner]
  exact flatMap_none v
theorem semi_none (key : ByteArray) (v : List ByteArray) : oneK 5 key v [] = [] := by
  rw [one_semi_of]; rfl
end Go.Proofs.Ytjepmcepgoncnaa

namespace Go.Proofs.Ytjepmcepgoncnaa
open Go.RowKit
def chainV (p : PairV) : RowV := ⟨p.key, 0, p.l ++ p.r⟩
def chainR (l : List PairV) : List RowV := l.map chainV
theorem chainR_length (l : List PairV) : (chainR l).length = l.length := List.length_map _
theorem chainR_take {l : List PairV} {k : Nat} {p : PairV} (h : l[k]? = some p) : chainR (l.take (k + 1)) = chainR (l.take k) ++ [chainV p] := by
  rw [List.take_add_one, h, Option.toList_some]
  simp [chainR]
def chainedB (a b c : List RowV) : Bool := joinOfB a b 1 && joinOfB (chainR (joinOfS a b 1)) c 1
def chainedS (a b c : List RowV) : List PairV := if joinOfB a b 1 = true then joinOfS (chainR (joinOfS a b 1)) c 1 else []
theorem inner_few {a b : List RowV} (ha : a.length ≤ 120) (hb : b.length ≤ 120) : (l5J 1 a b).length ≤ 14400 := by
  rw [inner_len (Nat.le_refl a.length)]
  have h1 := sumTo_le hb (a := a) a.length
  have h2 : a.length * 120 ≤ 120 * 120 := Nat.mul_le_mul_right _ ha
  omega
theorem size_cat (x y : ByteArray) : (x ++ y).size = x.size + y.size := ByteArray.size_append
theorem rowsOk_small {l : List RowV} (h : rowsOk l = true) : ∀ r ∈ l, r.key.size ≤ 12 ∧ r.val.size ≤ 12 := by
  intro r hr
  unfold rowsOk at h
  have h2 := List.all_eq_true.1 (Bool.and_eq_true _ _ ▸ h).2 r hr
  unfold RowV.ok okB at h2
  have h3 := of_decide_eq_true h2
  exact ⟨h3.1, h3.2.1⟩
theorem inner_small {a b : List RowV} (ha : rowsOk a = true) (hb : rowsOk b = true) : ∀ p ∈ l5J 1 a b, p.key.size ≤ 12 ∧ p.l.size ≤ 12 ∧ p.r.size ≤ 12 := by
  intro p hp
  obtain ⟨_, _, ⟨r, hr, e1, e2⟩, q, hq, e3, e4⟩ := inner_ok hp
  have h1 := rowsOk_small ha r hr
  have h2 := rowsOk_small hb q hq
  rw [e1, e2] at h1
  rw [e4] at h2
  exact ⟨h1.1, h1.2, h2.2⟩
theorem joinOf_one {a b : List RowV} (h : joinOfB a b 1 = true) : rowsOk a = true ∧ rowsOk b = true := by
  simp only [joinOfB, Bool.and_eq_true] at h
  exact h.1
theorem first_few (a b : List RowV) : (joinOfS a b 1).length ≤ 14400 := by
  cases h : joinOfB a b 1
  · rw [joinOf_no h]; exact Nat.zero_le _
  · rw [joinOf_yes h]
    exact inner_few (rowsOk_le5 (joinOf_one h).1) (rowsOk_le5 (joinOf_one h).2)
theorem first_small (a b : List RowV) : ∀ p ∈ joinOfS a b 1, p.key.size ≤ 12 ∧ p.l.size ≤ 12 ∧ p.r.size ≤ 12 := by
  cases h : joinOfB a b 1
  · rw [joinOf_no h]; intro p hp; cases hp
  · rw [joinOf_yes h]
    exact inner_small (joinOf_one h).1 (joinOf_one h).2
theorem chainR_ok {l : List PairV} (h : ∀ p ∈ l, p.key.size ≤ 12 ∧ p.l.size ≤ 12 ∧ p.r.size ≤ 12) : ∀ r ∈ chainR l, r.Ok := by
  intro r hr
  obtain ⟨p, hp, rfl⟩ := List.mem_map.1 hr
  obtain ⟨h1, h2, h3⟩ := h p hp
  refine ⟨?_, rfl, ?_⟩
  · show p.key.size ≤ maxLen
    unfold maxLen; omega
  · show (p.l ++ p.r).size ≤ maxLen
    rw [size_cat]
    unfold maxLen; omega
theorem chainedS_le (a b c : List RowV) : (chainedS a b c).length ≤ 4194304 := by
  unfold chainedS
  split
  · exact joinOfS_le _ _ _
  · exact Nat.zero_le _
/-- A sum over the pairs of an inner join, by keys. -/
theorem sum_flat (f : PairV → Nat) (h : ByteArray → List PairV) : ∀ K : List ByteArray, ((K.flatMap h).map f).sum = (K.map fun k => ((h k).map f).sum).sum
  | [] => rfl
  | k :: K => by
    rw [List.flatMap_cons, List.map_append, List.sum_append, List.map_cons, List.sum_cons, sum_flat f h K]
theorem sum_const {α : Type} {f : α → Nat} {c : Nat} : ∀ {l : List α}, (∀ r ∈ l, f r = c) → (l.map f).sum = l.length * c
  | [], _ => by simp
  | x :: l, h => by
    rw [List.map_cons, List.sum_cons, sum_const (l := l) (fun r hr => h r (List.mem_cons_of_mem _ hr)), h x List.mem_cons_self, List.length_cons, Nat.succ_mul]
    omega
theorem inner_pairs (key : ByteArray) (u : List ByteArray) : ∀ v : List ByteArray, (v.flatMap fun x => u.map (bothP key x)).length = v.length * u.length
  | [] => by simp
  | x :: v => by
    rw [List.flatMap_cons, List.length_append, inner_pairs key u v, List.length_map, List.length_cons, Nat.succ_mul]
    omega
theorem inner_sum (a b : List RowV) (g : ByteArray → Nat) : ((l5J 1 a b).map fun p => g p.key).sum = ((keysOf (sortL (a ++ b))).map fun k => (valsK (sortL a) k).length * (valsK (sortL b) k).length * g k).sum := by
  unfold l5J
  rw [sum_flat]
  congr 1
  refine List.map_congr_left fun k _ => ?_
  rw [one_inner]
  have h : ∀ p ∈ ((valsK (sortL a) k).flatMap fun x => (valsK (sortL b) k).map (bothP k x)), g p.key = g k := by
    intro p hp
    obtain ⟨x, _, hx⟩ := List.mem_flatMap.1 hp
    obtain ⟨y, _, rfl⟩ := List.mem_map.1 hx
    rfl
  rw [sum_const h, inner_pairs]
theorem keys_turned (a b : List RowV) : keysOf (sortL (a ++ b)) = keysOf (sortL (b ++ a)) :=
  rising_eq (keys_all a b).1 (keys_all b a).1 fun x => by rw [(keys_all a b).2, (keys_all b a).2]; exact Or.comm
theorem sum_turned (a b : List RowV) (g : ByteArray → Nat) : ((l5J 1 a b).map fun p => g p.key).sum = ((l5J 1 b a).map fun p => g p.key).sum := by
  rw [inner_sum, inner_sum, keys_turned a b]
  congr 1
  refine List.map_congr_left fun k _ => ?_
  rw [Nat.mul_comm (valsK (sortL a) k).length]
theorem len_turned (a b : List RowV) : (l5J 1 a b).length = (l5J 1 b a).length := by
  have h := sum_turned a b fun _ => 1
  rw [sum_const (fun _ _ => rfl), sum_const (fun _ _ => rfl)] at h
  omega
theorem pair_turned {a b : List RowV} {p : PairV} (h : p ∈ l5J 1 a b) : ∃ q ∈ l5J 1 b a, q.key = p.key ∧ q.l = p.r ∧ q.r = p.l := by
  unfold l5J at h
  obtain ⟨k, hk, hp⟩ := List.mem_flatMap.1 h
  rw [one_inner] at hp
  obtain ⟨x, hx, hp⟩ := List.mem_flatMap.1 hp
  obtain ⟨y, hy, rfl⟩ := List.mem_map.1 hp
  refine ⟨bothP k y x, ?_, rfl, rfl, rfl⟩
  unfold l5J
  refine List.mem_flatMap.2 ⟨k, by rw [← keys_turned]; exact hk, ?_⟩
  rw [one_inner]
  exact List.mem_flatMap.2 ⟨y, hy, List.mem_map.2 ⟨x, hx, rfl⟩⟩
theorem ok_half {a b : List RowV} (h : (chainR (l5J 1 a b)).all RowV.ok = true) : (chainR (l5J 1 b a)).all RowV.ok = true := by
  rw [List.all_eq_true] at h ⊢
  intro r hr
  obtain ⟨p, hp, rfl⟩ := List.mem_map.1 hr
  obtain ⟨q, hq, e1, e2, e3⟩ := pair_turned hp
  have h2 := h _ (List.mem_map.2 ⟨q, hq, rfl⟩)
  unfold RowV.ok okB chainV at h2 ⊢
  have h3 := of_decide_eq_true h2
  rw [e1, e2, e3, size_cat] at h3
  refine decide_eq_true ?_
  rw [size_cat]
  exact ⟨h3.1, by omega, h3.2.2⟩
theorem ok_turned (a b : List RowV) : rowsOk (chainR (l5J 1 a b)) = rowsOk (chainR (l5J 1 b a)) := by
  unfold rowsOk
  rw [chainR_length, chainR_length, len_turned a b]
  congr 1
  rw [Bool.eq_iff_iff]
  exact ⟨ok_half, ok_half⟩
theorem chainedB_turned (a b c : List RowV) : chainedB a b c = chainedB b a c := by
  have e : joinOfB a b 1 = joinOfB b a 1 := by
    unfold joinOfB
    rw [Bool.and_comm (rowsOk a)]
  unfold chainedB
  cases h : joinOfB a b 1
  · rw [← e, h]; rfl
  · rw [joinOf_yes h, joinOf_yes (by rw [← e]; exact h), ← e, h]
    unfold joinOfB
    rw [ok_turned a b]
theorem chained_len (a b c : List RowV) : (l5J 1 (chainR (l5J 1 a b)) c).length = ((l5J 1 a b).map fun p => (fun k => c.countP fun r => k.toList == r.key.toList) p.key).sum := by
  rw [inner_len (Nat.le_refl _)]
  unfold sumTo chainR
  rw [List.take_length, List.map_map]
  rfl
theorem chainedS_turned (a b c : List RowV) : (chainedS a b c).length = (chainedS b a c).length := by
  have e : joinOfB a b 1 = joinOfB b a 1 := by
    unfold joinOfB
    rw [Bool.and_comm (rowsOk a)]
  unfold chainedS
  cases h : joinOfB a b 1
  · rw [← e, h]; simp
  · have h2 : joinOfB b a 1 = true := by rw [← e]; exact h
    rw [h2, joinOf_yes h, joinOf_yes h2, if_pos rfl, if_pos rfl]
    have e2 : joinOfB (chainR (l5J 1 a b)) c 1 = joinOfB (chainR (l5J 1 b a)) c 1 := by
      unfold joinOfB
      rw [ok_turned a b]
    unfold joinOfS
    rw [← e2]
    split
    · rw [chained_len, chained_len]
      exact sum_turned a b fun k => c.countP fun r => k.toList == r.key.toList
    · rfl
end Go.Proofs.Ytjepmcepgoncnaa

namespace Go.Proofs.Ytjepmcepgoncnaa
open Go.RowKit
def ChainOut (L : List PairV) (w : World) (e : Ending) (w' : World) : Prop := ∃ b c, e = .returned (.slice b L.length c) ∧ Below w.heap.size w w' ∧ w'.ownsRow w.heap.size 77 3 (.slice b L.length c) L.length (flat (chainR L))
theorem row_one_ (r : RowV) : ∀ u ∈ [Value.string r.key, .int .i64 r.tag, .string r.val], u.oneCell' = true := by
  intro u hu
  simp at hu
  rcases hu with rfl | rfl | rfl <;> rfl
theorem row_new (w : World) (k v : ByteArray) (t : TypeId) : ∀ j u, [Value.string k, .int .i64 0, .string v][j]? = some u → ((w.alloc (.cells #[.string k, .int .i64 0, .string v] t)).drew).cell? (Addr.add ⟨w.heap.size, 0, none⟩ j) = some u := fun j u h => cell_row_new w ⟨k, 0, v⟩ t j u h
theorem row_new2 (w : World) (o : Obj) (k v : ByteArray) (t : TypeId) : ∀ j u, [Value.string k, .int .i64 0, .string v][j]? = some u → ((w.alloc o).alloc (.cells #[.string k, .int .i64 0, .string v] t)).cell? (Addr.add ⟨w.heap.size + 1, 0, none⟩ j) = some u := fun j u h => by
  have := cell_row_new (w.alloc o) ⟨k, 0, v⟩ t j u h
  rwa [World.size_alloc] at this
set_option maxRecDepth 100000 in
set_option maxHeartbeats 2000000 in
theorem l12Rows_any (a : Option Addr) (n cap : Nat) (L : List PairV) (w : World) (hm : n ≤ 1048576) (hs : ∀ p ∈ L, p.key.size ≤ 12 ∧ p.l.size ≤ 12 ∧ p.r.size ≤ 12) (hR : Rd w w.heap.size 5 a n (flatP L)) :
    Calls Try.prog 86 #[.slice a n cap] w (ChainOut L w) := by
  obtain ⟨i0, hi, hz0, hz1, hz2⟩ := info_parts infoRow
  have hl := hR.pairs_length
  have hOn := World.ownsRow_lit (base := w.heap.size) (e := 77) (size := 3) w #[] 0 (Nat.le_refl _) (Nat.zero_le _) rfl
  have hb0 := bl1 w (.cells #[] 77)
  have HS := Lib.hid hs
  have HL := Lib.hid hl
  clear hs hl
  unfold ChainOut
  go_enter Try.func86, Try.ntmps86
  go_wp2_with fail
  go_loopw [3, 4] (fun v i wr => ∃ (k : Nat) (g : Option Addr) (c : Nat), k ≤ n ∧ i = .int .i64 k ∧ v = .slice g k c ∧ wr.ownsRow w.heap.size 77 3 (.slice g k c) k (flat (chainR (L.take k))) ∧ Below w.heap.size w wr) (fun _ j _ => n - (intOf j).toNat)
  case atStart => exact ⟨0, _, _, Nat.zero_le _, rfl, rfl, hOn, hb0⟩
  case round =>
    obtain ⟨k, g, c, hk, rfl, rfl, hO, hb⟩ := hrel
    clear hOn hb0
    by_cases hlt : k < n
    · obtain ⟨b, off, p, rfl, hB, hp, c0, c1, c2, _, _⟩ := (hR.below hb (Nat.le_refl _)).pair hlt
      have E := Lib.hid (chainR_take hp)
      obtain ⟨h1, h2, h3⟩ := HS.out p (List.mem_of_getElem? hp)
      obtain ⟨pk, pl, pr, ph, pg⟩ := p
      simp only at h1 h2 h3 c0 c1 c2
      have hcat : (pl ++ pr).size ≤ 24 := by rw [size_cat]; omega
      have hc9 : ¬ 9223372036854775807 < pl.size + pr.size := by omega
      have HO := Lib.hid (own_below (own_below hO (bl1 wr (.cells #[.string pk, .int .i64 0, .string (pl ++ pr)] 77))) (Below.refl _ _).drew)
      have HB := Lib.hid ((hb.alloc hb.size (.cells #[.string pk, .int .i64 0, .string (pl ++ pr)] 77)).drew)
      have HN := Lib.hid (row_new wr pk (pl ++ pr) 77)
      have hlm : k + 1 ≤ maxLen := by unfold maxLen; omega
      have hl9 : (k + 1) * 40 ≤ 140737488355328 := by omega
      clear hO hb hp
      go_wp2_with fail
      go_region_law (refine step_append_one rfl (.tmp 12) (.tmp 30) 24 rfl w.heap.size 77 i0 (.agg #[.string ⟨#[]⟩, .int .i64 0, .string ⟨#[]⟩]) 3 40 Try.underlying24 hi hz0 hz1 hz2 rfl (by decide) (.slice g k c) k _ rfl HO.out ⟨wr.heap.size, 0, none⟩ 1 1 [.string pk, .int .i64 0, .string (pl ++ pr)] rfl rfl HN.out (row_one_ ⟨pk, 0, pl ++ pr⟩) hlm hl9 HB.out.size ?_; intro v' w3 hO3 hg3 _; obtain ⟨a3, c3, rfl⟩ := own_slice' hO3)
      all_goals
        have hb3 := HB.out.grown hg3 HB.out.size (fun q e => (own_ge HO.out q e).1)
        have hO4 : w3.ownsRow w.heap.size 77 3 (.slice a3 (k + 1) c3) (k + 1) (flat (chainR (L.take (k + 1)))) := by
          rw [E.out, flat_append]; exact hO3
        clear hO3 hg3 HB HO HN c0 c1 c2
        go_wp2_with fail
        go_roundw
        case rel => exact ⟨k + 1, a3, c3, by omega, by go_num, rfl, hO4, hb3⟩
        case measure => simp [intOf]; omega
    · obtain rfl : k = n := by omega
      rw [List.take_of_length_le (by rw [HL.out]; omega)] at hO
      go_wp2_with fail
      go_ret
      refine ⟨g, c, ?_, hb, ?_⟩
      · rw [HL.out]; rfl
      · rw [HL.out]; exact hO
set_option maxRecDepth 100000 in
set_option maxHeartbeats 2000000 in
theorem rowsOfPairs_any (a : Option Addr) (n cap : Nat) (L : List PairV) (w : World) (hm : n ≤ 1048576) (hs : ∀ p ∈ L, p.key.size ≤ 12 ∧ p.l.size ≤ 12 ∧ p.r.size ≤ 12) (hR : Rd w w.heap.size 5 a n (flatP L)) :
    Calls Try.prog 87 #[.slice a n cap] w (ChainOut L w) := by
  obtain ⟨i0, hi, hz0, hz1, hz2⟩ := info_parts infoRow
  have hl := hR.pairs_length
  have HS := Lib.hid hs
  have HL := Lib.hid hl
  have hmx : n ≤ maxLen := by unfold maxLen; omega
  have hmb : n * 40 ≤ 140737488355328 := by omega
  clear hs hl
  unfold ChainOut
  go_enter Try.func87, Try.ntmps87
  go_wp2_with (at_make; refine wpList_make_own _ rfl _ _ 24 rfl w.heap.size 77 i0 (.agg #[.string ⟨#[]⟩, .int .i64 0, .string ⟨#[]⟩]) 3 Try.underlying24 hi hz0 hz1 .i64 .i64 _ n rfl rfl (by omega) (by rw [hz2]; omega) (by unfold maxLen; omega) (Nat.le_refl _) ?_; intro w1 hown hgrow)
  have hb0 := (Below.refl w.heap.size w).grown hgrow (Nat.le_refl _) (by simp)
  clear hgrow
  go_wp2_with fail
  go_loopw [3, 11] (fun v i wr => ∃ (k : Nat) (g : Option Addr) (c : Nat), k ≤ n ∧ i = .int .i64 k ∧ v = .slice g k c ∧ wr.ownsRow w.heap.size 77 3 (.slice g k c) k (flat (chainR (L.take k))) ∧ Below w.heap.size w wr) (fun _ j _ => n - (intOf j).toNat)
  case atStart => exact ⟨0, _, _, Nat.zero_le _, rfl, rfl, hown, hb0⟩
  case round =>
    obtain ⟨k, g, c, hk, rfl, rfl, hO, hb⟩ := hrel
    clear hown hb0
    by_cases hlt : k < n
    · obtain ⟨b, off, p, rfl, hB, hp, c0, c1, c2, c3, c4⟩ := (hR.below hb (Nat.le_refl _)).pair hlt
      have E := Lib.hid (chainR_take hp)
      obtain ⟨h1, h2, h3⟩ := HS.out p (List.mem_of_getElem? hp)
      obtain ⟨pk, pl, pr, ph, pg⟩ := p
      simp only at h1 h2 h3 c0 c1 c2 c3 c4
      have hcat : (pl ++ pr).size ≤ 24 := by rw [size_cat]; omega
      have hc9 : ¬ 9223372036854775807 < pl.size + pr.size := by omega
      have hlm : k + 1 ≤ maxLen := by unfold maxLen; omega
      have hl9 : (k + 1) * 40 ≤ 140737488355328 := by omega
      clear hp
      have hg8 : w.heap.size ≤ wr.heap.size := hb.size
      go_wp2_with (at_builtin; refine wpList_append_own_at _ rfl _ _ 24 rfl w.heap.size 77 i0 (.agg #[.string ⟨#[]⟩, .int .i64 0, .string ⟨#[]⟩]) 3 40 Try.underlying24 hi hz0 hz1 hz2 rfl (by decide) _ _ _ rfl ((hO.alloc _).alloc _) ⟨wr.heap.size + 1, 0, none⟩ 1 1 [.string pk, .int .i64 0, .string (pl ++ pr)] rfl rfl (row_new2 _ _ _ _ _) ?c2 ?c3 ?c4 ?c5 ?_)
      case c2 => exact row_one_ ⟨pk, 0, pl ++ pr⟩
      case c3 => exact hlm
      case c4 => exact hl9
      case c5 => first | omega | (simp; omega)
      intro v' w4 hO4 hg4 _ hat
      obtain ⟨a', cap', rfl⟩ := own_slice' hO4
      have hb4 := ((hb.alloc hg8 (.cells #[.string pk, .string pl, .string pr, .bool ph, .bool pg] 99)).alloc (by simp; omega) (.cells #[.string pk, .int .i64 0, .string (pl ++ pr)] 77)).grown hg4 (by simp; omega) (fun q e => (own_ge hO q e).1)
      have hO5 : w4.ownsRow w.heap.size 77 3 (.slice a' (k + 1) cap') (k + 1) (flat (chainR (L.take (k + 1)))) := by
        rw [E.out, flat_append]; exact hO4
      clear hg4 hat hO hO4 hb c0 c1 c2 c3 c4 E
      go_wp2_with fail
      go_roundw
      case rel => exact ⟨k + 1, a', cap', by omega, by go_num, rfl, hO5, hb4⟩
      case measure => simp [intOf]; omega
    · obtain rfl : k = n := by omega
      rw [List.take_of_length_le (by rw [HL.out]; omega)] at hO
      go_wp2_with fail
      go_ret
      refine ⟨g, c, ?_, hb, ?_⟩
      · rw [HL.out]; rfl
      · rw [HL.out]; exact hO
theorem chained_no {a b c : List RowV} (h : joinOfB a b 1 = false) : chainedS a b c = [] ∧ chainedB a b c = false := by
  unfold chainedS chainedB
  rw [h]
  exact ⟨if_neg (by decide), rfl⟩
theorem chained_yes {a b c : List RowV} (h : joinOfB a b 1 = true) : chainedS a b c = joinOfS (chainR (joinOfS a b 1)) c 1 ∧ chainedB a b c = joinOfB (chainR (joinOfS a b 1)) c 1 := by
  unfold chainedS chainedB
  rw [h]
  exact ⟨if_pos rfl, rfl⟩
set_option maxRecDepth 100000 in
set_option maxHeartbeats 2000000 in
theorem specChained_any (a0 : Option Addr) (len0 cap0 : Nat) (x0 : List RowV) (a1 : Option Addr) (len1 cap1 : Nat) (x1 : List RowV) (a2 : Option Addr) (len2 cap2 : Nat) (x2 : List RowV) (w : World) (hm0 : len0 ≤ 1048576) (hok0 : ∀ r ∈ x0, r.Ok) (hR0 : Rd w w.heap.size 3 a0 len0 (flat x0)) (hm1 : len1 ≤ 1048576) (hok1 : ∀ r ∈ x1, r.Ok) (hR1 : Rd w w.heap.size 3 a1 len1 (flat x1)) (hm2 : len2 ≤ 1048576) (hok2 : ∀ r ∈ x2, r.Ok) (hR2 : Rd w w.heap.size 3 a2 len2 (flat x2)) :
    Calls Try.prog 37 #[.slice a0 len0 cap0, .slice a1 len1 cap1, .slice a2 len2 cap2] w (PairsB w (chainedS x0 x1 x2) (chainedB x0 x1 x2)) := by
  have C0 := specJoinOf_any a0 len0 cap0 x0 a1 len1 cap1 x1 1 w hm0 hok0 hR0 hm1 hok1 hR1
  have hf := first_few x0 x1
  have hs := first_small x0 x1
  cases h : joinOfB x0 x1 1
  · rw [(chained_no h).1, (chained_no h).2]
    rw [h] at C0
    generalize joinOfS x0 x1 1 = L at *
    clear h hs
    go_enter Try.func37, Try.ntmps37
    go_wp2_with fail
    refine C0.mono ?_
    rintro e w1 ⟨pa, pc, rfl, hb, _⟩
    clear C0
    go_wp2_with fail
    go_ret2
    exact PairsB.no hb
  rw [(chained_yes h).1, (chained_yes h).2]
  rw [h] at C0
  generalize joinOfS x0 x1 1 = L at *
  clear h
  have HS := Lib.hid hs
  go_enter Try.func37, Try.ntmps37
  go_wp2_with fail
  refine C0.mono ?_
  rintro e w1 ⟨pa, pc, rfl, hb1, hO1⟩
  clear C0
  have C1 := l12Rows_any pa L.length pc L w1 (by omega) HS.out (Rd.of_own hO1)
  go_wp2_with fail
  refine C1.mono ?_
  rintro e w2 ⟨qa, qc, rfl, hb2, hO2⟩
  have B2 := hb1.trans (hb2.mono hb1.size)
  have hO3 : w2.ownsRow w1.heap.size 77 3 (.slice qa L.length qc) (chainR L).length (flat (chainR L)) := by rw [chainR_length]; exact hO2
  have C2 := specJoinOf_any qa L.length qc (chainR L) a2 len2 cap2 x2 1 w2 (by omega) (chainR_ok HS.out) (Rd.of_own hO2) hm2 hok2 ((hR2.below B2 (Nat.le_refl _)).more B2.size)
  clear C1 hO1 hO2 hO3 hb1 hb2
  generalize joinOfS (chainR L) x2 1 = SS at *
  generalize joinOfB (chainR L) x2 1 = BB at *
  go_wp2_with fail
  refine C2.mono ?_
  rintro e w3 ⟨ra, rc, rfl, hb3, hO⟩
  have B3 := B2.trans (hb3.mono B2.size)
  have hO' := own_base' hO B2.size
  clear C2
  go_wp2_with fail
  go_ret2
  exact ⟨ra, rc, rfl, B3, hO'⟩
set_option maxRecDepth 100000 in
set_option maxHeartbeats 2000000 in
theorem implChained_any (a0 : Option Addr) (len0 cap0 : Nat) (x0 : List RowV) (a1 : Option Addr) (len1 cap1 : Nat) (x1 : List RowV) (a2 : Option Addr) (len2 cap2 : Nat) (x2 : List RowV) (w : World) (hm0 : len0 ≤ 1048576) (hok0 : ∀ r ∈ x0, r.Ok) (hR0 : Rd w w.heap.size 3 a0 len0 (flat x0)) (hm1 : len1 ≤ 1048576) (hok1 : ∀ r ∈ x1, r.Ok) (hR1 : Rd w w.heap.size 3 a1 len1 (flat x1)) (hm2 : len2 ≤ 1048576) (hok2 : ∀ r ∈ x2, r.Ok) (hR2 : Rd w w.heap.size 3 a2 len2 (flat x2)) :
    Calls Try.prog 38 #[.slice a0 len0 cap0, .slice a1 len1 cap1, .slice a2 len2 cap2] w (PairsB w (chainedS x0 x1 x2) (chainedB x0 x1 x2)) := by
  have C0 := implJoinOf_any a0 len0 cap0 x0 a1 len1 cap1 x1 1 w hm0 hok0 hR0 hm1 hok1 hR1
  have hf := first_few x0 x1
  have hs := first_small x0 x1
  cases h : joinOfB x0 x1 1
  · rw [(chained_no h).1, (chained_no h).2]
    rw [h] at C0
    generalize joinOfS x0 x1 1 = L at *
    clear h hs
    go_enter Try.func38, Try.ntmps38
    go_wp2_with fail
    refine C0.mono ?_
    rintro e w1 ⟨pa, pc, rfl, hb, _⟩
    clear C0
    go_wp2_with fail
    go_ret2
    exact PairsB.no hb
  rw [(chained_yes h).1, (chained_yes h).2]
  rw [h] at C0
  generalize joinOfS x0 x1 1 = L at *
  clear h
  have HS := Lib.hid hs
  go_enter Try.func38, Try.ntmps38
  go_wp2_with fail
  refine C0.mono ?_
  rintro e w1 ⟨pa, pc, rfl, hb1, hO1⟩
  clear C0
  have C1 := rowsOfPairs_any pa L.length pc L w1 (by omega) HS.out (Rd.of_own hO1)
  go_wp2_with fail
  refine C1.mono ?_
  rintro e w2 ⟨qa, qc, rfl, hb2, hO2⟩
  have B2 := hb1.trans (hb2.mono hb1.size)
  have hO3 : w2.ownsRow w1.heap.size 77 3 (.slice qa L.length qc) (chainR L).length (flat (chainR L)) := by rw [chainR_length]; exact hO2
  have C2 := implJoinOf_any qa L.length qc (chainR L) a2 len2 cap2 x2 1 w2 (by omega) (chainR_ok HS.out) (Rd.of_own hO2) hm2 hok2 ((hR2.below B2 (Nat.le_refl _)).more B2.size)
  clear C1 hO1 hO2 hO3 hb1 hb2
  generalize joinOfS (chainR L) x2 1 = SS at *
  generalize joinOfB (chainR L) x2 1 = BB at *
  go_wp2_with fail
  refine C2.mono ?_
  rintro e w3 ⟨ra, rc, rfl, hb3, hO⟩
  have B3 := B2.trans (hb3.mono B2.size)
  have hO' := own_base' hO B2.size
  clear C2
  go_wp2_with fail
  go_ret2
  exact ⟨ra, rc, rfl, B3, hO'⟩
end Go.Proofs.Ytjepmcepgoncnaa

namespace Go.Proofs.Ytjepmcepgoncnaa
open Go.RowKit
set_option maxRecDepth 100000 in
set_option maxHeartbeats 4000000 in
theorem walk_ChainTurned (a : Option Addr) (len cap : Nat) (xs : List Value) (w : World) (hI : IsCode w a len cap xs) :
    Calls Try.prog 9 #[.slice a len cap] w fun e w' => e = .returned (.bool true) ∧ Below w.heap.size w w' := by
  have hI0 := hI.by_
  obtain ⟨hlc, hcm, _, _⟩ := hI
  go_enter Try.func9, Try.ntmps9
  go_wp2_with fail
  refine (big_any a len cap w (by omega)).mono ?_
  rintro e w0 ⟨rfl, rfl⟩
  by_cases hbig : 1048576 < len
  · have hd : decide (1048576 < len) = true := by simpa using hbig
    rw [hd]
    go_wp2_with fail
    go_ret
    exact ⟨rfl, Below.refl _ _⟩
  have hd : decide (1048576 < len) = false := by simpa using hbig
  rw [hd]
  go_wp2_with fail
  refine (drawChained_any a len cap w (by omega) hI0).mono ?_
  rintro e w1 ⟨l, lb, lc, m, mb, mc, k, kb, kc, hll, hok, hml, hmok, hkl, hkok, rfl, hO, hP, hQ, hb⟩
  have B := hb
  clear hb
  have L := Rd.of_own hO
  have M := Rd.of_own hP
  have N := Rd.of_own hQ
  clear hO hP hQ
  obtain ⟨n, hn⟩ : ∃ j, (chainedS l m k).length = j := ⟨_, rfl⟩
  obtain ⟨ok, hB⟩ : ∃ j, chainedB l m k = j := ⟨_, rfl⟩
  have hn2 : (chainedS m l k).length = n := by rw [← chainedS_turned, hn]
  have hB2 : chainedB m l k = ok := by rw [← chainedB_turned, hB]
  have hn3 : n ≤ 4194304 := by rw [← hn]; exact chainedS_le l m k
  have CI : ∀ w : World, Rd w w.heap.size 3 (some ⟨lb, 0, none⟩) l.length (flat l) → Rd w w.heap.size 3 (some ⟨mb, 0, none⟩) m.length (flat m) → Rd w w.heap.size 3 (some ⟨kb, 0, none⟩) k.length (flat k) → Calls Try.prog 38 #[.slice (some ⟨lb, 0, none⟩) l.length lc, .slice (some ⟨mb, 0, none⟩) m.length mc, .slice (some ⟨kb, 0, none⟩) k.length kc] w (fun e w' => ∃ a c, e = .returned (.tuple #[.slice a n c, .bool ok]) ∧ Below w.heap.size w w' ∧ w'.ownsRow w.heap.size 99 5 (.slice a n c) n (flatP (chainedS l m k))) := fun w h h2 h3 => by
    have := implChained_any (some ⟨lb, 0, none⟩) l.length lc l (some ⟨mb, 0, none⟩) m.length mc m (some ⟨kb, 0, none⟩) k.length kc k w (by omega) hok h (by omega) hmok h2 (by omega) hkok h3
    unfold PairsB at this
    rw [hn, hB] at this
    exact this
  have CS : ∀ w : World, Rd w w.heap.size 3 (some ⟨lb, 0, none⟩) l.length (flat l) → Rd w w.heap.size 3 (some ⟨mb, 0, none⟩) m.length (flat m) → Rd w w.heap.size 3 (some ⟨kb, 0, none⟩) k.length (flat k) → Calls Try.prog 37 #[.slice (some ⟨lb, 0, none⟩) l.length lc, .slice (some ⟨mb, 0, none⟩) m.length mc, .slice (some ⟨kb, 0, none⟩) k.length kc] w (fun e w' => ∃ a c, e = .returned (.tuple #[.slice a n c, .bool ok]) ∧ Below w.heap.size w w' ∧ w'.ownsRow w.heap.size 99 5 (.slice a n c) n (flatP (chainedS l m k))) := fun w h h2 h3 => by
    have := specChained_any (some ⟨lb, 0, none⟩) l.length lc l (some ⟨mb, 0, none⟩) m.length mc m (some ⟨kb, 0, none⟩) k.length kc k w (by omega) hok h (by omega) hmok h2 (by omega) hkok h3
    unfold PairsB at this
    rw [hn, hB] at this
    exact this
  have CJ : ∀ w : World, Rd w w.heap.size 3 (some ⟨mb, 0, none⟩) m.length (flat m) → Rd w w.heap.size 3 (some ⟨lb, 0, none⟩) l.length (flat l) → Rd w w.heap.size 3 (some ⟨kb, 0, none⟩) k.length (flat k) → Calls Try.prog 38 #[.slice (some ⟨mb, 0, none⟩) m.length mc, .slice (some ⟨lb, 0, none⟩) l.length lc, .slice (some ⟨kb, 0, none⟩) k.length kc] w (fun e w' => ∃ a c, e = .returned (.tuple #[.slice a n c, .bool ok]) ∧ Below w.heap.size w w' ∧ w'.ownsRow w.heap.size 99 5 (.slice a n c) n (flatP (chainedS m l k))) := fun w h h2 h3 => by
    have := implChained_any (some ⟨mb, 0, none⟩) m.length mc m (some ⟨lb, 0, none⟩) l.length lc l (some ⟨kb, 0, none⟩) k.length kc k w (by omega) hmok h (by omega) hok h2 (by omega) hkok h3
    unfold PairsB at this
    rw [hn2, hB2] at this
    exact this
  clear hn hB hn2 hB2
  generalize chainedS l m k = G at *
  generalize chainedS m l k = H at *
  go_wp2_with fail
  refine (CI w1 L M N).mono ?_
  rintro e w2 ⟨pa, pc, rfl, hb, hO⟩
  replace B := B.trans (hb.mono B.size)
  replace L := (L.below hb (Nat.le_refl _)).more hb.size
  replace M := (M.below hb (Nat.le_refl _)).more hb.size
  replace N := (N.below hb (Nat.le_refl _)).more hb.size
  clear hb
  have P := Rd.of_own hO
  clear hO CI
  go_wp2_with fail
  refine (CS w2 L M N).mono ?_
  rintro e w3 ⟨qa, qc, rfl, hb, hO⟩
  replace B := B.trans (hb.mono B.size)
  replace L := (L.below hb (Nat.le_refl _)).more hb.size
  replace M := (M.below hb (Nat.le_refl _)).more hb.size
  replace N := (N.below hb (Nat.le_refl _)).more hb.size
  replace P := (P.below hb (Nat.le_refl _)).more hb.size
  clear hb
  have Q := Rd.of_own hO
  clear hO CS
  go_wp2_with fail
  refine (CJ w3 M L N).mono ?_
  rintro e w4 ⟨ra, rc, rfl, hb, hO⟩
  replace B := B.trans (hb.mono B.size)
  replace L := (L.below hb (Nat.le_refl _)).more hb.size
  replace M := (M.below hb (Nat.le_refl _)).more hb.size
  replace N := (N.below hb (Nat.le_refl _)).more hb.size
  replace P := (P.below hb (Nat.le_refl _)).more hb.size
  replace Q := (Q.below hb (Nat.le_refl _)).more hb.size
  clear hb
  clear hO CJ
  clear L
  clear M
  clear N
  cases ok
  · go_wp2_with fail
    refine (samePairs_same pa qa n pc qc G w4 hn3 P Q).mono ?_
    rintro e w5 ⟨rfl, hb⟩
    replace B := B.trans (hb.mono B.size)
    replace P := (P.below hb (Nat.le_refl _)).more hb.size
    replace Q := (Q.below hb (Nat.le_refl _)).more hb.size
    clear hb
    go_wp2_with fail
    go_ret
    exact ⟨rfl, B⟩
  · go_wp2_with fail
    refine (samePairs_same pa qa n pc qc G w4 hn3 P Q).mono ?_
    rintro e w5 ⟨rfl, hb⟩
    replace B := B.trans (hb.mono B.size)
    replace P := (P.below hb (Nat.le_refl _)).more hb.size
    replace Q := (Q.below hb (Nat.le_refl _)).more hb.size
    clear hb
    go_wp2_with fail
    go_ret
    exact ⟨rfl, B⟩
end Go.Proofs.Ytjepmcepgoncnaa

namespace Go.Proofs.Ytjepmcepgoncnaa
open Go.ChangeShapes Go.WideShapes Go.ChangeAt Go.RowKit Go.Joins
open Go.ChangeMaps (open_string shut_string)
namespace ChainTurned

set_option maxRecDepth 100000 in
theorem lifted (os : Os) (started : os.Started) (H : Type) (enc : TypeId × Value → H) :
    ReturnsInHanded {} Try.checked os 9 .any (Rows.fnChainTurnedSpec.pre6 enc Try.prog Try.f9 Rows.fnChainTurnedRow.domain false) (Rows.fnChainTurnedSpec.post enc Try.prog Try.f9 false true false false) := by
  refine returnsInHanded_of_change (C := Try.checked) own started (by kernel_rfl) Try.func9
    (ChangeSpec.witness6 (enc := enc) (C := Try.checked) false ⟨#[], #[.slice none 0 0], []⟩ 8 (by kernel_rfl) (by kernel_rfl) (by kernel_rfl) (by kernel_rfl)) ?_
  intro W base args ds gs before hval0 hW _ _
  have hval : ∀ (j : Nat) t v, Try.f9.params[j]? = some t → args[j]? = some v → Value.okWide Try.prog W .any base t v := hval0
  have hW' := hW
  obtain ⟨p, q, hA0, hV, rfl, _, _⟩ := hW
  have hA : DataW.TrodAll enc Try.prog W 0 (fun _ => true) true Try.f9.params.toList args.toList ds p := hA0
  rw [Try.params9] at hA hval
  obtain ⟨v0, vs0, d0, ds0, p0, q0, hargs, rfl, rfl, h0, r0⟩ := trodAll_cons hA
  obtain ⟨rfl, rfl, rfl⟩ := trodAll_nil r0
  obtain rfl : args = #[v0] := by cases args; simp_all
  obtain ⟨rfl, rfl⟩ := trodVars_none hV
  have k0 := h0
  have lt0 : ∀ x ∈ p0, x.block < W.heap.size := by obtain ⟨m, hm⟩ := k0; exact DataW.trod_lt m _ _ _ hm
  obtain ⟨a0, len0, cap0, z0, rfl, w0⟩ := open_Bytes (hval 0 31 v0 rfl rfl) h0
  clear hA0 hval0
  refine (walk_ChainTurned a0 len0 cap0 z0 W w0).mono fun e W' ⟨he, bel⟩ => ?_
  subst he
  exact ⟨_, rfl, _, _, _, [], _, [], hW', trodAll_mk1 (shut_bool Try.underlying4 _), (trodAll_cons_mk (Below.trod laidOut (by kernel_rfl) (of_decide_eq_true (by kernel_rfl)) k0 bel lt0) trodAll_mk0), rfl, bel.frame _, fun h => by cases h⟩

theorem over : Rows.fnChainTurnedRow.holds Try.pinned (OpenSpec.ofChange Rows.fnChainTurnedSpec) :=
  OpenClaim.holds_of_wide 9 Try.f9 rfl rfl rfl rfl rfl rfl rfl ⟨rfl, rfl, rfl, rfl, rfl⟩ rfl rfl rfl rfl rfl (by kernel_rfl) Try.func9 (by kernel_rfl)
    (of_decide_eq_true (by kernel_rfl)) (by unfold Func.isWrapper; first | (rw [if_pos (by decide +kernel)]; kernel_rfl) | (rw [if_neg (by decide +kernel)]; exact ⟨rfl, rfl⟩))
    (fun os started H enc _ => lifted os started H enc)
end ChainTurned
theorem fnChainTurned_holds : Rows.FnChainTurnedSaid := ChainTurned.over
end Go.Proofs.Ytjepmcepgoncnaa
