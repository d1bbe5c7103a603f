/-
  Rows that are dealt to lists: what lies in memory while it goes on, and spec.l2Parted and spec.Parted by their contracts. Condition: at most 1048576 rows.
-/
import Derived.Test.YtallcholbbfkdaaDoorHash
import Derived.Test.YtallcholbbfkdaaDoorRowOrd
import Derived.Test.YtallcholbbfkdaaDoorStrMem
import Derived.Sort.OwnSorted
import Derived.Lib.SlicesCompact
import Derived.Test.YtallcholbbfkdaaDoorCutsMath
import Derived.Test.YtallcholbbfkdaaDoorSortedList
import Derived.Deep.QuietTactic
import Derived.Lib.RowBridge
import Derived.Test.YtallcholbbfkdaaDoorPartMem
import Derived.Maps.AppendAt
import Derived.Deep.RegionLaw
namespace Go.Proofs.YtallcholbbfkdaaDoor
open Go.RowKit

theorem implHashOf_no (s : ByteArray) (w : World) (hs : s.size ≤ maxLen) (h : ¬ s.size ≤ 12) :
    Calls Tryd.prog 124 #[.string s] w fun e w' => e = .returned (.int .i64 (-1)) ∧ w = w' := by
  unfold maxLen at hs
  have hd : decide ((s.size : Int) ≤ 12) = false := by simp; omega
  go_enter Tryd.func124, Tryd.ntmps124
  go_wp2
  go_ret
  exact ⟨rfl, rfl⟩
theorem implHashOf_yes (s : ByteArray) (w : World) (h : s.size ≤ 12) :
    Calls Tryd.prog 124 #[.string s] w fun e w' => e = .returned (.int .i64 (fnv s.data.toList)) ∧ w = w' := by
  have hz := fnv_bd s.data.toList
  obtain ⟨hz0, hz1⟩ := hz
  have hd : decide ((s.size : Int) ≤ 12) = true := by simp; omega
  go_enter Tryd.func124, Tryd.ntmps124
  go_wp2_with (first | (go_at_call 131; refine (fnvOf_any s _ (by unfold maxLen; omega)).mono ?_; rintro e w' ⟨rfl, rfl⟩) | go_in)
  go_ret
  exact ⟨rfl, rfl⟩
/-- What PartOf returns. -/
def partOf (s : ByteArray) (n : Int) : Int := if s.size ≤ 12 ∧ 1 ≤ n ∧ n ≤ 8 then fnv s.data.toList % n else -1
theorem implPartOf_any (s : ByteArray) (n : Int) (w : World) (hs : s.size ≤ maxLen) :
    Calls Tryd.prog 112 #[.string s, .int .i64 n] w fun e w' => e = .returned (.int .i64 (partOf s n)) ∧ w = w' := by
  have hz := fnv_bd s.data.toList
  obtain ⟨hz0, hz1⟩ := hz
  by_cases h : s.size ≤ 12
  · have ht : decide ((s.size : Int) ≤ 12) = true := by simp; omega
    by_cases h1 : 1 ≤ n
    · by_cases h2 : n ≤ 8
      · have E := Lib.hid (show partOf s n = fnv s.data.toList % n from if_pos ⟨h, h1, h2⟩)
        have hd : decide (n ≤ 8) = true := by simpa using h2
        have hd1 : decide (1 ≤ n) = true := by simpa using h1
        go_enter Tryd.func112, Tryd.ntmps112
        go_wp2_with (first | (go_at_call 124; refine (implHashOf_yes s _ h).mono ?_; rintro e w' ⟨rfl, rfl⟩) | go_in)
        go_ret
        exact ⟨ret_int E.out.symm, rfl⟩
      · have E := Lib.hid (show partOf s n = -1 from if_neg (by omega))
        have hd : decide (n ≤ 8) = false := by simpa using h2
        have hd1 : decide (1 ≤ n) = true := by simpa using h1
        go_enter Tryd.func112, Tryd.ntmps112
        go_wp2
        go_ret
        exact ⟨ret_int E.out.symm, rfl⟩
    · have E := Lib.hid (show partOf s n = -1 from if_neg (by omega))
      have hd1 : decide (1 ≤ n) = false := by simpa using h1
      go_enter Tryd.func112, Tryd.ntmps112
      go_wp2
      go_ret
      exact ⟨ret_int E.out.symm, rfl⟩
  · have E := Lib.hid (show partOf s n = -1 from if_neg (by omega))
    unfold maxLen at hs
    have ht : decide ((s.size : Int) ≤ 12) = false := by simp; omega
    go_enter Tryd.func112, Tryd.ntmps112
    go_wp2
    go_ret
    exact ⟨ret_int E.out.symm, rfl⟩
end Go.Proofs.YtallcholbbfkdaaDoor

namespace Go.Proofs.YtallcholbbfkdaaDoor
open Go.RowKit

/-- The bytes of strings. -/
def bytesL (ss : List ByteArray) : List (List UInt8) := ss.map fun s => s.data.toList
def keysB (rs : List RowV) : List ByteArray := rs.map RowV.key
theorem bytesL_enc (ss : List ByteArray) : (bytesL ss).map Go.Proofs.encStr = strC ss := by simp [bytesL, strC, Go.Proofs.encStr]
/-- The keys of the sorted rows. -/
def sortedK (rs : List RowV) : List (List UInt8) := bytesL (keysB (sortL rs))
theorem sortedK_length (rs : List RowV) : (sortedK rs).length = rs.length := by simp [sortedK, bytesL, keysB, sortL_length]
theorem notLess_key {r x : RowV} (h : r.less x = false) : x.key.data.toList ≤ r.key.data.toList := by
  rcases (notLess_iff r x).1 h with h | ⟨h, _⟩
  · exact List.le_of_lt h
  · rw [h]; exact List.le_refl _
theorem sortedK_sorted (rs : List RowV) : (sortedK rs).Pairwise (· ≤ ·) := by
  rw [sortedK, bytesL, keysB, List.map_map, List.pairwise_map]
  exact (sortL_asc rs).imp fun h => notLess_key h
theorem sortedK_get {rs : List RowV} {k : Nat} {r : RowV} (h : (sortL rs)[k]? = some r) : (sortedK rs)[k]? = some r.key.data.toList := by simp [sortedK, bytesL, keysB, h]
end Go.Proofs.YtallcholbbfkdaaDoor

namespace Go.Proofs.YtallcholbbfkdaaDoor
open Go.RowKit

/-- What is picked of the sorted keys. -/
def cutsL (K : List (List UInt8)) (n : Nat) : List (List UInt8) := (List.range (n - 1)).map fun j => K[(j + 1) * K.length / n]!
theorem cutsL_length (K : List (List UInt8)) (n : Nat) : (cutsL K n).length = n - 1 := by simp [cutsL]
theorem cutsL_get {K : List (List UInt8)} {n j : Nat} (h : j < n - 1) : (cutsL K n).toArray[j]! = K[(j + 1) * K.length / n]! := by
  rw [getElem!_pos _ j (by simpa [cutsL] using h)]; simp [cutsL]
theorem pick_lt {len n i : Nat} (hl : 0 < len) (hi : i < n) : i * len / n < len := by
  rw [Nat.div_lt_iff_lt_mul (by omega), Nat.mul_comm]
  exact Nat.mul_lt_mul_of_pos_left hi hl
/-- One pick is at most the next. -/
theorem cutsL_le {K : List (List UInt8)} {n j : Nat} (hK : K.Pairwise (· ≤ ·)) (hl : 0 < K.length) (h : j + 1 < n - 1) : (cutsL K n).toArray[j]! ≤ (cutsL K n).toArray[j + 1]! := by
  rw [cutsL_get (by omega), cutsL_get h]
  have h1 := pick_lt (i := j + 1) (n := n) hl (by omega)
  have h2 := pick_lt (i := j + 1 + 1) (n := n) hl (by omega)
  rw [getElem!_pos K _ h1, getElem!_pos K _ h2]
  have hle : (j + 1) * K.length / n ≤ (j + 1 + 1) * K.length / n := Nat.div_le_div_right (Nat.mul_le_mul_right _ (by omega))
  rcases Nat.lt_or_ge ((j + 1) * K.length / n) ((j + 1 + 1) * K.length / n) with hlt | hge
  · exact (List.pairwise_iff_getElem.1 hK) _ _ h1 h2 hlt
  · have e : (j + 1) * K.length / n = (j + 1 + 1) * K.length / n := by omega
    simp only [e]; exact List.le_refl _
theorem compact_last (d : Array (List UInt8)) : ∀ q, 0 < q → ∃ ys, Lib.compactUpTo d q = ys ++ [d[q - 1]!]
  | 0, h => absurd h (by omega)
  | q + 1, _ => by
    rw [Lib.compactUpTo_succ]
    by_cases hk : Lib.keeps d q = true
    · rw [if_pos hk]; exact ⟨_, rfl⟩
    · rw [if_neg hk, List.append_nil]
      have : ¬ (q = 0 ∨ d[q]! ≠ d[q - 1]!) := by simpa [Lib.keeps] using hk
      obtain ⟨h0, h1⟩ := not_or.1 this
      obtain ⟨ys, hy⟩ := compact_last d q (by omega)
      exact ⟨ys, by rw [hy, Nat.add_sub_cancel, Classical.not_not.1 h1]⟩
theorem compact_zero (d : Array (List UInt8)) : Lib.compactUpTo d 0 = [] := rfl
/-- What is kept is what is greater than the last. -/
theorem keeps_lt {d : Array (List UInt8)} {q : Nat} (hq : 0 < q) (hle : d[q - 1]! ≤ d[q]!) : Lib.keeps d q = Op.bytesLess d[q - 1]! d[q]! := by
  rw [bytesLess_eq, Bool.eq_iff_iff]
  simp only [Lib.keeps, decide_eq_true_eq]
  constructor
  · rintro (h | h)
    · omega
    · by_cases h' : d[q - 1]! < d[q]!
      · exact h'
      · exact absurd (List.le_antisymm (List.not_lt.1 h') hle) h
  · intro h
    right
    intro e
    rw [e] at h
    exact List.lt_irrefl _ h
/-- The cuts. -/
def cutsR (rs : List RowV) (n : Nat) : List (List UInt8) := if rs.length = 0 then [] else Lib.compact (cutsL (sortedK rs) n)
end Go.Proofs.YtallcholbbfkdaaDoor

namespace Go.Proofs.YtallcholbbfkdaaDoor
open Go.RowKit

def inP (N : Int) : Bool := decide (1 ≤ N) && decide (N ≤ 8)
theorem partsOk_b (N : Int) (b : Bool) (w : World) (h : inP N = b) : Calls Tryd.prog 79 #[.int .i64 N] w fun e w' => e = .returned (.bool b) ∧ Below w.heap.size w w' := by
  unfold inP at h
  have E := Lib.hid h
  clear h
  by_cases h1 : 1 ≤ N
  · have d1 : decide (1 ≤ N) = true := by simp [h1]
    go_enter Tryd.func79, Tryd.ntmps79
    go_wp2
    go_ret
    exact ⟨ret_bool (by rw [← E.out, d1, Bool.true_and]), Below.refl _ _⟩
  · have d1 : decide (1 ≤ N) = false := by simp [h1]
    go_enter Tryd.func79, Tryd.ntmps79
    go_wp2
    go_ret
    exact ⟨ret_bool (by rw [← E.out, d1, Bool.false_and]), Below.refl _ _⟩
theorem l1In_b (N : Int) (b : Bool) (w : World) (h : inP N = b) : Calls Tryd.prog 39 #[.int .i64 N, .int .i64 1, .int .i64 8] w fun e w' => e = .returned (.bool b) ∧ Below w.heap.size w w' := by
  unfold inP at h
  have E := Lib.hid h
  clear h
  by_cases h1 : 1 ≤ N
  · have d1 : decide (1 ≤ N) = true := by simp [h1]
    go_enter Tryd.func39, Tryd.ntmps39
    go_wp2
    go_ret
    exact ⟨ret_bool (by rw [← E.out, d1, Bool.true_and]), Below.refl _ _⟩
  · have d1 : decide (1 ≤ N) = false := by simp [h1]
    go_enter Tryd.func39, Tryd.ntmps39
    go_wp2
    go_ret
    exact ⟨ret_bool (by rw [← E.out, d1, Bool.false_and]), Below.refl _ _⟩
/-- What CutsOf returns: nil and false, or the cuts in memory of its own. -/
def CutsOut (rs : List RowV) (N : Int) (w : World) (e : Ending) (w' : World) : Prop :=
  ∃ a m c, e = .returned (.tuple #[.slice a m c, .bool (rowsOk rs && inP N)]) ∧ Below w.heap.size w w' ∧ w'.ownsRow w.heap.size 9 1 (.slice a m c) m ((if (rowsOk rs && inP N) = true then cutsR rs N.toNat else []).map encStr)
theorem own_none (w : World) (base : Nat) : w.ownsRow base 9 1 (.slice none 0 0) 0 (([] : List (List UInt8)).map encStr) := World.ownsRow_nil w base _ _
/-- The place of a pick, as the program reckons it. -/
theorem pick_facts {K : List (List UInt8)} {k n M : Nat} (hk : k + 1 < M) (hM : M ≤ 8) (hn : 0 < n) (hm : n ≤ 1048576) (hl : K.length = n) :
    ∃ (Q : Nat) (s : List UInt8), Q < n ∧ (wrap64 (((k : Int) + 1) * (n : Int)) = ((k : Int) + 1) * (n : Int) ∧ wrap64 ((((k : Int) + 1) * (n : Int)).tdiv (M : Int)) = (Q : Int)) ∧ Q = (k + 1) * n / M ∧ K[(k + 1) * n / M]? = some s := by
  have hQ : (k + 1) * n / M < n := pick_lt hn hk
  have e1 : ((k : Int) + 1) * (n : Int) = (((k + 1) * n : Nat) : Int) := by push_cast; rfl
  have hb : (k + 1) * n ≤ 8 * 1048576 := Nat.mul_le_mul (by omega) hm
  have e2 : (((k + 1) * n : Nat) : Int).tdiv (M : Int) = (((k + 1) * n / M : Nat) : Int) := rfl
  refine ⟨(k + 1) * n / M, K[(k + 1) * n / M]'(by omega), hQ, ⟨?_, ?_⟩, rfl, List.getElem?_eq_getElem (by omega)⟩
  · rw [e1]; generalize (k + 1) * n = P at *; unfold wrap64; omega
  · rw [e1, e2]; generalize (k + 1) * n / M = P at *; unfold wrap64; omega
theorem keyAt {K : List (List UInt8)} {Q : Nat} {s : List UInt8} (h : K[Q]? = some s) : (K.map encStr)[Q]? = some (.string ⟨s.toArray⟩) := by simp [h]
theorem cuts_take_succ {K : List (List UInt8)} {k n M : Nat} {s : List UInt8} (hk : k < M - 1) (h : K[(k + 1) * n / M]? = some s) (hl : K.length = n) : ((cutsL K M).take k).map encStr ++ [.string ⟨s.toArray⟩] = ((cutsL K M).take (k + 1)).map encStr := by
  have hkl : k < (cutsL K M).length := by rw [cutsL_length]; exact hk
  rw [List.take_succ_eq_append_getElem hkl, List.map_append]
  have : (cutsL K M)[k] = s := by
    have h1 := (List.getElem?_eq_some_iff.1 h).1
    simp only [cutsL, List.getElem_map, List.getElem_range, hl]
    rw [getElem!_pos K _ h1]
    rw [List.getElem?_eq_getElem h1] at h; injection h
  rw [this]; rfl
theorem own_compact {w : World} {base e g cap q : Nat} {zs ts rest : List (List UInt8)} (h : w.ownsRow base e 1 (.slice (some ⟨g, 0, none⟩) zs.length cap) zs.length (zs.map encStr)) (hl : (ts ++ rest).length = zs.length) :
    (Sort.putRow encStr (Sort.ahead w q) g 0 (ts ++ rest).toArray).ownsRow base e 1 (.slice (some ⟨g, 0, none⟩) ts.length cap) ts.length (ts.map encStr) ∧ w.grownBy (Sort.putRow encStr (Sort.ahead w q) g 0 (ts ++ rest).toArray) (some g) := by
  rcases h.2 with ⟨h0, _⟩ | ⟨g', cap', cur, hv, hgb, hbk, h1, h2, h3, h4⟩
  · cases h0
  obtain ⟨rfl, rfl⟩ : g = g' ∧ cap = cap' := by injection hv with e1 _ e3; injection e1 with e1; injection e1 with e1; exact ⟨e1, e3⟩
  have hh := heap_sorted (n := q) (os := #[]) (ts ++ rest).toArray hbk
  have hg := grownBy_sorted (w := w) (g := g) (n := q) (os := #[]) (ts ++ rest).toArray
  rw [Sort.grow_empty] at hh hg
  refine ⟨⟨by simp, .inr ⟨g, cap, _, rfl, hgb, hh, ?_, h2, by simp [Sort.putCells, h3], ?_⟩⟩, hg⟩
  · have : ts.length ≤ (ts ++ rest).length := by simp
    omega
  · have ht := take_putCells cur (ts ++ rest) (by omega)
    rw [Nat.mul_one]
    have e : ((Sort.putCells encStr 0 (ts ++ rest).toArray cur).toList.take (ts ++ rest).length).take ts.length = (Sort.putCells encStr 0 (ts ++ rest).toArray cur).toList.take ts.length := by
      rw [List.take_take, Nat.min_eq_left (by simp)]
    rw [← e, ht]; simp
end Go.Proofs.YtallcholbbfkdaaDoor

namespace Go.Proofs.YtallcholbbfkdaaDoor
open Go.RowKit

/-- The rows by their lists: list i has the rows whose number is i, in order. -/
def partsL (f : RowV → Nat) (n : Nat) (l : List RowV) : List (List RowV) := (List.range n).map fun i => l.filter fun r => f r == i
theorem partsL_length (f : RowV → Nat) (n : Nat) (l : List RowV) : (partsL f n l).length = n := by simp [partsL]
theorem partsL_get {f : RowV → Nat} {n i : Nat} {l : List RowV} (h : i < n) : (partsL f n l)[i]? = some (l.filter fun r => f r == i) := by simp [partsL, h]
theorem partsL_step {f : RowV → Nat} {n : Nat} {l : List RowV} {r : RowV} (h : f r < n) : (partsL f n l).set (f r) ((l.filter fun x => f x == f r) ++ [r]) = partsL f n (l ++ [r]) := by
  apply List.ext_getElem?
  intro i
  by_cases e : f r = i
  · subst e
    rw [List.getElem?_set_self (by rw [partsL_length]; exact h), partsL_get h]
    simp
  · rw [List.getElem?_set_ne e]
    rcases Nat.lt_or_ge i n with hi | hi
    · rw [partsL_get hi, partsL_get hi]
      simp [e]
    · rw [List.getElem?_eq_none (by rw [partsL_length]; exact hi), List.getElem?_eq_none (by rw [partsL_length]; exact hi)]
theorem partsL_nil (f : RowV → Nat) (n : Nat) : partsL f n [] = List.replicate n [] := by
  unfold partsL
  simp only [List.filter_nil]
  rw [List.map_const']
  simp
theorem filter_le_take {f : RowV → Nat} {i k : Nat} {l : List RowV} : ((l.take k).filter fun r => f r == i).length ≤ k := Nat.le_trans (List.length_filter_le _ _) (by simp; omega)
theorem rowsIn_replicate (n : Nat) : rowsIn (List.replicate n []) = 0 := by
  induction n with
  | zero => rfl
  | succ n ih => rw [List.replicate_succ, rowsIn, ih]; rfl
theorem rowsIn_set {ps : List (List RowV)} {i : Nat} {a b : List RowV} (h : ps[i]? = some a) : rowsIn (ps.set i b) + a.length = rowsIn ps + b.length := by
  induction ps generalizing i with
  | nil => simp at h
  | cons r ps ih =>
    cases i with
    | zero => simp at h; subst h; simp only [List.set_cons_zero, rowsIn]; omega
    | succ i =>
      have := ih (i := i) (by simpa using h)
      simp only [List.set_cons_succ, rowsIn]
      omega
theorem rowsIn_partsL (f : RowV → Nat) (n : Nat) (l : List RowV) (h : ∀ r ∈ l, f r < n) : rowsIn (partsL f n l) = l.length := by
  rcases List.eq_nil_or_concat l with rfl | ⟨l', r, rfl⟩
  · rw [partsL_nil, rowsIn_replicate]; rfl
  · rw [List.concat_eq_append] at h ⊢
    have hr := h r (by simp)
    have ih := rowsIn_partsL f n l' (fun x hx => h x (by simp [hx]))
    have h1 := rowsIn_set (b := (l'.filter fun x => f x == f r) ++ [r]) (partsL_get (f := f) (l := l') hr)
    rw [partsL_step hr, ih] at h1
    simp at h1 ⊢
    omega
termination_by l.length
decreasing_by simp_all
theorem Fam.nils (w : World) (lo n : Nat) : Fam w lo (List.replicate n (.slice none 0 0)) (List.replicate n []) := by
  refine ⟨by simp, ?_, ?_⟩
  · intro i v rs hv hr
    have e1 : v = .slice none 0 0 := by
      have := List.mem_of_getElem? hv
      exact (List.mem_replicate.1 this).2
    have e2 : rs = [] := by
      have := List.mem_of_getElem? hr
      exact (List.mem_replicate.1 this).2
    subst e1 e2
    exact World.ownsRow_nil w lo _ _
  · intro i j v u g _ hv _ hg
    have e1 : v = .slice none 0 0 := (List.mem_replicate.1 (List.mem_of_getElem? hv)).2
    subst e1
    cases hg
/-- The list p is written anew; its slice is stored into the outer list. -/
theorem POwn.put {w w' : World} {lo g n c p : Nat} {vs : List Value} {ps : List (List RowV)} {v v' : Value} {rs' : List RowV} (h : POwn w lo (some ⟨g, 0, none⟩) n c vs ps) (hv : vs[p]? = some v) (hg : w.grownBy w' v.ownBlock) (hO : w'.ownsRow lo 68 3 v' rs'.length (flat rs')) (hat : v'.ownBlock = v.ownBlock ∨ v'.ownBlock = some w.heap.size) : POwn (w'.setCell ⟨g, p, none⟩ v') lo (some ⟨g, 0, none⟩) n c (vs.set p v') (ps.set p rs') := by
  have hmem := List.mem_of_getElem? hv
  have hgo : (Value.slice (some ⟨g, 0, none⟩) n c).ownBlock = some g := rfl
  have hgw := (own_ge h.outer g hgo).2
  have F := h.fam.set hv hg hO (hat.imp id fun e g' hg' => by rw [e] at hg'; injection hg' with e'; omega)
  have ho : w'.ownsRow lo 39 1 (.slice (some ⟨g, 0, none⟩) n c) n vs := own_other h.outer hg (fun g' h1 h2 => h.out v hmem g' h2 h1)
  have hout : ∀ u ∈ vs.set p v', ∀ g', u.ownBlock = some g' → (Value.slice (some ⟨g, 0, none⟩) n c).ownBlock ≠ some g' := by
    intro u hu g' hg' he
    rw [hgo] at he
    injection he with he
    rcases List.mem_or_eq_of_mem_set hu with hu | rfl
    · exact h.out u hu g' hg' (by rw [hgo, he])
    · rcases hat with e | e
      · exact h.out v hmem g' (e ▸ hg') (by rw [hgo, he])
      · rw [e] at hg'; injection hg' with e'; omega
  refine ⟨(ho.stored p v').1, ⟨F.len, fun i u rs hu hr => ?_, F.sep⟩, hout⟩
  refine own_other (F.own i u rs hu hr) (gb_store (World.grownBy.refl w' (some g)) p v') (fun g' h1 h2 => ?_)
  injection h2 with h2
  exact hout u (List.mem_of_getElem? hu) g' h1 (by rw [hgo, h2])
theorem infoPart : (Tryd.prog.info? 39).map (fun i => (i.zero, i.size, i.bytes)) = some (some (.agg #[.slice none 0 0]), 1, 24) := by kernel_rfl
theorem made_parts (n : Nat) : (madeCells (Value.agg #[.slice none 0 0]).cells (n * 1)).toList = List.replicate n (.slice none 0 0) := by
  have h : ∀ x : Nat, [Value.slice none 0 0][x % 1]?.getD default = Value.slice none 0 0 := fun x => by rw [Nat.mod_one]; rfl
  simp [madeCells, Value.cells, h]
  exact (List.map_const' ..).trans (by rw [List.length_range])
/-- append to an owned slice, as one step of a region that draws its order. -/
theorem step_append_own_at {P : Program} {ops : Array Oper} {o : Oper} {a : Act} {w : World} {K : Act → World → Prop} {Q : Exit → Act → World → Prop} {E : Prop}
    (hgd : o.guard = none) (s x : Operand) (t : TypeId) (hop : o.op = Op.call { callee := Callee.builtin Builtin.append, args := #[s, x], argTypes := #[t, t] })
    (base : Nat) (e : TypeId) (i : TypeInfo) (z : Value) (size bytes : Nat) (ht : P.underlying t = some (.slice e)) (hi : P.info? e = some i) (hz : i.zero = some z)
    (hsize : i.size = size) (hby : i.bytes = bytes) (hzs : z.cells.size = size) (hsz : 0 < size)
    (v : Value) (n : Nat) (xs : List Value) (hs : a.eval s = v) (hown : w.ownsRow base e size v n xs)
    (ad : Addr) (m c : Nat) (news : List Value) (hx : a.eval x = .slice (some ad) m c) (hl : news.length = m * size) (hnews : ∀ j u, news[j]? = some u → w.cell? (ad.add j) = some u) (h1 : ∀ u ∈ news, u.oneCell' = true)
    (h63 : n + m ≤ maxLen) (hbytes : (n + m) * bytes ≤ 140737488355328) (hbase : base ≤ w.heap.size)
    (h : ∀ v' w', w'.ownsRow base e size v' (n + m) (xs ++ news) → w.grownBy w' v.ownBlock → (v'.ownBlock = v.ownBlock ∨ v'.ownBlock = some w.heap.size) → K (a.put o.dst v') w') :
    if Region.wanted o (yielded ops a.tmps) = true then Oper.wp P o a w K Q else E := by
  have hw : Region.wanted o (yielded ops a.tmps) = true := by simp [Region.wanted, hgd]
  rw [if_pos hw]
  obtain ⟨v', w', hr, h2, h3, h4, h5⟩ := run_append_own_at (P := P) w base t o.type e i z size bytes ht hi hz hsize hby hzs hsz v n xs hown ad m c news hl hnews h1 h63 hbytes hbase
  unfold Oper.wp
  simp [execOp, hop, resolve, invoke, builtin, hs, hx, hr, Result.andThen]
  exact h v' w' h2 h3 h5
theorem row_new (w : World) (r : RowV) (t : TypeId) : ∀ j u, [Value.string r.key, .int .i64 r.tag, .string r.val][j]? = some u → (w.alloc (.cells #[.string r.key, .int .i64 r.tag, .string r.val] t)).cell? ((⟨w.heap.size, 0, none⟩ : Addr).add j) = some u := by
  intro j u hj
  match j, hj with
  | 0, hj => simp at hj; subst hj; simp [Addr.add, go_sem]
  | 1, hj => simp at hj; subst hj; simp [Addr.add, go_sem]
  | 2, hj => simp at hj; subst hj; simp [Addr.add, go_sem]
theorem row_one (r : RowV) : ∀ u ∈ [Value.string r.key, .int .i64 r.tag, .string r.val], u.oneCell' = true := by
  intro u hu
  simp at hu
  rcases hu with rfl | rfl | rfl <;> rfl
/-- The number of a row's part. -/
def partF (M : Nat) (r : RowV) : Nat := (fnv r.key.data.toList).toNat % M
theorem partF_int {M : Nat} (hM : 0 < M) (r : RowV) : fnv r.key.data.toList % (M : Int) = (partF M r : Int) ∧ partF M r < M := by
  have := fnv_bd r.key.data.toList
  refine ⟨?_, Nat.mod_lt _ hM⟩
  unfold partF
  generalize fnv r.key.data.toList = z at *
  obtain ⟨k, rfl⟩ : ∃ k : Nat, z = k := ⟨z.toNat, by omega⟩
  simp
set_option maxRecDepth 100000 in
set_option maxHeartbeats 4000000 in
theorem l2Parted_any (a : Option Addr) (n cap M : Nat) (rs : List RowV) (w : World) (hm : n ≤ 1048576) (hM1 : 1 ≤ M) (hM8 : M ≤ 8) (hok : ∀ r ∈ rs, r.Ok) (hR : Rd w w.heap.size 3 a n (flat rs)) :
    Calls Tryd.prog 81 #[.slice a n cap, .int .i64 M] w fun e w' => ∃ g vs, e = .returned (.slice (some ⟨g, 0, none⟩) M M) ∧ Below w.heap.size w w' ∧ POwn w' w.heap.size (some ⟨g, 0, none⟩) M M vs (partsL (partF M) M rs) := by
  obtain ⟨i0, hi, hz0, hz1, hz2⟩ := info_parts infoRow
  obtain ⟨i1, hj, hy0, hy1, hy2⟩ := info_parts infoPart
  have hl := Lib.hid hR.rows_length
  go_enter Tryd.func81, Tryd.ntmps81
  go_wp2_with (at_make; refine wpList_make_full _ rfl _ _ 24 rfl w.heap.size 39 i1 (.agg #[.slice none 0 0]) 1 Tryd.underlying24 hj hy0 hy1 .i64 .i64 _ _ M rfl rfl (by omega) (by omega) (by rw [hy2]; omega) (by unfold maxLen; omega) (Nat.le_refl _) ?_; intro w1 hown hgrow)
  rw [made_parts] at hown
  have hb1 := (Below.refl w.heap.size w).grown hgrow (Nat.le_refl _) (by simp)
  have hP1 : POwn w1 w.heap.size (some ⟨w.heap.size, 0, none⟩) M M (List.replicate M (.slice none 0 0)) (partsL (partF M) M (rs.take 0)) := by
    rw [List.take_zero, partsL_nil]
    refine ⟨hown, Fam.nils _ _ _, fun v hv g hg => ?_⟩
    have e1 : v = .slice none 0 0 := (List.mem_replicate.1 hv).2
    subst e1
    cases hg
  clear hgrow hown
  go_loopw [6] (fun i wr => ∃ (k : Nat) (vs : List Value), k ≤ n ∧ i = .int .i64 k ∧ Below w.heap.size w wr ∧ POwn wr w.heap.size (some ⟨w.heap.size, 0, none⟩) M M vs (partsL (partF M) M (rs.take k))) (fun i _ => n - (intOf i).toNat)
  case atStart => exact ⟨0, _, Nat.zero_le _, rfl, hb1, hP1⟩
  case round =>
    obtain ⟨k, vs, hk, rfl, hb, hP⟩ := hrel
    clear hP1 hb1
    by_cases hlt : k < n
    · obtain ⟨b, off, r, rfl, hB, hr, c0, c1, c2⟩ := (hR.below hb (Nat.le_refl _)).row hlt
      have hro := RowV.Ok.of hok hr
      have hz := fnv_bd r.key.data.toList
      obtain ⟨hp1, hp2⟩ := partF_int (by omega : 0 < M) r
      have Hp := Lib.hid hp1
      have HS := Lib.hid (show (partsL (partF M) M (rs.take k)).set (partF M r) (((rs.take k).filter fun x => partF M x == partF M r) ++ [r]) = partsL (partF M) M (rs.take (k + 1)) by
        rw [partsL_step hp2]
        have hkl := (List.getElem?_eq_some_iff.1 hr).1
        have e : rs[k] = r := by rw [List.getElem?_eq_getElem hkl] at hr; injection hr
        rw [List.take_succ_eq_append_getElem hkl, e])
      obtain ⟨va, vc, l, hv1, hv2, hv3⟩ := hP.fam.at_ (i := partF M r) (by rw [partsL_length]; exact hp2)
      obtain rfl : l = (rs.take k).filter fun x => partF M x == partF M r := by rw [partsL_get hp2] at hv2; injection hv2 with e; exact e.symm
      have hll := filter_le_take (f := partF M) (i := partF M r) (k := k) (l := rs)
      generalize (rs.take k).filter (fun x => partF M x == partF M r) = l at *
      have d0 : wr.cell? ⟨w.heap.size, partF M r, none⟩ = some (.slice va l.length vc) := by
        rw [hP.outer.cellAt (partF M r) (by omega)]; exact hv1
      have f0 := hP.outer.frozenAt (partF M r)
      clear hv2 hp1 hr
      generalize partF M r = p at *
      go_wp2_with fail
      refine (l2Hash_any r.key _ hro.1).mono ?_
      rintro e w2 ⟨rfl, rfl⟩
      generalize fnv r.key.data.toList = z at *
      obtain ⟨hz0', hz1'⟩ := hz
      go_wp2_with fail
      rw [Hp.out]
      have hbA := (hb.alloc hb.size (.cells #[.string r.key, .int .i64 r.tag, .string r.val] 68)).drew
      have hPA := (hP.below (bl1 wr (.cells #[.string r.key, .int .i64 r.tag, .string r.val] 68))).below (Below.refl _ _).drew
      have hvA := own_below (own_below hv3 (bl1 wr (.cells #[.string r.key, .int .i64 r.tag, .string r.val] 68))) (Below.refl _ _).drew
      have hnew := row_new wr r 68
      have hlm : l.length + 1 ≤ maxLen := by unfold maxLen; omega
      have hlb : (l.length + 1) * 40 ≤ 140737488355328 := by omega
      have dA : (wr.alloc (.cells #[.string r.key, .int .i64 r.tag, .string r.val] 68)).cell? ⟨w.heap.size, p, none⟩ = some (.slice va l.length vc) := by
        rw [World.cell?_alloc_some _ _ _ (by rw [d0]; rfl)]; exact d0
      have HB := Lib.hid hbA
      have HP := Lib.hid hPA
      have HV := Lib.hid hvA
      have HN := Lib.hid hnew
      clear hb hP hv3 hbA hPA hvA hnew
      go_region_law (refine step_append_own_at rfl (.tmp 30) (.tmp 35) 27 rfl w.heap.size 68 i0 (.agg #[.string ⟨#[]⟩, .int .i64 0, .string ⟨#[]⟩]) 3 40 Tryd.underlying27 hi hz0 hz1 hz2 rfl (by decide) (.slice va l.length vc) l.length (flat l) rfl HV.out ⟨wr.heap.size, 0, none⟩ 1 1 [.string r.key, .int .i64 r.tag, .string r.val] rfl rfl HN.out (row_one r) hlm hlb HB.out.size ?_; intro v' w3 hO3 hg3 hat; obtain ⟨a3, c3, rfl⟩ := own_slice' hO3; have hPo := own_other HP.out.outer hg3 (fun g h1 h2 => HP.out.out _ (List.mem_of_getElem? hv1) g h2 h1); obtain ⟨u0, e0⟩ := own_cell hPo (j := p) (by omega); have f1 := hPo.frozenAt p)
      all_goals
        have hO3' : w3.ownsRow w.heap.size 68 3 (.slice a3 (l.length + 1) c3) (l ++ [r]).length (flat (l ++ [r])) := by
          rw [flat_append]; simpa [flat, RowV.cells] using hO3
        have hgb := HB.out.grown hg3 HB.out.size (fun q e => (own_ge HV.out q e).1)
        have hPn := HP.out.put hv1 hg3 hO3' hat
        rw [HS.out] at hPn
        have hbn := hgb.setCell (p := ⟨w.heap.size, p, none⟩) (Nat.le_refl _) (.slice a3 (l.length + 1) c3)
        clear hO3 hg3 hat hPo hgb hO3'
        go_wp2_with fail
        go_roundw
        case rel => exact ⟨k + 1, _, by omega, by go_num, hbn, hPn⟩
        case measure => simp [intOf]; omega
    · obtain rfl : k = n := by omega
      rw [List.take_of_length_le (by rw [hl.out]; omega)] at hP
      go_wp2_with fail
      go_ret
      exact ⟨_, vs, rfl, hb, hP⟩
end Go.Proofs.YtallcholbbfkdaaDoor
