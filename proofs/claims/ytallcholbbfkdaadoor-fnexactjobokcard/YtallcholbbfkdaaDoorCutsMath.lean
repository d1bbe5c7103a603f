/-
  The order of byte strings, cuts that are strictly increasing, and the number of cuts that are at most a key. No conditions.
-/
import Derived.Test.YtallcholbbfkdaaDoorPlain
namespace Go.Proofs.YtallcholbbfkdaaDoor
open Go.RowKit

theorem bl_irrefl : ∀ l : List UInt8, Op.bytesLess l l = false
  | [] => rfl
  | a :: x => by simp [Op.bytesLess, bl_irrefl x]
theorem bl_trans : ∀ {x y z : List UInt8}, Op.bytesLess x y = true → Op.bytesLess y z = true → Op.bytesLess x z = true
  | [], [], _, h, _ => by simp [Op.bytesLess] at h
  | [], _ :: _, [], _, h => by simp [Op.bytesLess] at h
  | [], _ :: _, _ :: _, _, _ => rfl
  | _ :: _, [], _, h, _ => by simp [Op.bytesLess] at h
  | _ :: _, _ :: _, [], _, h => by simp [Op.bytesLess] at h
  | a :: x, b :: y, c :: z, h, g => by
    simp only [Op.bytesLess, Bool.or_eq_true, decide_eq_true_eq, Bool.and_eq_true, beq_iff_eq] at h g ⊢
    rcases h with h | ⟨rfl, h⟩
    · rcases g with g | ⟨rfl, g⟩
      · exact .inl (UInt8.lt_trans h g)
      · exact .inl h
    · rcases g with g | ⟨rfl, g⟩
      · exact .inl g
      · exact .inr ⟨rfl, bl_trans h g⟩
theorem bl_total : ∀ {x y : List UInt8}, Op.bytesLess x y = false → x = y ∨ Op.bytesLess y x = true
  | [], [], _ => .inl rfl
  | [], _ :: _, h => by simp [Op.bytesLess] at h
  | _ :: _, [], _ => .inr rfl
  | a :: x, b :: y, h => by
    simp only [Op.bytesLess, Bool.or_eq_false_iff, decide_eq_false_iff_not, Bool.and_eq_false_iff, beq_eq_false_iff_ne] at h
    obtain ⟨h1, h2⟩ := h
    by_cases e : a = b
    · subst e
      have h3 : Op.bytesLess x y = false := by
        rcases h2 with h2 | h2
        · exact absurd rfl h2
        · exact h2
      rcases bl_total h3 with rfl | h4
      · exact .inl rfl
      · exact .inr (by simp [Op.bytesLess, h4])
    · refine .inr ?_
      have : b < a := by
        rcases Nat.lt_or_ge b.toNat a.toNat with h5 | h5
        · exact UInt8.lt_iff_toNat_lt.2 h5
        · exfalso
          apply h1
          rw [UInt8.lt_iff_toNat_lt]
          have : a.toNat ≠ b.toNat := fun e' => e (UInt8.toNat_inj.1 e')
          omega
      simp [Op.bytesLess, this]
theorem bl_asymm {x y : List UInt8} (h : Op.bytesLess x y = true) : Op.bytesLess y x = false := by
  cases g : Op.bytesLess y x
  · rfl
  · have := bl_trans h g
    rw [bl_irrefl] at this; cases this

/-- c is at most key. -/
def leB (key c : ByteArray) : Bool := Op.bytesLess c.toList key.toList || c.toList == key.toList
theorem leB_of_not {key c : ByteArray} (h : Op.bytesLess key.toList c.toList = false) : leB key c = true := by
  rcases bl_total h with e | e
  · simp [leB, e]
  · simp [leB, e]
theorem leB_no {key c : ByteArray} (h : Op.bytesLess key.toList c.toList = true) : leB key c = false := by
  have h1 := bl_asymm h
  have h2 : (c.toList == key.toList) = false := by
    rw [beq_eq_false_iff_ne]
    intro e
    rw [e, bl_irrefl] at h
    cases h
  simp [leB, h1, h2]

/-- The cut at k is not as it must be: it is too long, or the one ahead of it is not less. -/
def badAt (ss : List ByteArray) (k : Nat) : Bool := match ss[k]? with
  | none => false
  | some s => decide (12 < s.size) || (decide (0 < k) && !Op.bytesLess (ss[k - 1]?.getD ByteArray.empty).toList s.toList)
def CutTo (ss : List ByteArray) (k : Nat) : Prop := ∀ j, j < k → badAt ss j = false
def cutsB (ss : List ByteArray) : Bool := decide (ss.length < 8) && (List.range ss.length).all fun j => !badAt ss j
theorem CutTo.zero (ss : List ByteArray) : CutTo ss 0 := fun _ h => absurd h (by omega)
theorem CutTo.succ {ss : List ByteArray} {k : Nat} (h : CutTo ss k) (hk : badAt ss k = false) : CutTo ss (k + 1) := fun j hj => by
  rcases Nat.lt_or_ge j k with h1 | h1
  · exact h j h1
  · obtain rfl : j = k := by omega
    exact hk
theorem cutsB_no {ss : List ByteArray} {k : Nat} (hk : k < ss.length) (h : badAt ss k = true) : cutsB ss = false := by
  unfold cutsB
  have : ((List.range ss.length).all fun j => !badAt ss j) = false := by
    rw [Bool.eq_false_iff]
    intro hh
    have := List.all_eq_true.1 hh k (List.mem_range.2 hk)
    rw [h] at this; cases this
  rw [this, Bool.and_false]
theorem cutsB_all {ss : List ByteArray} {k : Nat} (h : CutTo ss k) (hk : ss.length ≤ k) : cutsB ss = decide (ss.length < 8) := by
  unfold cutsB
  have : ((List.range ss.length).all fun j => !badAt ss j) = true := by
    rw [List.all_eq_true]
    intro j hj
    rw [h j (by have := List.mem_range.1 hj; omega)]; rfl
  rw [this, Bool.and_true]
theorem cutsB_long {ss : List ByteArray} (h : ¬ ss.length < 8) : cutsB ss = false := by simp [cutsB, h]
theorem cutsB_good {ss : List ByteArray} (h : cutsB ss = true) : ss.length < 8 ∧ ∀ k, k < ss.length → badAt ss k = false := by
  simp only [cutsB, Bool.and_eq_true, decide_eq_true_eq, List.all_eq_true, List.mem_range, Bool.not_eq_true'] at h
  exact h
theorem badAt_long {ss : List ByteArray} {k : Nat} {s : ByteArray} (h : ss[k]? = some s) (hs : ¬ s.size ≤ 12) : badAt ss k = true := by
  simp only [badAt, h]
  have : decide (12 < s.size) = true := by simp; omega
  rw [this, Bool.true_or]
theorem badAt_zero {ss : List ByteArray} {s : ByteArray} (h : ss[0]? = some s) (hs : s.size ≤ 12) : badAt ss 0 = false := by
  simp only [badAt, h]
  have : decide (12 < s.size) = false := by simp; omega
  rw [this]; rfl
theorem badAt_succ {ss : List ByteArray} {k : Nat} {p s : ByteArray} (hp : ss[k]? = some p) (h : ss[k + 1]? = some s) (hs : s.size ≤ 12) : badAt ss (k + 1) = !Op.bytesLess p.toList s.toList := by
  have h1 : decide (12 < s.size) = false := by simp; omega
  simp [badAt, h, h1, hp]

/-- In cuts that are as they must be, a later one is greater. -/
theorem cuts_lt {ss : List ByteArray} (h : cutsB ss = true) : ∀ (d i : Nat) (x y : ByteArray), ss[i]? = some x → ss[i + d + 1]? = some y → Op.bytesLess x.toList y.toList = true := by
  obtain ⟨_, hg⟩ := cutsB_good h
  have one : ∀ (i : Nat) (x y : ByteArray), ss[i]? = some x → ss[i + 1]? = some y → Op.bytesLess x.toList y.toList = true := by
    intro i x y hx hy
    have hb := hg (i + 1) (List.getElem?_eq_some_iff.1 hy).1
    have hs : y.size ≤ 12 := by
      rcases Nat.lt_or_ge 12 y.size with h' | h'
      · rw [badAt_long hy (by omega)] at hb; cases hb
      · exact h'
    rw [badAt_succ hx hy hs] at hb
    simpa using hb
  intro d
  induction d with
  | zero => intro i x y hx hy; exact one i x y hx hy
  | succ d ih =>
    intro i x y hx hy
    have hl := (List.getElem?_eq_some_iff.1 hy).1
    have hm : ss[i + d + 1]? = some ss[i + d + 1] := List.getElem?_eq_getElem (by omega)
    exact bl_trans (ih i x _ hx hm) (one (i + d + 1) _ y hm hy)

/-- How many cuts are at most key. -/
def rangeN (ss : List ByteArray) (key : ByteArray) : Nat := ss.countP (leB key)
theorem rangeN_le (ss : List ByteArray) (key : ByteArray) : rangeN ss key ≤ ss.length := List.countP_le_length
theorem countP_split {ss : List ByteArray} {key : ByteArray} {k : Nat} (hk : k ≤ ss.length) (h1 : ∀ j x, j < k → ss[j]? = some x → leB key x = true) (h2 : ∀ j x, k ≤ j → ss[j]? = some x → leB key x = false) : rangeN ss key = k := by
  unfold rangeN
  have e : ss = ss.take k ++ ss.drop k := (List.take_append_drop k ss).symm
  rw [e, List.countP_append]
  have a : (ss.take k).countP (leB key) = k := by
    rw [List.countP_eq_length.2, List.length_take, Nat.min_eq_left hk]
    intro x hx
    obtain ⟨j, hj, e'⟩ := List.mem_iff_getElem.1 hx
    rw [List.getElem_take] at e'
    have hj' : j < k := by simp at hj; omega
    exact h1 j x hj' (by rw [List.getElem?_eq_getElem (by omega), e'])
  have b : (ss.drop k).countP (leB key) = 0 := by
    rw [List.countP_eq_zero]
    intro x hx
    obtain ⟨j, hj, e'⟩ := List.mem_iff_getElem.1 hx
    rw [List.getElem_drop] at e'
    have := h2 (k + j) x (by omega) (by rw [List.getElem?_eq_getElem (by simp at hj; omega), e'])
    rw [this]; simp
  rw [a, b]; rfl
/-- The cuts ahead of k are at most key; the one at k is greater: there are k of them. -/
theorem rangeN_at {ss : List ByteArray} {key : ByteArray} {k : Nat} {s : ByteArray} (hc : cutsB ss = true) (hs : ss[k]? = some s) (h1 : ∀ j x, j < k → ss[j]? = some x → Op.bytesLess key.toList x.toList = false) (h2 : Op.bytesLess key.toList s.toList = true) : rangeN ss key = k := by
  have hk := (List.getElem?_eq_some_iff.1 hs).1
  refine countP_split (by omega) (fun j x hj hx => leB_of_not (h1 j x hj hx)) (fun j x hj hx => ?_)
  rcases Nat.lt_or_ge k j with h | h
  · exact leB_no (bl_trans h2 (cuts_lt hc (j - k - 1) k s x hs (by rw [show k + (j - k - 1) + 1 = j by omega]; exact hx)))
  · obtain rfl : j = k := by omega
    rw [hs] at hx; injection hx with e; rw [← e]; exact leB_no h2
theorem rangeN_all {ss : List ByteArray} {key : ByteArray} {k : Nat} (hk : k = ss.length) (h1 : ∀ j x, j < k → ss[j]? = some x → Op.bytesLess key.toList x.toList = false) : rangeN ss key = k :=
  countP_split (by omega) (fun j x hj hx => leB_of_not (h1 j x hj hx)) (fun j x hj hx => by
    have := (List.getElem?_eq_some_iff.1 hx).1
    omega)
theorem rangeN_take {ss : List ByteArray} {key s : ByteArray} {k : Nat} (h : ss[k]? = some s) : rangeN (ss.take (k + 1)) key = rangeN (ss.take k) key + (leB key s).toNat := by
  have hk := (List.getElem?_eq_some_iff.1 h).1
  have e : ss[k] = s := by rw [List.getElem?_eq_getElem hk] at h; injection h
  unfold rangeN
  rw [List.take_succ_eq_append_getElem hk, List.countP_append, e]
  cases hb : leB key s <;> simp [hb]
/-- What RangeOf returns. -/
def rangeOf (ss : List ByteArray) (key : ByteArray) : Int := if cutsB ss = true ∧ key.size ≤ 12 then (rangeN ss key : Int) else -1
end Go.Proofs.YtallcholbbfkdaaDoor
