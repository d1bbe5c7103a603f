/-
  What impl.joined walks through: one key a step.
-/
import Derived.Test.YtgdbpckobngmjaaLeading
import Derived.Test.YtgdbpckobngmjaaReturns
namespace Go.Proofs.Ytgdbpckobngmjaa
open Go.RowKit
/-- The pairs of the first key of both lists. -/
def joinStep (k : JK) (a b : List RowV) : List PairV :=
  if k.ret (decide (0 < leadN (firstK a b) a)) (decide (0 < leadN (firstK a b) b)) = true then pairsOfK k (firstK a b) (a.take (leadN (firstK a b) a)) (b.take (leadN (firstK a b) b)) else []
/-- The pairs of the first f keys. -/
def joinF (k : JK) : Nat → List RowV → List RowV → List PairV
  | 0, _, _ => []
  | f + 1, a, b => if a.length + b.length = 0 then [] else joinStep k a b ++ joinF k f (a.drop (leadN (firstK a b) a)) (b.drop (leadN (firstK a b) b))
def joinL (k : JK) (a b : List RowV) : List PairV := joinF k (a.length + b.length) a b
theorem joinF_none (k : JK) (f : Nat) {a b : List RowV} (h : a.length + b.length = 0) : joinF k f a b = [] := by
  cases f with
  | zero => rfl
  | succ f => exact if_pos h
theorem joinF_next (k : JK) (f : Nat) {a b : List RowV} (h : a.length + b.length ≠ 0) : joinF k (f + 1) a b = joinStep k a b ++ joinF k f (a.drop (leadN (firstK a b) a)) (b.drop (leadN (firstK a b) b)) := if_neg h
theorem leadN_head (x : RowV) (l : List RowV) : 0 < leadN x.key (x :: l) := by simp [leadN, leadL]
theorem first_lead {a b : List RowV} (h : a.length + b.length ≠ 0) : 0 < leadN (firstK a b) a + leadN (firstK a b) b := by
  match a, b with
  | [], [] => exact absurd rfl h
  | [], y :: l => have : firstK [] (y :: l) = y.key := rfl; rw [this]; have := leadN_head y l; omega
  | x :: l, [] => have : firstK (x :: l) [] = x.key := rfl; rw [this]; have := leadN_head x l; omega
  | x :: l, y :: m =>
    have e : firstK (x :: l) (y :: m) = if Op.bytesLess y.key.toList x.key.toList = true then y.key else x.key := rfl
    rw [e]
    split
    · have := leadN_head y m; omega
    · have := leadN_head x l; omega
theorem join_less {a b : List RowV} (h : a.length + b.length ≠ 0) : (a.drop (leadN (firstK a b) a)).length + (b.drop (leadN (firstK a b) b)).length < a.length + b.length := by
  have h1 := first_lead h
  have h2 := leadN_le (firstK a b) a
  have h3 := leadN_le (firstK a b) b
  rw [List.length_drop, List.length_drop]
  omega
theorem pairsL_length (key : ByteArray) (b : List SideV) : ∀ a : List SideV, (pairsL key a b).length = a.length * b.length
  | [] => by simp [pairsL]
  | x :: a => by
    have ih := pairsL_length key b a
    unfold pairsL at ih ⊢
    rw [List.flatMap_cons, List.length_append, ih, List.length_map, List.length_cons, Nat.succ_mul, Nat.add_comm]
theorem pairsOfK_le (k : JK) (key : ByteArray) {a b : List RowV} (ha : a.length ≤ 1000) (hb : b.length ≤ 1000) : (pairsOfK k key a b).length ≤ 1000000 := by
  cases k with
  | both x y => unfold pairsOfK; rw [pairsL_length]; exact Nat.mul_le_mul (sidesL_le ha) (sidesL_le hb)
  | keep x => unfold pairsOfK; rw [pairsL_length]; exact Nat.mul_le_mul (sidesL_le ha) (sidesL_le (by simp))
theorem joinStep_le (k : JK) {a b : List RowV} (ha : a.length ≤ 1000) (hb : b.length ≤ 1000) : (joinStep k a b).length ≤ 1000000 := by
  unfold joinStep
  split
  · exact pairsOfK_le k _ (by rw [List.length_take]; omega) (by rw [List.length_take]; omega)
  · simp
end Go.Proofs.Ytgdbpckobngmjaa
