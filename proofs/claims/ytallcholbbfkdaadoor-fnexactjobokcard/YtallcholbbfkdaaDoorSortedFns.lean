
/-
  slices.IsSortedFunc at rows with impl.compareRows, impl.SortedOk and spec.SortedOk by their contracts. Condition: at most 1048576 rows.
-/
import Derived.Test.YtallcholbbfkdaaDoorCmpRows
import Derived.Test.YtallcholbbfkdaaDoorRowOrd
namespace Go.Proofs.YtallcholbbfkdaaDoor
open Go.RowKit

theorem compareRows_b (a b : RowV) (q : Bool) (w : World) (h : a.less b = q) :
    Calls Tryd.prog 60 #[.agg #[.string a.key, .int .i64 a.tag, .string a.val], .agg #[.string b.key, .int .i64 b.tag, .string b.val]] w fun e w' => ∃ c : Int, e = .returned (.int .i64 c) ∧ decide (c < 0) = q ∧ Below w.heap.size w w' :=
  (compareRows_any a.key a.val a.tag b.key b.val b.tag w).mono fun _ _ ⟨he, hb⟩ => ⟨_, he, (or3_less ..).trans h, hb⟩
/-- No row precedes the one before it. -/
def adjOk : List RowV → Bool
  | a :: b :: l => !(b.less a) && adjOk (b :: l)
  | _ => true
theorem adjOk_of : ∀ (l : List RowV), (∀ j x y, l[j + 1]? = some x → l[j]? = some y → x.less y = false) → adjOk l = true
  | [], _ => rfl
  | [_], _ => rfl
  | a :: b :: l, h => by
    rw [adjOk, h 0 b a rfl rfl, adjOk_of (b :: l) fun j x y hx hy => h (j + 1) x y (by simpa using hx) (by simpa using hy)]; rfl
theorem adjOk_asc : ∀ {l : List RowV}, adjOk l = true → Asc RowV.less l
  | [], _ => Asc.nil
  | [x], _ => Asc.one x
  | a :: b :: l, h => by
    rw [adjOk, Bool.and_eq_true, Bool.not_eq_true'] at h
    have ih := adjOk_asc h.2
    refine List.pairwise_cons.2 ⟨fun y hy => ?_, ih⟩
    rcases List.mem_cons.1 hy with rfl | hy
    · exact h.1
    · exact ordRow.trans _ _ _ h.1 ((List.pairwise_cons.1 ih).1 y hy)
theorem asc_adjOk {l : List RowV} (h : Asc RowV.less l) : adjOk l = true := adjOk_of l fun _ _ _ hx hy => h.le_at ordRow hy hx (Nat.le_succ _)
theorem adjOk_not {l : List RowV} {j : Nat} {x y : RowV} (hx : l[j + 1]? = some x) (hy : l[j]? = some y) (h : x.less y = true) : adjOk l = false := by
  cases e : adjOk l
  · rfl
  · have := (adjOk_asc e).le_at ordRow hy hx (Nat.le_succ _)
    rw [h] at this; cases this
/-- The rows from k on, each with the one before it, are in order. -/
def AdjFrom (l : List RowV) (k : Nat) : Prop := ∀ j x y, k ≤ j → l[j + 1]? = some x → l[j]? = some y → x.less y = false
theorem AdjFrom.pred {l : List RowV} {k : Nat} {x y : RowV} (h : AdjFrom l (k + 1)) (hx : l[k + 1]? = some x) (hy : l[k]? = some y) (hl : x.less y = false) : AdjFrom l k := fun j x' y' hj hx' hy' => by
  rcases Nat.lt_or_ge k j with h1 | h1
  · exact h j x' y' h1 hx' hy'
  · obtain rfl : j = k := by omega
    rw [hx] at hx'; rw [hy] at hy'; injection hx' with e1; injection hy' with e2; rw [← e1, ← e2]; exact hl
theorem AdjFrom.all {l : List RowV} (h : AdjFrom l 0) : adjOk l = true := adjOk_of l fun j x y => h j x y (Nat.zero_le _)
/-- The rows up to k, each with the one before it, are in order. -/
def AdjTo (l : List RowV) (k : Nat) : Prop := ∀ j x y, j + 1 < k → l[j + 1]? = some x → l[j]? = some y → x.less y = false
theorem AdjTo.succ {l : List RowV} {k : Nat} {x y : RowV} (h : AdjTo l (k + 1)) (hx : l[k + 1]? = some x) (hy : l[k]? = some y) (hl : x.less y = false) : AdjTo l (k + 1 + 1) := fun j x' y' hj hx' hy' => by
  rcases Nat.lt_or_ge j k with h1 | h1
  · exact h j x' y' (by omega) hx' hy'
  · obtain rfl : j = k := by omega
    rw [hx] at hx'; rw [hy] at hy'; injection hx' with e1; injection hy' with e2; rw [← e1, ← e2]; exact hl
theorem AdjTo.all {l : List RowV} {k : Nat} (h : AdjTo l k) (hk : l.length ≤ k) : adjOk l = true := adjOk_of l fun j x y hx => h j x y (by have := (List.getElem?_eq_some_iff.1 hx).1; omega) hx
end Go.Proofs.YtallcholbbfkdaaDoor
