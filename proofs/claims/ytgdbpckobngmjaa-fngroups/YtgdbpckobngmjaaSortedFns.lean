/-
  slices.IsSortedFunc at rows with impl.compareRows, impl.SortedOk and spec.SortedOk by their contracts. Condition: at most 1048576 rows.
-/
import Derived.Test.YtgdbpckobngmjaaCmpRows
import Derived.Test.YtgdbpckobngmjaaRowOrd
namespace Go.Proofs.Ytgdbpckobngmjaa
open Go.RowKit

theorem compareRows_b (a b : RowV) (q : Bool) (w : World) (h : a.less b = q) :
    Calls Try.prog 73 #[.agg #[.string a.key, .int .i64 a.tag, .string a.val], .agg #[.string b.key, .int .i64 b.tag, .string b.val]] w fun e w' => ∃ c : Int, e = .returned (.int .i64 c) ∧ decide (c < 0) = q ∧ Below w.heap.size w w' :=
  (compareRows_any a.key a.val a.tag b.key b.val b.tag w).mono fun _ _ ⟨he, hb⟩ => ⟨_, he, (or3_less ..).trans h, hb⟩
/-- No row precedes the one before it. -/
def adjOk : List RowV → Bool
  | a :: b :: l => !(b.less a) && adjOk (b :: l)
  | _ => true
theorem adjOk_of : ∀ (l : List RowV), (∀ j x y, l[j + 1]? = some x → l[j]? = some y → x.less y = false) → adjOk l = true
  | [], _ => rfl
  | [_], _ => rfl
  | a :: b :: l, h => by
    rw [adjOk, h 0 b a rfl rfl, adjOk_of (b :: l) fun j x y hx hy => h (j + 1) x y (by simpa using hx) (by simpa using hy)]; rfl
theorem adjOk_asc : ∀ {l : List RowV}, adjOk l = true → Asc RowV.less l
  | [], _ => Asc.nil
  | [x], _ => Asc.one x
  | a :: b :: l, h => by
    rw [adjOk, Bool.and_eq_true, Bool.not_eq_true'] at h
    have ih := adjOk_asc h.2
    refine List.pairwise_cons.2 ⟨fun y hy => ?_, ih⟩
    rcases List.mem_cons.1 hy with rfl | hy
    · exact h.1
    · exact ordRow.trans _ _ _ h.1 ((List.pairwise_cons.1 ih).1 y hy)
theorem asc_adjOk {l : List RowV} (h : Asc RowV.less l) : adjOk l = true := adjOk_of l fun _ _ _ hx hy => h.le_at ordRow hy hx (Nat.le_succ _)
theorem adjOk_not {l : List RowV} {j : Nat} {x y : RowV} (hx : l[j + 1]? = some x) (hy : l[j]? = some y) (h : x.less y = true) : adjOk l = false := by
  cases e : adjOk l
  · rfl
  · have := (adjOk_asc e).le_at ordRow hy hx (Nat.le_succ _)
    rw [h] at this; cases this
/-- The rows from k on, each with the one before it, are in order. -/
def AdjFrom (l : List RowV) (k : Nat) : Prop := ∀ j x y, k ≤ j → l[j + 1]? = some x → l[j]? = some y → x.less y = false
theorem AdjFrom.pred {l : List RowV} {k : Nat} {x y : RowV} (h : AdjFrom l (k + 1)) (hx : l[k + 1]? = some x) (hy : l[k]? = some y) (hl : x.less y = false) : AdjFrom l k := fun j x' y' hj hx' hy' => by
  rcases Nat.lt_or_ge k j with h1 | h1
  · exact h j x' y' h1 hx' hy'
  · obtain rfl : j = k := by omega
    rw [hx] at hx'; rw [hy] at hy'; injection hx' with e1; injection hy' with e2; rw [← e1, ← e2]; exact hl
theorem AdjFrom.all {l : List RowV} (h : AdjFrom l 0) : adjOk l = true := adjOk_of l fun j x y => h j x y (Nat.zero_le _)
/-- The rows up to k, each with the one before it, are in order. -/
def AdjTo (l : List RowV) (k : Nat) : Prop := ∀ j x y, j + 1 < k → l[j + 1]? = some x → l[j]? = some y → x.less y = false
theorem AdjTo.succ {l : List RowV} {k : Nat} {x y : RowV} (h : AdjTo l (k + 1)) (hx : l[k + 1]? = some x) (hy : l[k]? = some y) (hl : x.less y = false) : AdjTo l (k + 1 + 1) := fun j x' y' hj hx' hy' => by
  rcases Nat.lt_or_ge j k with h1 | h1
  · exact h j x' y' (by omega) hx' hy'
  · obtain rfl : j = k := by omega
    rw [hx] at hx'; rw [hy] at hy'; injection hx' with e1; injection hy' with e2; rw [← e1, ← e2]; exact hl
theorem AdjTo.all {l : List RowV} {k : Nat} (h : AdjTo l k) (hk : l.length ≤ k) : adjOk l = true := adjOk_of l fun j x y hx => h j x y (by have := (List.getElem?_eq_some_iff.1 hx).1; omega) hx
set_option maxRecDepth 100000 in
set_option maxHeartbeats 1000000 in
theorem isSorted_any (a : Option Addr) (n cap : Nat) (rs : List RowV) (w : World) (hm : n ≤ 1048576) (hR : Rd w w.heap.size 3 a n (flat rs)) :
    Calls Try.prog 88 #[.slice a n cap, .func (.func 73) #[] #[]] w fun e w' => e = .returned (.bool (adjOk rs)) ∧ Below w.heap.size w w' := by
  have hl := Lib.hid hR.rows_length
  go_enter Try.func88, Try.ntmps88
  go_wp2
  go_loopw [5] (fun i wr => ∃ k : Int, i = .int .i64 k ∧ -1 ≤ k ∧ k < n ∧ Below w.heap.size w wr ∧ AdjFrom rs k.toNat) (fun i _ => (intOf i).toNat)
  case atStart => exact ⟨(n : Int) - 1, by go_num, by omega, by omega, Below.refl _ _, fun j x y hj hx _ => by have := (List.getElem?_eq_some_iff.1 hx).1; rw [hl.out] at this; omega⟩
  case round =>
    obtain ⟨k, rfl, hk0, hk, hb, hA⟩ := hrel
    by_cases hpos : 0 < k
    · obtain ⟨m, rfl⟩ : ∃ m : Nat, k = (m : Int) := ⟨k.toNat, by omega⟩
      have hR' := hR.below hb (Nat.le_refl _)
      obtain ⟨q, hq1, hq2⟩ : ∃ q : Nat, q < m ∧ m < q + 2 := ⟨m - 1, by omega, by omega⟩
      have hqn : q < n := by omega
      obtain ⟨b, off, x, rfl, hB, hx, c0, c1, c2⟩ := hR'.row (k := m) (by omega)
      obtain ⟨b', off', y, e, hB', hy, d0, d1, d2⟩ := hR'.row (k := q) (by omega)
      obtain ⟨rfl, rfl⟩ : b = b' ∧ off = off' := by injection e with e; injection e with e1 e2; exact ⟨e1, e2⟩
      clear e hB'
      have Hx := Lib.hid (show rs[q + 1]? = some x by rw [show q + 1 = m by omega]; exact hx)
      have Hy := Lib.hid hy
      clear hx hy
      have hA' := Lib.hid hA
      clear hA
      have hw1 : IntKind.i64.wrap ((m : Int) - 1) = (q : Int) := by rw [IntWalk.i64_in _ (by omega)]; omega
      cases hq : x.less y
      case true =>
        have E := Lib.hid (show adjOk rs = false from adjOk_not Hx.out Hy.out hq)
        have hq' := Lib.hid hq
        clear hq
        go_wp2_with fail
        refine wp_region_still_tail 10 (by kernel_rfl) (by kernel_rfl) ?_
        simp only [List.take_succ_cons, List.take_zero, List.drop_succ_cons, List.drop_zero]
        change wpStill _ _ wr.drew _ _ _
        repeat still_step
        refine wpStill_nil ?_
        change wpList _ _ _ _ _ wr.drew
        go_wp2_with fail
        refine (compareRows_b x y true _ hq'.out).mono ?_
        rintro e w1 ⟨c, rfl, hc, hb1⟩
        clear c0 c1 c2 d0 d1 d2
        go_wp2_with fail
        go_ret
        exact ⟨ret_bool E.out.symm, hb.drew.trans (hb1.mono hb.size)⟩
      have hq' := Lib.hid hq
      have hA2 := AdjFrom.pred (k := q) (by have := hA'.out; rw [show (m : Int).toNat = q + 1 by omega] at this; exact this) Hx.out Hy.out hq
      clear hq hA'
      go_wp2_with fail
      refine wp_region_still_tail 10 (by kernel_rfl) (by kernel_rfl) ?_
      simp only [List.take_succ_cons, List.take_zero, List.drop_succ_cons, List.drop_zero]
      change wpStill _ _ wr.drew _ _ _
      repeat still_step
      refine wpStill_nil ?_
      change wpList _ _ _ _ _ wr.drew
      go_wp2_with fail
      refine (compareRows_b x y false _ hq'.out).mono ?_
      rintro e w1 ⟨c, rfl, hc, hb1⟩
      clear c0 c1 c2 d0 d1 d2
      go_wp2_with fail
      go_roundw
      case rel => exact ⟨(q : Int), by go_num, by omega, by omega, hb.drew.trans (hb1.mono hb.size), hA2⟩
      case measure => simp [intOf]; omega
    · have E := Lib.hid (show adjOk rs = true from AdjFrom.all (by rw [show k.toNat = 0 by omega] at hA; exact hA))
      go_wp2_with fail
      go_ret
      exact ⟨ret_bool E.out.symm, hb⟩
end Go.Proofs.Ytgdbpckobngmjaa
