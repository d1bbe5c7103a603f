/-
  impl.SortedOk and spec.SortedOk by their contracts: the rows are valid and in order. Condition: at most 1048576 rows.
-/
import Derived.Test.YtgdbpckobngmjaaSortedFns
namespace Go.Proofs.Ytgdbpckobngmjaa
open Go.RowKit

def sortedOk (rs : List RowV) : Bool := rowsOk rs && adjOk rs
set_option maxRecDepth 100000 in
set_option maxHeartbeats 1000000 in
theorem specSortedOk_any (a : Option Addr) (n cap : Nat) (rs : List RowV) (w : World) (hm : n ≤ 1048576) (hok : ∀ r ∈ rs, r.Ok) (hR : Rd w w.heap.size 3 a n (flat rs)) :
    Calls Try.prog 90 #[.slice a n cap] w fun e w' => e = .returned (.bool (sortedOk rs)) ∧ Below w.heap.size w w' := by
  have hl := Lib.hid hR.rows_length
  go_enter Try.func90, Try.ntmps90
  go_wp2
  go_loopw [3] (fun i wr => ∃ k : Nat, i = .int .i64 k ∧ 1 ≤ k ∧ k ≤ n + 1 ∧ Below w.heap.size w wr ∧ AdjTo rs k) (fun i _ => n + 1 - (intOf i).toNat)
  case atStart => exact ⟨1, rfl, Nat.le_refl _, by omega, Below.refl _ _, fun j x y hj => absurd hj (by omega)⟩
  case round =>
    obtain ⟨m, rfl, hk1, hk, hb, hA⟩ := hrel
    by_cases hlt : m < n
    · have hR' := hR.below hb (Nat.le_refl _)
      obtain ⟨q, hq1, hq2⟩ : ∃ q : Nat, q < m ∧ m < q + 2 := ⟨m - 1, by omega, by omega⟩
      have hqn : q < n := by omega
      obtain ⟨b, off, x, rfl, hB, hx, c0, c1, c2⟩ := hR'.row (k := m) (by omega)
      obtain ⟨b', off', y, e, hB', hy, d0, d1, d2⟩ := hR'.row (k := q) (by omega)
      obtain ⟨rfl, rfl⟩ : b = b' ∧ off = off' := by injection e with e; injection e with e1 e2; exact ⟨e1, e2⟩
      clear e hB'
      have Hx := Lib.hid (show rs[q + 1]? = some x by rw [show q + 1 = m by omega]; exact hx)
      have Hy := Lib.hid hy
      clear hx hy
      have hA' := Lib.hid hA
      clear hA
      have hw1 : IntKind.i64.wrap ((m : Int) - 1) = (q : Int) := by rw [IntWalk.i64_in _ (by omega)]; omega
      cases hq : x.less y
      case true =>
        have E := Lib.hid (show sortedOk rs = false by unfold sortedOk; rw [adjOk_not Hx.out Hy.out hq, Bool.and_false])
        have hq' := Lib.hid hq
        clear hq
        go_wp2_with fail
        refine wp_region_still_tail 9 (by kernel_rfl) (by kernel_rfl) ?_
        simp only [List.take_succ_cons, List.take_zero, List.drop_succ_cons, List.drop_zero]
        change wpStill _ _ wr.drew _ _ _
        repeat still_step
        refine wpStill_nil ?_
        change wpList _ _ _ _ _ wr.drew
        go_wp2_with fail
        refine (l1Less_b x y true _ hq'.out).mono ?_
        rintro e w1 ⟨rfl, hb1⟩
        clear c0 c1 c2 d0 d1 d2
        go_wp2_with fail
        go_ret
        exact ⟨ret_bool E.out.symm, hb.drew.trans (hb1.mono hb.size)⟩
      have hq' := Lib.hid hq
      have hA2 : AdjTo rs (q + 1 + 1) := AdjTo.succ (by have := hA'.out; rw [show m = q + 1 by omega] at this; exact this) Hx.out Hy.out hq
      clear hq hA'
      go_wp2_with fail
      refine wp_region_still_tail 9 (by kernel_rfl) (by kernel_rfl) ?_
      simp only [List.take_succ_cons, List.take_zero, List.drop_succ_cons, List.drop_zero]
      change wpStill _ _ wr.drew _ _ _
      repeat still_step
      refine wpStill_nil ?_
      change wpList _ _ _ _ _ wr.drew
      go_wp2_with fail
      refine (l1Less_b x y false _ hq'.out).mono ?_
      rintro e w1 ⟨rfl, hb1⟩
      clear c0 c1 c2 d0 d1 d2
      go_wp2_with fail
      go_roundw
      case rel => exact ⟨m + 1, by go_num, by omega, by omega, hb.drew.trans (hb1.mono hb.size), by rw [show m + 1 = q + 1 + 1 by omega]; exact hA2⟩
      case measure => simp [intOf]; omega
    · have E := Lib.hid (show rowsOk rs = sortedOk rs by unfold sortedOk; rw [hA.all (by rw [hl.out]; omega), Bool.and_true])
      have hR' := (hR.below hb (Nat.le_refl _)).more hb.size
      go_wp2_with fail
      refine (specRowsOk_any a n cap rs _ hm hok hR').mono ?_
      rintro e w1 ⟨rfl, hb1⟩
      go_wp2_with fail
      go_ret
      exact ⟨ret_bool E.out, hb.trans (hb1.mono hb.size)⟩
set_option maxRecDepth 100000 in
set_option maxHeartbeats 1000000 in
theorem implSortedOk_any (a : Option Addr) (n cap : Nat) (rs : List RowV) (w : World) (hm : n ≤ 1048576) (hok : ∀ r ∈ rs, r.Ok) (hR : Rd w w.heap.size 3 a n (flat rs)) :
    Calls Try.prog 37 #[.slice a n cap] w fun e w' => e = .returned (.bool (sortedOk rs)) ∧ Below w.heap.size w w' := by
  have C1 := implRowsOk_any a n cap rs w hm hok hR
  have E := Lib.hid (show sortedOk rs = (rowsOk rs && adjOk rs) from rfl)
  generalize rowsOk rs = p at *
  go_enter Try.func37, Try.ntmps37
  go_wp2_with fail
  refine C1.mono ?_
  rintro e w1 ⟨rfl, hb1⟩
  cases p
  · go_wp2_with fail
    go_ret
    exact ⟨ret_bool E.out.symm, hb1⟩
  have hR' := (hR.below hb1 (Nat.le_refl _)).more hb1.size
  go_wp2_with fail
  refine (isSorted_any a n cap rs _ hm hR').mono ?_
  rintro e w2 ⟨rfl, hb2⟩
  go_wp2_with fail
  go_ret
  exact ⟨ret_bool E.out.symm, hb1.trans (hb2.mono hb1.size)⟩
end Go.Proofs.Ytgdbpckobngmjaa
