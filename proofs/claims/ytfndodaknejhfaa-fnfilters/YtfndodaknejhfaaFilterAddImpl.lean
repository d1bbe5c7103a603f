/-
  impl.FilterAdd and impl.FilterHas by their contracts. Conditions: texts have at most maxLen bytes.
-/
import Derived.Test.YtfndodaknejhfaaBitMath
namespace Go.Proofs.Ytfndodaknejhfaa
open Go.RowKit
def addOk (n : Int) (x s : ByteArray) : Bool := filB n x && decide (s.size ≤ 12)
def addN (n : Int) (x s : ByteArray) : Int := if addOk n x s then n else 0
def addT (n : Int) (x s : ByteArray) : ByteArray := if addOk n x s then addS n s x else ⟨#[]⟩
def addV (n : Int) (x s : ByteArray) : Value := .tuple #[.agg #[.int .i64 (addN n x s), .string (addT n x s)], .bool (addOk n x s)]
theorem addV_no {n : Int} {x s : ByteArray} (h : addOk n x s = false) : addV n x s = .tuple #[.agg #[.int .i64 0, .string ⟨#[]⟩], .bool false] := by
  unfold addV addN addT; rw [h]; rfl
theorem addV_yes {n : Int} {x s : ByteArray} (h : addOk n x s = true) : addV n x s = .tuple #[.agg #[.int .i64 n, .string (addS n s x)], .bool true] := by
  unfold addV addN addT; rw [h]; rfl
theorem filB_all {n : Int} {x : ByteArray} (h : filB n x = true) : 8 ≤ n ∧ n ≤ 256 ∧ n % 8 = 0 ∧ (x.size : Int) = n / 8 ∧ x.size ≤ 32 := by
  have := of_decide_eq_true h
  omega
def hasB (n : Int) (x s : ByteArray) : Bool := addOk n x s && decide (addS n s x = x)
set_option maxRecDepth 100000 in
theorem implFilterAdd_any (n : Int) (x s : ByteArray) (w : World) (hx : x.size ≤ maxLen) (hs : s.size ≤ maxLen) :
    Calls Try.prog 21 #[.agg #[.int .i64 n, .string x], .string s] w fun e w' => e = .returned (addV n x s) ∧ Below w.heap.size w w' := by
  have c1 := (At2.new w (.int .i64 n) (.string x) 36).keep (bl1 _ (.cells #[.int .i64 0, .string ⟨#[]⟩] 36)) (by simp)
  have hb := bl2 w (.cells #[.int .i64 n, .string x] 36) (.cells #[.int .i64 0, .string ⟨#[]⟩] 36)
  have hN := FV.new (w.alloc (.cells #[.int .i64 n, .string x] 36)) 0 ⟨#[]⟩ 36
  simp only [World.size_alloc] at hN
  unfold maxLen at hs
  go_enter Try.func21, Try.ntmps21
  go_wp2_with fail
  generalize (w.alloc (.cells #[.int .i64 n, .string x] 36)).alloc (.cells #[.int .i64 0, .string ⟨#[]⟩] 36) = w1 at *
  refine (implFilterOk_any n x _ hx).mono ?_
  rintro e w2 ⟨rfl, hb1⟩
  have hz := hN.2
  replace c1 := c1.keep hb1 (by omega)
  replace hN := hN.below hb1 hz
  replace hb := hb.trans (hb1.mono (by omega))
  replace hz := hN.2
  clear hb1
  cases hf1 : filB n x
  · have E := Lib.hid (addV_no (show addOk n x s = false by simp [addOk, hf1]))
    clear hf1
    go_wp2_with (refine wpList_store_fil rfl _ _ rfl (w.heap.size + 1) 0 ⟨#[]⟩ ?_ ?_ hN fun w3 hR hk => stop ?_)
    · rfl
    · rfl
    refine unstop ?_
    have hld := load_fil hR
    go_wp2_with fail
    refine bodyPost_ret (v := .tuple #[noFil, .bool false]) ?_ rfl ⟨ret_val E.out.symm, hk _ _ (by omega) hb⟩
    rw [results_cell_tmp rfl]
    simp [asAddr, Result.andThen, hld, noFil]
  by_cases hk : s.size ≤ 12
  case neg =>
    have E := Lib.hid (addV_no (show addOk n x s = false by simp [addOk, hk]))
    have d1 : decide ((s.size : Int) ≤ 12) = false := by simp; omega
    clear hf1 hk
    go_wp2_with (first | (go_at_call 84; go_in) | refine wpList_store_fil rfl _ _ rfl (w.heap.size + 1) 0 ⟨#[]⟩ ?_ ?_ hN fun w3 hR hk => stop ?_)
    · rfl
    · rfl
    refine unstop ?_
    have hld := load_fil hR
    go_wp2_with fail
    refine bodyPost_ret (v := .tuple #[noFil, .bool false]) ?_ rfl ⟨ret_val E.out.symm, hk _ _ (by omega) hb⟩
    rw [results_cell_tmp rfl]
    simp [asAddr, Result.andThen, hld, noFil]
  have d1 : decide ((s.size : Int) ≤ 12) = true := by simp; omega
  have E := Lib.hid (addV_yes (show addOk n x s = true by simp [addOk, hf1, hk]))
  obtain ⟨q0, q1, q4, q5, q2⟩ := filB_all hf1
  have E2 := Lib.hid (add_bytes n x s q0 q4 q5)
  clear hf1
  have ⟨z0, z1⟩ := c1
  go_wp2_with (go_at_call 84; go_in)
  refine (bitSetOf_any n x _ q2).mono ?_
  rintro e w4 ⟨rfl, hb1⟩
  clear z0 z1
  replace hN := hN.below hb1 hz
  replace hb := hb.trans (hb1.mono (by omega))
  replace hz := hN.2
  clear hb1 c1
  go_wp2_with (refine wpList_alloc_row rfl 109 rfl _ zero74 (stop ?_))
  have r := BS.new w4 0 zero32 109 rfl
  have hb1 := bl1 w4 (.cells (bsL 0 zero32).toArray 109)
  replace hN := hN.below hb1 hz
  replace hb := hb.trans (hb1.mono (by omega))
  clear hb1
  generalize w4.alloc (.cells (bsL 0 zero32).toArray 109) = w5 at *
  generalize w4.heap.size = B at *
  refine unstop ?_
  refine wpList_store_bits rfl _ _ rfl B n (padL x) rfl rfl 0 zero32 r (padL_length x q2) fun w6 r6 hk => ?_
  have hb1 := hk B w5 (Nat.le_refl _) (Below.refl _ _)
  replace hN := hN.below hb1 (by omega)
  replace hb := hb.trans (hb1.mono (by omega))
  clear hb1 hk r
  go_wp2_with fail
  refine (bitAdd_any B n (padL x) s _ r6 q0 q1 (by omega)).mono ?_
  rintro e w8 ⟨rfl, hb1, r8⟩
  replace hN := hN.below hb1 (by omega)
  replace hb := hb.trans (hb1.mono (by omega))
  clear hb1 r6
  go_wp2_with fail
  refine (bitFilter_any B n _ _ r8 q0 q1).mono ?_
  rintro e w9 ⟨rfl, hb1⟩
  rw [E2.out]
  replace hN := hN.below hb1 hN.2
  replace hb := hb.trans (hb1.mono hb.size)
  clear hb1 r8
  generalize addS n s x = t at *
  go_wp2_with (refine wpList_store_fil rfl _ _ rfl (w.heap.size + 1) n t ?_ ?_ hN fun w3 hR hk => stop ?_)
  · rfl
  · rfl
  refine unstop ?_
  have hld := load_fil hR
  go_wp2_with fail
  refine bodyPost_ret (v := .tuple #[.agg #[.int .i64 n, .string t], .bool true]) ?_ rfl ⟨ret_val E.out.symm, hk _ _ (by omega) hb⟩
  rw [results_cell_tmp rfl]
  simp [asAddr, Result.andThen, hld]
set_option maxRecDepth 100000 in
theorem implFilterHas_any (n : Int) (x s : ByteArray) (w : World) (hx : x.size ≤ maxLen) (hs : s.size ≤ maxLen) :
    Calls Try.prog 28 #[.agg #[.int .i64 n, .string x], .string s] w fun e w' => e = .returned (.bool (hasB n x s)) ∧ Below w.heap.size w w' := by
  have c1 := At2.new w (.int .i64 n) (.string x) 36
  have hb := bl1 w (.cells #[.int .i64 n, .string x] 36)
  have hz : w.heap.size < (w.alloc (.cells #[.int .i64 n, .string x] 36)).heap.size := by simp
  unfold maxLen at hs
  go_enter Try.func28, Try.ntmps28
  go_wp2_with fail
  generalize w.alloc (.cells #[.int .i64 n, .string x] 36) = w1 at *
  refine (implFilterOk_any n x _ hx).mono ?_
  rintro e w2 ⟨rfl, hb1⟩
  replace c1 := c1.keep hb1 (by omega)
  replace hb := hb.trans (hb1.mono (by omega))
  replace hz : w.heap.size < w2.heap.size := Nat.lt_of_lt_of_le hz hb1.size
  clear hb1
  cases hf1 : filB n x
  · have E := Lib.hid (show hasB n x s = false by simp [hasB, addOk, hf1])
    clear hf1
    go_wp2_with fail
    go_ret
    exact ⟨ret_bool E.out.symm, hb⟩
  by_cases hk : s.size ≤ 12
  case neg =>
    have E := Lib.hid (show hasB n x s = false by simp [hasB, addOk, hk])
    have d1 : decide ((s.size : Int) ≤ 12) = false := by simp; omega
    clear hf1 hk
    go_wp2_with (go_at_call 84; go_in)
    go_ret
    exact ⟨ret_bool E.out.symm, hb⟩
  have d1 : decide ((s.size : Int) ≤ 12) = true := by simp; omega
  obtain ⟨q0, q1, q4, q5, q2⟩ := filB_all hf1
  have E := Lib.hid (show hasB n x s = hasK n s (padL x) by rw [hasK_pad n x s q0 q4 q5]; simp [hasB, addOk, hf1, hk])
  clear hf1
  have ⟨z0, z1⟩ := c1
  go_wp2_with (go_at_call 84; go_in)
  refine (bitSetOf_any n x _ q2).mono ?_
  rintro e w4 ⟨rfl, hb1⟩
  clear z0 z1
  replace hb := hb.trans (hb1.mono (by omega))
  clear hb1 c1
  go_wp2_with (refine wpList_alloc_row rfl 109 rfl _ zero74 (stop ?_))
  have r := BS.new w4 0 zero32 109 rfl
  have hb1 := bl1 w4 (.cells (bsL 0 zero32).toArray 109)
  have hB : w.heap.size ≤ w4.heap.size := hb.size
  replace hb := hb.trans (hb1.mono (by omega))
  clear hb1
  generalize w4.alloc (.cells (bsL 0 zero32).toArray 109) = w5 at *
  generalize w4.heap.size = B at *
  refine unstop ?_
  refine wpList_store_bits rfl _ _ rfl B n (padL x) rfl rfl 0 zero32 r (padL_length x q2) fun w6 r6 hk => ?_
  have hb1 := hk B w5 (Nat.le_refl _) (Below.refl _ _)
  replace hb := hb.trans (hb1.mono (by omega))
  clear hb1 hk r
  go_wp2_with fail
  refine (bitHasKey_any B n (padL x) s _ r6 q0 q1 (by omega)).mono ?_
  rintro e w8 ⟨rfl, hb1⟩
  replace hb := hb.trans (hb1.mono hb.size)
  clear hb1 r6
  rw [← E.out]
  go_wp2_with fail
  go_ret
  exact ⟨rfl, hb⟩
end Go.Proofs.Ytfndodaknejhfaa
