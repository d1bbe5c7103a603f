/-
  spec.FilterAdd and spec.FilterHas by their contracts. Conditions: texts have at most maxLen bytes.
-/
import Derived.Test.YtfndodaknejhfaaFilterAddImpl
import Derived.Laws.StructEq
namespace Go.Proofs.Ytfndodaknejhfaa
open Go.RowKit
set_option maxRecDepth 100000 in
theorem specFilterAdd_any (n : Int) (x s : ByteArray) (w : World) (hx : x.size ≤ maxLen) (hs : s.size ≤ maxLen) :
    Calls Try.prog 22 #[.agg #[.int .i64 n, .string x], .string s] w fun e w' => e = .returned (addV n x s) ∧ Below w.heap.size w w' := by
  have c1 := (At2.new w (.int .i64 n) (.string x) 36).keep (bl1 _ (.cells #[.int .i64 0, .string ⟨#[]⟩] 36)) (by simp)
  have hb := bl2 w (.cells #[.int .i64 n, .string x] 36) (.cells #[.int .i64 0, .string ⟨#[]⟩] 36)
  have hN := FV.new (w.alloc (.cells #[.int .i64 n, .string x] 36)) 0 ⟨#[]⟩ 36
  simp only [World.size_alloc] at hN
  unfold maxLen at hs
  go_enter Try.func22, Try.ntmps22
  go_wp2_with fail
  generalize (w.alloc (.cells #[.int .i64 n, .string x] 36)).alloc (.cells #[.int .i64 0, .string ⟨#[]⟩] 36) = w1 at *
  refine (specFilterOk_any n x _ hx).mono ?_
  rintro e w2 ⟨rfl, hb1⟩
  have hz := hN.2
  replace c1 := c1.keep hb1 (by omega)
  replace hN := hN.below hb1 hz
  replace hb := hb.trans (hb1.mono (by omega))
  replace hz := hN.2
  clear hb1
  cases hf1 : filB n x
  · have E := Lib.hid (addV_no (show addOk n x s = false by simp [addOk, hf1]))
    clear hf1
    go_wp2_with (refine wpList_store_fil rfl _ _ rfl (w.heap.size + 1) 0 ⟨#[]⟩ ?_ ?_ hN fun w3 hR hk => stop ?_)
    · rfl
    · rfl
    refine unstop ?_
    have hld := load_fil hR
    go_wp2_with fail
    refine bodyPost_ret (v := .tuple #[noFil, .bool false]) ?_ rfl ⟨ret_val E.out.symm, hk _ _ (by omega) hb⟩
    rw [results_cell_tmp rfl]
    simp [asAddr, Result.andThen, hld, noFil]
  by_cases hk : s.size ≤ 12
  case neg =>
    have E := Lib.hid (addV_no (show addOk n x s = false by simp [addOk, hk]))
    have d1 : decide (12 < (s.size : Int)) = true := by simp; omega
    clear hf1 hk
    go_wp2_with (refine wpList_store_fil rfl _ _ rfl (w.heap.size + 1) 0 ⟨#[]⟩ ?_ ?_ hN fun w3 hR hk => stop ?_)
    · rfl
    · rfl
    refine unstop ?_
    have hld := load_fil hR
    go_wp2_with fail
    refine bodyPost_ret (v := .tuple #[noFil, .bool false]) ?_ rfl ⟨ret_val E.out.symm, hk _ _ (by omega) hb⟩
    rw [results_cell_tmp rfl]
    simp [asAddr, Result.andThen, hld, noFil]
  have d1 : decide (12 < (s.size : Int)) = false := by simp; omega
  have E := Lib.hid (addV_yes (show addOk n x s = true by simp [addOk, hf1, hk]))
  obtain ⟨q0, q1, q4, q5, q2⟩ := filB_all hf1
  clear hf1
  have ⟨z0, z1⟩ := c1
  go_wp2_with fail
  refine (l6Add_any n x s _ q0 q1 q4 q5 (by omega)).mono ?_
  rintro e w4 ⟨rfl, hb1⟩
  clear z0 z1
  replace hN := hN.below hb1 hz
  replace hb := hb.trans (hb1.mono (by omega))
  replace hz := hN.2
  clear hb1 c1
  generalize addS n s x = t at *
  go_wp2_with (refine wpList_store_fil rfl _ _ rfl (w.heap.size + 1) n t ?_ ?_ hN fun w3 hR hk => stop ?_)
  · rfl
  · rfl
  refine unstop ?_
  have hld := load_fil hR
  go_wp2_with fail
  refine bodyPost_ret (v := .tuple #[.agg #[.int .i64 n, .string t], .bool true]) ?_ rfl ⟨ret_val E.out.symm, hk _ _ (by omega) hb⟩
  rw [results_cell_tmp rfl]
  simp [asAddr, Result.andThen, hld]
set_option maxRecDepth 100000 in
theorem l6Has_any (n : Int) (x s : ByteArray) (w : World) (h0 : 8 ≤ n) (h1 : n ≤ 256) (h8 : n % 8 = 0) (hx : (x.size : Int) = n / 8) (hs : s.size ≤ 12) :
    Calls Try.prog 95 #[.agg #[.int .i64 n, .string x], .string s] w fun e w' => e = .returned (.bool (decide (addS n s x = x))) ∧ Below w.heap.size w w' := by
  have c1 := At2.new w (.int .i64 n) (.string x) 36
  have hb := bl1 w (.cells #[.int .i64 n, .string x] 36)
  have hz : w.heap.size < (w.alloc (.cells #[.int .i64 n, .string x] 36)).heap.size := by simp
  have C := fun w => l6Add_any n x s w h0 h1 h8 hx hs
  go_enter Try.func95, Try.ntmps95
  go_wp2_with fail
  generalize w.alloc (.cells #[.int .i64 n, .string x] 36) = w1 at *
  have ⟨u0, u1⟩ := c1
  have hC := Lib.hid (show ∀ w', Below w1.heap.size w1 w' → w'.cell? ⟨w.heap.size, 0, none⟩ = some (.int .i64 n) ∧ w'.cell? ⟨w.heap.size, 1, none⟩ = some (.string x) from fun w' h => ⟨(h.cell (p := ⟨w.heap.size, 0, none⟩) hz).trans u0, (h.cell (p := ⟨w.heap.size, 1, none⟩) hz).trans u1⟩)
  obtain ⟨t, ht0⟩ : ∃ t, addS n s x = t := ⟨_, rfl⟩
  have G := Lib.hid ht0
  rw [ht0] at C
  clear ht0
  by_cases ht : t = x
  · subst ht
    go_region_held3 (fun w' => (w'.cell? ⟨w.heap.size, 0, none⟩ = some (.int .i64 n) ∧ w'.cell? ⟨w.heap.size, 1, none⟩ = some (.string t)) ∧ Below w1.heap.size w1 w') (first | exact keepStart hC.out | exact keepCall hC.out hb' (by assumption))
      ((go_at_call 88; refine (C _).mono ?_; rintro e w' ⟨rfl, hb'⟩))
    go_wp2_with fail
    go_ret
    exact ⟨ret_bool (decide_eq_true G.out).symm, hb.trans ((keepBelow hC.out (by assumption)).mono hb.size)⟩
  · have hnl : (t.toList == x.toList) = false := beq_eq_false_iff_ne.2 (fun h => ht (by rw [ByteArray.toList_eq, ByteArray.toList_eq] at h; exact ByteArray.ext (Array.toList_inj.1 h)))
    have hne : (t == x) = false := by rw [beq_toListBytes]; exact hnl
    have E := Lib.hid (show decide (addS n s x = x) = false from decide_eq_false (by rw [G.out]; exact ht))
    clear ht
    go_region_held3 (fun w' => (w'.cell? ⟨w.heap.size, 0, none⟩ = some (.int .i64 n) ∧ w'.cell? ⟨w.heap.size, 1, none⟩ = some (.string x)) ∧ Below w1.heap.size w1 w') (first | exact keepStart hC.out | exact keepCall hC.out hb' (by assumption))
      ((go_at_call 88; refine (C _).mono ?_; rintro e w' ⟨rfl, hb'⟩))
    go_wp2_with fail
    go_ret
    exact ⟨ret_bool E.out.symm, hb.trans ((keepBelow hC.out (by assumption)).mono hb.size)⟩
set_option maxRecDepth 100000 in
theorem specFilterHas_any (n : Int) (x s : ByteArray) (w : World) (hx : x.size ≤ maxLen) (hs : s.size ≤ maxLen) :
    Calls Try.prog 29 #[.agg #[.int .i64 n, .string x], .string s] w fun e w' => e = .returned (.bool (hasB n x s)) ∧ Below w.heap.size w w' := by
  have c1 := At2.new w (.int .i64 n) (.string x) 36
  have hb := bl1 w (.cells #[.int .i64 n, .string x] 36)
  have hz : w.heap.size < (w.alloc (.cells #[.int .i64 n, .string x] 36)).heap.size := by simp
  unfold maxLen at hs
  go_enter Try.func29, Try.ntmps29
  go_wp2_with fail
  generalize w.alloc (.cells #[.int .i64 n, .string x] 36) = w1 at *
  refine (specFilterOk_any n x _ hx).mono ?_
  rintro e w2 ⟨rfl, hb1⟩
  replace c1 := c1.keep hb1 (by omega)
  replace hb := hb.trans (hb1.mono (by omega))
  replace hz : w.heap.size < w2.heap.size := Nat.lt_of_lt_of_le hz hb1.size
  clear hb1
  cases hf1 : filB n x
  · have E := Lib.hid (show hasB n x s = false by simp [hasB, addOk, hf1])
    clear hf1
    go_wp2_with fail
    go_ret
    exact ⟨ret_bool E.out.symm, hb⟩
  by_cases hk : s.size ≤ 12
  case neg =>
    have E := Lib.hid (show hasB n x s = false by simp [hasB, addOk, hk])
    have d1 : decide ((s.size : Int) ≤ 12) = false := by simp; omega
    clear hf1 hk
    go_wp2_with fail
    go_ret
    exact ⟨ret_bool E.out.symm, hb⟩
  have d1 : decide ((s.size : Int) ≤ 12) = true := by simp; omega
  obtain ⟨q0, q1, q4, q5, q2⟩ := filB_all hf1
  have E := Lib.hid (show hasB n x s = decide (addS n s x = x) by simp [hasB, addOk, hf1, hk])
  clear hf1
  have ⟨z0, z1⟩ := c1
  go_wp2_with fail
  refine (l6Has_any n x s _ q0 q1 q4 q5 hk).mono ?_
  rintro e w4 ⟨rfl, hb1⟩
  rw [← E.out]
  clear z0 z1
  replace hb := hb.trans (hb1.mono hb.size)
  clear hb1 c1
  go_wp2_with fail
  go_ret
  exact ⟨rfl, hb⟩
end Go.Proofs.Ytfndodaknejhfaa
