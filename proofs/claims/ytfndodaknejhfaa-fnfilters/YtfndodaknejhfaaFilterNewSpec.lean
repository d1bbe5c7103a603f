/-
  spec.FilterNew by its contract. No conditions.
-/
import Derived.Test.YtfndodaknejhfaaFilterOfImpl
namespace Go.Proofs.Ytfndodaknejhfaa
open Go.RowKit
theorem infoByte : (Try.prog.info? 5).map (fun i => (i.zero, i.size, i.bytes)) = some (some (.int .u8 0), 1, 1) := by kernel_rfl
theorem zero_cells (m j : Nat) (h : j < m) : (madeCells (Value.int .u8 0).cells (m * 1)).toList[j]? = some (.int .u8 0) := by
  rw [show (Value.int .u8 0).cells = #[Value.int .u8 0] from rfl, Nat.mul_one, toList_madeCells_one]
  simp [h]
set_option maxRecDepth 100000 in
theorem specFilterNew_any (n : Int) (w : World) :
    Calls Try.prog 26 #[.int .i64 n] w fun e w' => e = .returned (ofV [] n) ∧ Below w.heap.size w w' := by
  have hb := bl1 w (.cells #[.int .i64 0, .string ⟨#[]⟩] 36)
  have hN := FV.new w 0 ⟨#[]⟩ 36
  go_enter Try.func26, Try.ntmps26
  go_wp2_with fail
  generalize w.alloc (.cells #[.int .i64 0, .string ⟨#[]⟩] 36) = w1 at *
  refine (specFilterSize_any n _).mono ?_
  rintro e w2 ⟨rfl, rfl⟩
  cases hs : sizeB n
  · have E := Lib.hid (ofV_no (show ofOk [] n = false by simp [ofOk, hs]))
    clear hs
    go_wp2_with (refine wpList_store_fil rfl _ _ rfl w.heap.size 0 ⟨#[]⟩ ?_ ?_ hN fun w3 hR hk => stop ?_)
    · rfl
    · rfl
    refine unstop ?_
    have hld := load_fil hR
    go_wp2_with fail
    refine bodyPost_ret (v := .tuple #[noFil, .bool false]) ?_ rfl ⟨ret_val E.out.symm, hk _ _ (by omega) hb⟩
    rw [results_cell_tmp rfl]
    simp [asAddr, Result.andThen, hld, noFil]
  have E := Lib.hid (ofV_yes (show ofOk [] n = true by simp [ofOk, hs, rowsOk]))
  obtain ⟨q0, q1, q8⟩ := sizeB_all hs
  clear hs
  obtain ⟨m, hm⟩ : ∃ m : Nat, n / 8 = m := ⟨(n / 8).toNat, by omega⟩
  have E2 := Lib.hid (show ofS [] n = ⟨(List.replicate m 0).toArray⟩ by
    unfold ofS ofL zeroL
    rw [show (n / 8).toNat = m by omega]; rfl)
  have hq : IntKind.i64.wrap (n.tdiv 8) = (m : Int) := by
    rw [Int.tdiv_eq_ediv_of_nonneg (by omega), hm]
    rw [IntWalk.i64_in _ (by omega)]
  have hq2 : n.tdiv 8 = (m : Int) := by
    rw [Int.tdiv_eq_ediv_of_nonneg (by omega), hm]
  have hm32 : m ≤ 32 := by omega
  clear hm
  obtain ⟨i0, hi, hz0, hz1, hz2⟩ := info_parts infoByte
  go_wp2_with (at_make; refine wpList_make_full _ rfl _ _ 22 rfl w1.heap.size 5 i0 (.int .u8 0) 1 Try.underlying22 hi hz0 hz1 .i64 .i64 _ _ m rfl rfl (by omega) (by omega) (by rw [hz2]; omega) (by unfold maxLen; omega) (Nat.le_refl _) ?_; intro w3 hown hgrow; refine stop ?_)
  have hb1 := (Below.refl w1.heap.size w1).grown hgrow (Nat.le_refl _) (by simp)
  have hcv : (convert 22 9 (.slice (some ⟨w1.heap.size, 0, none⟩) m m)).run Try.prog w3 = .ok (.string ⟨(List.replicate m 0).toArray⟩) w3 := by
    have := run_convert_bytes_back (P := Try.prog) w3 22 9 5 ⟨w1.heap.size, 0, none⟩ m (List.replicate m 0) Try.underlying22 Try.underlying5 Try.underlying9 (fun j hj => by
      have hj' : j < m := by simpa using hj
      rw [Addr.add_mid, Nat.zero_add, hown.cellAt j (by omega), zero_cells m j hj']
      simp)
    simpa using this
  replace hb := hb.trans (hb1.mono hb.size)
  replace hN := hN.below hb1 hN.2
  clear hgrow hb1 hown
  rw [E2.out] at E
  generalize (⟨(List.replicate m 0).toArray⟩ : ByteArray) = t at *
  refine unstop ?_
  go_wp2_with (refine wpList_store_fil rfl _ _ rfl w.heap.size n t ?_ ?_ hN fun w5 hR hk => stop ?_)
  · rfl
  · rfl
  refine unstop ?_
  have hld := load_fil hR
  go_wp2_with fail
  refine bodyPost_ret (v := .tuple #[.agg #[.int .i64 n, .string t], .bool true]) ?_ rfl ⟨ret_val E.out.symm, hk _ _ (by omega) hb⟩
  rw [results_cell_tmp rfl]
  simp [asAddr, Result.andThen, hld]
end Go.Proofs.Ytfndodaknejhfaa
