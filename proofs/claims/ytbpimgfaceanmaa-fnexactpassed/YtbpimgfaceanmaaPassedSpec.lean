/-
  spec.Passed by its contract. Conditions: at most 1048576 rows, texts have at most maxLen bytes.
-/
import Derived.Test.YtbpimgfaceanmaaPassedFns
import Derived.Test.YtbpimgfaceanmaaFilterAddSpec
namespace Go.Proofs.Ytbpimgfaceanmaa
open Go.RowKit
def passK (n : Int) (x : ByteArray) (rs : List RowV) (k : Nat) : List RowV := if filB n x && rowsOk rs then (rs.take k).filter (fun r => decide (addS n r.key x = x)) else []
theorem passK_zero (n : Int) (x : ByteArray) (rs : List RowV) : passK n x rs 0 = [] := by unfold passK; split <;> simp
theorem passK_all (n : Int) (x : ByteArray) (rs : List RowV) (k : Nat) (h : rs.length ≤ k) : passedS n x rs = passK n x rs k := by
  unfold passK passedS; rw [List.take_of_length_le h]
theorem passK_no (n : Int) (x : ByteArray) (rs : List RowV) (k : Nat) (h : (filB n x && rowsOk rs) = false) : passedS n x rs = passK n x rs k := by
  unfold passK passedS; rw [h]; rfl
theorem passK_hit {n : Int} {x : ByteArray} {rs : List RowV} {k : Nat} {r : RowV} (h1 : filB n x = true) (h2 : rowsOk rs = true) (hr : rs[k]? = some r) (hd : decide (addS n r.key x = x) = true) : passK n x rs (k + 1) = passK n x rs k ++ [r] := by
  simp only [passK, h1, h2, Bool.and_true, if_true]
  exact filter_take_succ (p := fun r => decide (addS n r.key x = x)) hr hd
theorem passK_miss {n : Int} {x : ByteArray} {rs : List RowV} {k : Nat} {r : RowV} (hr : rs[k]? = some r) (hd : decide (addS n r.key x = x) = false) : passK n x rs (k + 1) = passK n x rs k := by
  unfold passK
  split
  · exact filter_take_skip (p := fun r => decide (addS n r.key x = x)) hr hd
  · rfl
theorem passK_le (n : Int) (x : ByteArray) (rs : List RowV) (k : Nat) : (passK n x rs k).length ≤ k := by
  unfold passK
  split
  · have := List.length_filter_le (fun r : RowV => decide (addS n r.key x = x)) (rs.take k)
    rw [List.length_take] at this
    omega
  · simp
set_option maxRecDepth 100000 in
set_option maxHeartbeats 1000000 in
theorem specPassed_any (n : Int) (x : ByteArray) (a : Option Addr) (len cap : Nat) (rs : List RowV) (w : World) (hx : x.size ≤ maxLen) (hm : len ≤ 1048576) (hok : ∀ r ∈ rs, r.Ok) (hR : Rd w w.heap.size 3 a len (flat rs)) :
    Calls Try.prog 39 #[.agg #[.int .i64 n, .string x], .slice a len cap] w (RowsOut w (passedS n x rs)) := by
  have hl := Lib.hid hR.rows_length
  obtain ⟨i0, hi, hz0, hz1, hz2⟩ := info_parts infoRow
  have c1 := At2.new w (.int .i64 n) (.string x) 26
  have hb := bl1 w (.cells #[.int .i64 n, .string x] 26)
  have hz : w.heap.size < (w.alloc (.cells #[.int .i64 n, .string x] 26)).heap.size := by simp
  replace hR := hR.below hb (Nat.le_refl _)
  go_enter Try.func39, Try.ntmps39
  go_wp2_with fail
  generalize hW : w.alloc (.cells #[.int .i64 n, .string x] 26) = w1 at *
  have hO0 : (w1.alloc (.cells #[] 84)).ownsRow w1.heap.size 84 3 (.slice (some ⟨w1.heap.size, 0, none⟩) 0 0) 0 (flat (passK n x rs 0)) := by
    rw [passK_zero]
    exact World.ownsRow_lit (base := w1.heap.size) (size := 3) w1 #[] 0 (Nat.le_refl _) (Nat.zero_le _) rfl
  have hD : w.heap.size + 1 = w1.heap.size := by rw [← hW]; simp
  rw [hD]
  clear hW
  have hD' := Lib.hid hD
  clear hD
  go_loopw [5, 6] (fun v i wr => ∃ (k q : Nat) (b : Option Addr) (c : Nat), k ≤ len ∧ i = .int .i64 k ∧ v = .slice b q c ∧ q ≤ k ∧ Hid ((passK n x rs k).length = q) ∧ wr.ownsRow w1.heap.size 84 3 (.slice b q c) q (flat (passK n x rs k)) ∧ Below w1.heap.size w1 wr) (fun _ i _ => len - (intOf i).toNat)
  case atStart => exact ⟨0, 0, _, 0, Nat.zero_le _, rfl, rfl, Nat.le_refl _, Lib.hid (by rw [passK_zero]; rfl), hO0, bl1 _ _⟩
  case round =>
    obtain ⟨k, q, b, c, hk, rfl, rfl, hqk, HQ, hO, hbr⟩ := hrel
    clear hO0
    have hws : w1.heap.size ≤ wr.heap.size := hbr.size
    have hbw : Below w.heap.size w wr := hb.trans (hbr.mono hb.size)
    by_cases hlt : k < len
    · have hRr := (hR.below hbr (Nat.le_of_lt hz)).more (show w.heap.size ≤ wr.heap.size by omega)
      cases hf2 : rowsOk rs
      · have E := Lib.hid (passK_no n x rs k (by rw [hf2, Bool.and_false]))
        go_wp2_with fail
        refine (specRowsOk_any a len cap rs _ hm hok hRr).mono ?_
        rintro e w3 ⟨rfl, hb1⟩
        rw [hf2]
        clear hf2
        have hO1 := own_below hO hb1
        replace hbw := hbw.trans (hb1.mono hbw.size)
        clear hb1 hO hRr
        go_wp2_with fail
        go_ret
        rw [E.out]
        exact RowsOut.of hbw (by rw [HQ.out]; exact hO1) (Nat.le_of_lt hz)
      go_wp2_with fail
      refine (specRowsOk_any a len cap rs _ hm hok hRr).mono ?_
      rintro e w3 ⟨rfl, hb1⟩
      rw [hf2]
      replace hO := own_below hO hb1
      replace hbr := hbr.trans (hb1.mono hbr.size)
      replace hbw := hbw.trans (hb1.mono hbw.size)
      replace hws : w1.heap.size ≤ w3.heap.size := hbr.size
      clear hb1 hRr
      have K := Lib.hid hf2
      clear hf2
      have d := c1.below hbr hz
      have ⟨y0, y1⟩ := d
      cases hf1 : filB n x
      · have E := Lib.hid (passK_no n x rs k (by rw [hf1, Bool.false_and]))
        go_wp2_with fail
        refine (specFilterOk_any n x _ hx).mono ?_
        rintro e w4 ⟨rfl, hb1⟩
        rw [hf1]
        clear hf1 y0 y1 d
        have hO1 := own_below hO hb1
        replace hbw := hbw.trans (hb1.mono hbw.size)
        clear hb1 hO
        go_wp2_with fail
        go_ret
        rw [E.out]
        exact RowsOut.of hbw (by rw [HQ.out]; exact hO1) (Nat.le_of_lt hz)
      go_wp2_with fail
      refine (specFilterOk_any n x _ hx).mono ?_
      rintro e w4 ⟨rfl, hb1⟩
      rw [hf1]
      clear y0 y1 d
      replace hO := own_below hO hb1
      replace hbr := hbr.trans (hb1.mono hbr.size)
      replace hbw := hbw.trans (hb1.mono hbw.size)
      replace hws : w1.heap.size ≤ w4.heap.size := hbr.size
      clear hb1
      obtain ⟨q0, q1, q4, q5, q2⟩ := filB_all hf1
      have F1 := Lib.hid hf1
      clear hf1
      have ⟨y0, y1⟩ := c1.below hbr hz
      obtain ⟨b1, off, r, rfl, hB1, hrk, z0, z1, z2⟩ := (hR.below hbr (Nat.le_of_lt hz)).row hlt
      have hkey := rowOk_key K.out hrk
      have Hr := Lib.hid hrk
      clear hrk
      obtain ⟨key, tag, val⟩ := r
      go_wp2_with fail
      refine wp_region_still_tail 6 (by kernel_rfl) (by kernel_rfl) ?_
      simp only [List.take_succ_cons, List.take_zero, List.drop_succ_cons, List.drop_zero]
      change wpStill _ _ w4.drew _ _ _
      repeat still_step
      refine wpStill_nil ?_
      change wpList _ _ _ _ _ w4.drew
      go_wp2_with fail
      refine (l6Has_any n x key _ q0 q1 q4 q5 hkey).mono ?_
      rintro e w5 ⟨rfl, hb1⟩
      have hb2 : Below w4.heap.size w4 w5 := (Below.refl w4.heap.size w4).drew.trans hb1
      replace hO := own_below hO hb2
      replace hbr := hbr.trans (hb2.mono hbr.size)
      replace hbw := hbw.trans (hb2.mono hbw.size)
      clear y0 y1 z0 z1 z2 hb1 hb2
      cases hd : decide (addS n key x = x)
      · have M := Lib.hid (passK_miss (n := n) (x := x) Hr.out hd)
        clear hd
        go_wp2_with fail
        go_roundw
        case rel => exact ⟨k + 1, q, b, c, by omega, by go_num, rfl, by omega, Lib.hid (by rw [M.out]; exact HQ.out), by rw [M.out]; exact hO, hbr⟩
        case measure => simp [intOf]; omega
      · have M := Lib.hid (passK_hit F1.out K.out Hr.out hd)
        clear hd
        obtain ⟨b2, off2, r2, e2, hB2, hrk2, z0, z1, z2⟩ := (hR.below hbr (Nat.le_of_lt hz)).row hlt
        obtain rfl : (⟨key, tag, val⟩ : RowV) = r2 := by have := Hr.out; rw [hrk2] at this; injection this with h; exact h.symm
        cases e2
        clear hrk2
        go_wp2_with (at_builtin; refine wpList_append_own _ rfl _ _ 50 rfl w1.heap.size 84 i0 (.agg #[.string ⟨#[]⟩, .int .i64 0, .string ⟨#[]⟩]) 3 40 Try.underlying50 hi hz0 hz1 hz2 rfl (by decide) _ _ _ rfl (hO.alloc _) ⟨w5.heap.size, 0, none⟩ 1 1 [.string key, .int .i64 tag, .string val] rfl rfl (cell_row_new w5 ⟨key, tag, val⟩ _) (by simp [Value.oneCell']) (by unfold maxLen; omega) (by omega) (by have := hbr.size; simp; omega) ?_)
        intro v' w6 hO6 hg6 _
        obtain ⟨a', cap', rfl⟩ := own_slice' hO6
        have hb6 := (hbr.alloc hbr.size (.cells #[.string key, .int .i64 tag, .string val] 84)).grown hg6 (by have := hbr.size; simp; omega) (fun q e => (own_ge hO q e).1)
        rw [← flat_snoc _ ⟨key, tag, val⟩, ← M.out] at hO6
        clear hg6 hO z0 z1 z2
        go_wp2_with fail
        go_roundw
        case rel => exact ⟨k + 1, q + 1, a', cap', by omega, by go_num, rfl, by omega, Lib.hid (by rw [M.out, List.length_append, HQ.out]; rfl), hO6, hb6⟩
        case measure => simp [intOf]; omega
    · obtain rfl : k = len := by omega
      have E := Lib.hid (passK_all n x rs k (by rw [hl.out]; omega))
      go_wp2_with fail
      go_ret
      rw [E.out]
      exact RowsOut.of hbw (by rw [HQ.out]; exact hO) (Nat.le_of_lt hz)
end Go.Proofs.Ytbpimgfaceanmaa
