/-
  impl.Passed by its contract. Conditions: at most 1048576 rows, texts have at most maxLen bytes.
-/
import Derived.Test.YtbpimgfaceanmaaFilterOfImpl
import Derived.Test.YtbpimgfaceanmaaCollect
import Derived.Test.YtbpimgfaceanmaaRowsOut
namespace Go.Proofs.Ytbpimgfaceanmaa
open Go.RowKit Go.Shelf
def passedS (n : Int) (x : ByteArray) (rs : List RowV) : List RowV := if filB n x && rowsOk rs then rs.filter (fun r => decide (addS n r.key x = x)) else []
theorem passedS_le (n : Int) (x : ByteArray) (rs : List RowV) : (passedS n x rs).length ≤ 1048576 := by
  unfold passedS
  split
  · rename_i h
    have h1 := List.length_filter_le (fun r : RowV => decide (addS n r.key x = x)) rs
    have h2 := rowsOk_le (Bool.and_eq_true _ _ ▸ h).2
    omega
  · simp
set_option maxRecDepth 100000 in
theorem passed1_any (B : Nat) (n : Int) (l : List UInt8) (r : RowV) (w : World) (h : BS w B n l) (h0 : 8 ≤ n) (h1 : n ≤ 256) (hk : r.key.size ≤ 12) (p : Bool) (hp : hasK n r.key l = p) :
    Calls Try.prog 75 #[rowV r, .pointer (some ⟨B, 0, none⟩)] w fun e w' => e = .returned (.bool p) ∧ Below w.heap.size w w' := by
  obtain ⟨key, tag, val⟩ := r
  subst hp
  have hb := bl1 w (.cells #[.string key, .int .i64 tag, .string val] 84)
  replace h := h.below hb h.2.2.2
  have C := bitHasKey_any B n l key _ h h0 h1 hk
  unfold rowV
  go_enter Try.func75, Try.ntmps75
  go_wp2_with fail
  refine C.mono ?_
  clear C
  rintro e w1 ⟨rfl, hb1⟩
  replace hb := hb.trans (hb1.mono hb.size)
  clear hb1 h
  go_wp2_with fail
  go_ret
  exact ⟨rfl, hb⟩
set_option maxRecDepth 100000 in
set_option maxHeartbeats 1000000 in
theorem implPassed_any (n : Int) (x : ByteArray) (a : Option Addr) (len cap : Nat) (rs : List RowV) (w : World) (hx : x.size ≤ maxLen) (hm : len ≤ 1048576) (hok : ∀ r ∈ rs, r.Ok) (hR : Rd w w.heap.size 3 a len (flat rs)) :
    Calls Try.prog 40 #[.agg #[.int .i64 n, .string x], .slice a len cap] w (RowsOut w (passedS n x rs)) := by
  have c1 := At2.new w (.int .i64 n) (.string x) 26
  have hb := bl1 w (.cells #[.int .i64 n, .string x] 26)
  have hz : w.heap.size < (w.alloc (.cells #[.int .i64 n, .string x] 26)).heap.size := by simp
  replace hR := (hR.below hb (Nat.le_refl _)).more hb.size
  go_enter Try.func40, Try.ntmps40
  go_wp2_with fail
  generalize w.alloc (.cells #[.int .i64 n, .string x] 26) = w1 at *
  refine (implFilterOk_any n x _ hx).mono ?_
  rintro e w2 ⟨rfl, hb1⟩
  replace c1 := c1.keep hb1 (by omega)
  replace hb := hb.trans (hb1.mono (by omega))
  replace hR := (hR.below hb1 (Nat.le_refl _)).more hb1.size
  replace hz : w.heap.size < w2.heap.size := Nat.lt_of_lt_of_le hz hb1.size
  clear hb1
  cases hf1 : filB n x
  · have E := Lib.hid (show passedS n x rs = [] by simp [passedS, hf1])
    clear hf1
    go_wp2_with fail
    go_ret
    rw [E.out]
    exact RowsOut.none _ _ hb
  go_wp2_with fail
  refine (implRowsOk_any a len cap rs _ hm hok hR).mono ?_
  rintro e w3 ⟨rfl, hb1⟩
  replace c1 := c1.keep hb1 (by omega)
  replace hb := hb.trans (hb1.mono (by omega))
  replace hR := (hR.below hb1 (Nat.le_refl _)).more hb1.size
  replace hz : w.heap.size < w3.heap.size := Nat.lt_of_lt_of_le hz hb1.size
  clear hb1
  cases hf2 : rowsOk rs
  · have E := Lib.hid (show passedS n x rs = [] by simp [passedS, hf2])
    clear hf1 hf2
    go_wp2_with fail
    go_ret
    rw [E.out]
    exact RowsOut.none _ _ hb
  obtain ⟨q0, q1, q4, q5, q2⟩ := filB_all hf1
  have E := Lib.hid (show passedS n x rs = rs.filter (fun r => hasK n r.key (padL x)) by
    simp only [passedS, hf1, hf2, Bool.and_true, if_true]
    congr 1
    funext r
    rw [hasK_pad n x r.key q0 q4 q5])
  have K := Lib.hid hf2
  clear hf1 hf2
  have ⟨z0, z1⟩ := c1
  go_wp2_with fail
  refine (bitSetOf_any n x _ q2).mono ?_
  rintro e w4 ⟨rfl, hb1⟩
  clear z0 z1
  replace hb := hb.trans (hb1.mono (by omega))
  replace hR := (hR.below hb1 (Nat.le_refl _)).more hb1.size
  clear hb1 c1
  go_wp2_with (refine wpList_alloc_row rfl 74 rfl _ zero74 (stop ?_))
  have r := BS.new w4 0 zero32 74 rfl
  have hb1 := bl1 w4 (.cells (bsL 0 zero32).toArray 74)
  have hB : w.heap.size ≤ w4.heap.size := hb.size
  replace hb := hb.trans (hb1.mono (by omega))
  replace hR := hR.below hb1 (Nat.le_refl _)
  clear hb1
  generalize w4.alloc (.cells (bsL 0 zero32).toArray 74) = w5 at *
  generalize w4.heap.size = B at *
  refine unstop ?_
  refine wpList_store_bits rfl _ _ rfl B n (padL x) rfl rfl 0 zero32 r (padL_length x q2) fun w6 r6 hk => ?_
  have hb1 := hk B w5 (Nat.le_refl _) (Below.refl _ _)
  replace hb := hb.trans (hb1.mono (by omega))
  replace hR := hR.below hb1 (Nat.le_refl _)
  clear hb1 hk r
  go_wp2_with fail
  refine (where_any a len cap (.func (.func 75) #[] #[.pointer (some ⟨B, 0, none⟩)]) _ ⟨_, _, rfl⟩).mono ?_
  rintro e w7 ⟨rfl, hw7⟩
  have hb1 : Below w6.heap.size w6 w7 := by rw [hw7]; exact bl2 _ _ _
  have k0 : w7.cell? ⟨w6.heap.size, 0, none⟩ = some (.slice a len cap) := by rw [hw7]; simp [go_sem]
  have k1 : w7.cell? ⟨w6.heap.size + 1, 0, none⟩ = some (.func (.func 75) #[] #[.pointer (some ⟨B, 0, none⟩)]) := by rw [hw7]; simp [go_sem]
  have k2 : w7.heap.size = w6.heap.size + 1 + 1 := by rw [hw7]; simp
  have H7 := Lib.hid k2
  clear hw7 k2
  have hB6 := r6.2.2.2
  replace hb := hb.trans (hb1.mono (by omega))
  replace hR := (hR.below hb1 (by omega)).more (show B ≤ w7.heap.size by have := hb1.size; omega)
  replace r6 := r6.below hb1 hB6
  clear hb1
  have hl := Lib.hid hR.rows_length
  have S := fun m => where_stops m w6.heap.size (w6.heap.size + 1) w7.heap.size B 75 a len cap rs (fun r => hasK n r.key (padL x)) hm w7 (Nat.le_refl _)
    (fun k r W1 hr hbW => passed1_any B n (padL x) r W1 (r6.below hbW r6.2.2.2) q0 q1 (rowOk_key K.out hr) _ rfl)
    (enters_of Try.func75 (by kernel_rfl) rfl) k0 k1 (by have := H7.out; omega) (by have := H7.out; omega) hR
  have C := collect_any 97 _ _ rs.length _ w7 (by rw [hl.out]; exact hm) (enters_of Try.func97 (by kernel_rfl) rfl) S
  clear S k0 k1 hR r6
  have hs7 : w.heap.size ≤ w7.heap.size := hb.size
  go_wp2_with fail
  refine C.mono ?_
  clear C
  rintro e w8 ⟨v, rfl, hO, hb1⟩
  replace hb := hb.trans (hb1.mono hb.size)
  clear hb1
  go_wp2_with fail
  go_ret
  rw [E.out]
  exact RowsOut.of hb hO hs7
end Go.Proofs.Ytbpimgfaceanmaa
