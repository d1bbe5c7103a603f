/-
  laws.FnExactFilterAdd returns true for every filter and key: impl.FilterAdd and spec.FilterAdd return the same. No conditions.
-/
import Derived.Test.YtbpimgfaceanmaaFilterAddSpec
namespace Go.Proofs.Ytbpimgfaceanmaa
open Go.RowKit
set_option maxRecDepth 100000 in
set_option maxHeartbeats 4000000 in
theorem walk_ExactFilterAdd (r : FilV) (s : ByteArray) (w : World) (hr : r.Ok) (hs : s.size ≤ maxLen) :
    Calls Try.prog 8 #[.agg #[.int .i64 r.n, .string r.bits], .string s] w fun e w' => e = .returned (.bool true) ∧ Below w.heap.size w w' := by
  obtain ⟨n, x⟩ := r
  obtain ⟨hn, hx⟩ := hr
  have hs' := hs
  unfold maxLen at hs'
  by_cases hbig : s.size ≤ 1048576
  case neg =>
    have d1 : decide (1048576 < (s.size : Int)) = true := by simp; omega
    go_enter Try.func8, Try.ntmps8
    go_wp2_with fail
    go_ret
    exact ⟨rfl, bl1 _ _⟩
  have d1 : decide (1048576 < (s.size : Int)) = false := by simp; omega
  have hz := szF_bd x 1048576 (by omega) (by omega)
  go_enter Try.func8, Try.ntmps8
  go_wp2_with fail
  refine (szFilter_any n x _ _ hx (by omega) (by omega)).mono ?_
  rintro e w1 ⟨rfl, hb1⟩
  have hB : w.heap.size < w1.heap.size := by have := hb1.size; simp at this; omega
  have c1 := (At2.new w (.int .i64 n) (.string x) 23).keep hb1 (by simp)
  have hb := (bl1 w _).trans (hb1.mono (by simp))
  clear hb1
  generalize szF x 1048576 = z at *
  rcases hz with rfl | ⟨hz0, hz1⟩
  · go_wp2_with fail
    go_ret
    exact ⟨rfl, hb⟩
  obtain ⟨rn, rt, rb, e1⟩ : ∃ rn rt rb, addV n x s = .tuple #[.agg #[.int .i64 rn, .string rt], .bool rb] := ⟨_, _, _, rfl⟩
  have CS := fun w => specFilterAdd_any n x s w hx hs
  have CI := fun w => implFilterAdd_any n x s w hx hs
  rw [e1] at CS CI
  clear e1
  have ⟨u0, u1⟩ := c1
  go_wp2_with fail
  refine (toFilter_any n x _).mono ?_
  rintro e w2 ⟨rfl, hb2⟩
  replace c1 := c1.keep hb2 hB
  replace hB : w.heap.size < w2.heap.size := Nat.lt_of_lt_of_le hB hb2.size
  replace hb := hb.trans (hb2.mono hb.size)
  clear hb2 u0 u1
  go_wp2_with fail
  refine (CS _).mono ?_
  rintro e w3 ⟨rfl, hb2⟩
  replace c1 := c1.keep hb2 hB
  replace hB : w.heap.size < w3.heap.size := Nat.lt_of_lt_of_le hB hb2.size
  replace hb := hb.trans (hb2.mono hb.size)
  clear hb2 CS
  have ⟨u0, u1⟩ := c1
  go_wp2_with fail
  have d := At2.new w3 (.int .i64 rn) (.string rt) 26
  have hb2 := bl1 w3 (.cells #[.int .i64 rn, .string rt] 26)
  have hD : w3.heap.size < (w3.alloc (.cells #[.int .i64 rn, .string rt] 26)).heap.size := by simp
  replace hb := hb.trans (hb2.mono hb.size)
  clear hb2 c1 u0 u1 hB
  generalize w3.alloc (.cells #[.int .i64 rn, .string rt] 26) = w4 at *
  generalize w3.heap.size = D at *
  refine (toFilter_any n x _).mono ?_
  rintro e w5 ⟨rfl, hb2⟩
  replace d := d.keep hb2 hD
  replace hD : D < w5.heap.size := Nat.lt_of_lt_of_le hD hb2.size
  replace hb := hb.trans (hb2.mono hb.size)
  clear hb2
  go_wp2_with fail
  refine (CI _).mono ?_
  rintro e w6 ⟨rfl, hb2⟩
  replace d := d.keep hb2 hD
  replace hD : D < w6.heap.size := Nat.lt_of_lt_of_le hD hb2.size
  replace hb := hb.trans (hb2.mono hb.size)
  clear hb2 CI
  replace d := d.keep (bl1 w6 (.cells #[.int .i64 rn, .string rt] 26)) hD
  have ⟨v0, v1⟩ := d
  have hb3 := bl1 w6 (.cells #[.int .i64 rn, .string rt] 26)
  replace hb := hb.trans (hb3.mono hb.size)
  clear hb3
  go_wp2_with fail
  refine (eqFilter_any rn rt _).mono ?_
  rintro e w7 ⟨rfl, hb2⟩
  replace hb := hb.trans (hb2.mono hb.size)
  have hne : (rb != rb) = false := by simp
  have hne2 : (!rb == rb) = false := by simp
  clear hb2 v0 v1 d hD
  go_wp2_with fail
  go_ret
  exact ⟨rfl, hb⟩
end Go.Proofs.Ytbpimgfaceanmaa
