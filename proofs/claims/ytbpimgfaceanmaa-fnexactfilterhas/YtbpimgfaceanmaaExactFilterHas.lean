/-
  laws.FnExactFilterHas returns true for every filter and key: impl.FilterHas and spec.FilterHas return the same bool. No conditions.
-/
import Derived.Test.YtbpimgfaceanmaaFilterAddSpec
namespace Go.Proofs.Ytbpimgfaceanmaa
open Go.RowKit
set_option maxRecDepth 100000 in
theorem walk_ExactFilterHas (r : FilV) (s : ByteArray) (w : World) (hr : r.Ok) (hs : s.size ≤ maxLen) :
    Calls Try.prog 7 #[.agg #[.int .i64 r.n, .string r.bits], .string s] w fun e w' => e = .returned (.bool true) ∧ Below w.heap.size w w' := by
  obtain ⟨t, v⟩ := r
  obtain ⟨ht, hv⟩ := hr
  have hs' := hs
  unfold maxLen at hs'
  by_cases hbig : s.size ≤ 1048576
  case neg =>
    have d1 : decide (1048576 < (s.size : Int)) = true := by simp; omega
    go_enter Try.func7, Try.ntmps7
    go_wp2_with fail
    go_ret
    exact ⟨rfl, bl1 _ _⟩
  have d1 : decide (1048576 < (s.size : Int)) = false := by simp; omega
  have hz := szF_bd v 1048576 (by omega) (by omega)
  go_enter Try.func7, Try.ntmps7
  go_wp2_with fail
  refine (szFilter_any t v _ _ hv (by omega) (by omega)).mono ?_
  rintro e w1 ⟨rfl, hb1⟩
  have hB : w.heap.size < w1.heap.size := by have := hb1.size; simp at this; omega
  have c1 := (At2.new w (.int .i64 t) (.string v) 23).keep hb1 (by simp)
  have hb := (bl1 w _).trans (hb1.mono (by simp))
  clear hb1
  generalize szF v 1048576 = z at *
  rcases hz with rfl | ⟨hz0, hz1⟩
  · go_wp2_with fail
    go_ret
    exact ⟨rfl, hb⟩
  have ⟨x0, x1⟩ := c1
  go_wp2_with fail
  refine (toFilter_any t v _).mono ?_
  rintro e w2 ⟨rfl, hb2⟩
  have c2 := c1.keep hb2 hB
  have hB2 : w.heap.size < w2.heap.size := by have := hb2.size; omega
  replace hb := hb.trans (hb2.mono (by omega))
  clear hb2 c1 x0 x1 hB
  go_wp2_with fail
  refine (specFilterHas_any t v s _ hv hs).mono ?_
  rintro e w3 ⟨rfl, hb3⟩
  have c3 := c2.keep hb3 hB2
  have hB3 : w.heap.size < w3.heap.size := by have := hb3.size; omega
  replace hb := hb.trans (hb3.mono (by omega))
  clear hb3 c2 hB2
  have ⟨x0, x1⟩ := c3
  go_wp2_with fail
  refine (toFilter_any t v _).mono ?_
  rintro e w4 ⟨rfl, hb4⟩
  have hB4 : w.heap.size < w4.heap.size := by have := hb4.size; omega
  replace hb := hb.trans (hb4.mono (by omega))
  clear hb4 c3 hB3 x0 x1
  go_wp2_with fail
  refine (implFilterHas_any t v s _ hv hs).mono ?_
  rintro e w5 ⟨rfl, hb5⟩
  replace hb := hb.trans (hb5.mono (by omega))
  clear hb5 hB4
  go_wp2_with fail
  go_ret
  exact ⟨rfl, hb⟩
end Go.Proofs.Ytbpimgfaceanmaa
