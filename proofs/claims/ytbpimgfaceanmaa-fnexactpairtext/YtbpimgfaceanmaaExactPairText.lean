/-
  laws.FnExactPairText returns true for every pair: both functions return the same. No conditions.
-/
import Derived.Test.YtbpimgfaceanmaaPairText
namespace Go.Proofs.Ytbpimgfaceanmaa
open Go.RowKit

set_option maxRecDepth 100000 in
theorem walk_ExactPairText (q : PairV) (w : World) (hq : q.Ok) :
    Calls Try.prog 4 #[.agg #[.string q.key, .string q.l, .string q.r, .bool q.hl, .bool q.hr]] w fun e w' => e = .returned (.bool true) ∧ Below w.heap.size w w' := by
  obtain ⟨k, l, r, x, y⟩ := q
  obtain ⟨hk, hl, hr⟩ := hq
  have hz := szP_bd k l r 1048576 (by omega) (by omega)
  go_enter Try.func4, Try.ntmps4
  go_wp2_with fail
  refine (szPair_any k l r x y _ _ hk hl hr (by omega) (by omega)).mono ?_
  rintro e w1 ⟨rfl, hb1⟩
  have hB : w.heap.size < w1.heap.size := by have := hb1.size; simp at this; omega
  have c1 := (At5.new w (.string k) (.string l) (.string r) (.bool x) (.bool y) 30).keep hb1 (by simp)
  have hb := (bl1 w _).trans (hb1.mono (by simp))
  clear hb1
  generalize szP k l r 1048576 = z at *
  rcases hz with rfl | ⟨hz0, hz1, hz2⟩
  · go_wp2_with fail
    go_ret
    exact ⟨rfl, hb⟩
  have ⟨x0, x1, x2, x3, x4⟩ := c1
  go_wp2_with fail
  refine (toPair_any k l r x y _).mono ?_
  rintro e w2 ⟨rfl, hb2⟩
  have c2 := c1.keep hb2 hB
  have hB2 : w.heap.size < w2.heap.size := by have := hb2.size; omega
  replace hb := hb.trans (hb2.mono (by omega))
  clear hb2 c1 x0 x1 x2 x3 x4 hB
  go_wp2_with fail
  refine (specPairText_any k l r x y _ (by omega)).mono ?_
  rintro e w3 ⟨rfl, hb3⟩
  have c3 := c2.keep hb3 hB2
  have hB3 : w.heap.size < w3.heap.size := by have := hb3.size; omega
  replace hb := hb.trans (hb3.mono (by omega))
  clear hb3 c2 hB2
  have ⟨x0, x1, x2, x3, x4⟩ := c3
  go_wp2_with fail
  refine (toPair_any k l r x y _).mono ?_
  rintro e w4 ⟨rfl, hb4⟩
  have hB4 : w.heap.size < w4.heap.size := by have := hb4.size; omega
  replace hb := hb.trans (hb4.mono (by omega))
  clear hb4 c3 hB3 x0 x1 x2 x3 x4
  go_wp2_with fail
  refine (implPairText_any k l r x y _ (by omega)).mono ?_
  rintro e w5 ⟨rfl, hb5⟩
  replace hb := hb.trans (hb5.mono (by omega))
  clear hb5 hB4
  go_wp2_with fail
  go_ret
  exact ⟨rfl, hb⟩
end Go.Proofs.Ytbpimgfaceanmaa
