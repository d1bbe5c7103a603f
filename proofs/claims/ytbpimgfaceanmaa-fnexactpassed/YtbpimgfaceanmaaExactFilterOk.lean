/-
  laws.FnExactFilterOk returns true for every filter: impl.FilterOk and spec.FilterOk return the same bool. No conditions.
-/
import Derived.Test.YtbpimgfaceanmaaOpenFilter
namespace Go.Proofs.Ytbpimgfaceanmaa
open Go.RowKit

/-- The two cells of a filter at the head of block B. -/
def At2 (w : World) (B : Nat) (x y : Value) : Prop := w.cell? ⟨B, 0, none⟩ = some x ∧ w.cell? ⟨B, 1, none⟩ = some y
theorem At2.keep {w w' : World} {B : Nat} {x y : Value} (h : At2 w B x y) (hb : Below w.heap.size w w') (hB : B < w.heap.size) : At2 w' B x y :=
  ⟨(hb.cell (p := ⟨B, 0, none⟩) hB).trans h.1, (hb.cell (p := ⟨B, 1, none⟩) hB).trans h.2⟩
theorem At2.new (w : World) (x y : Value) (t : TypeId) : At2 (w.alloc (.cells #[x, y] t)) w.heap.size x y := by
  simp [At2, go_sem]

set_option maxRecDepth 100000 in
theorem walk_ExactFilterOk (r : FilV) (w : World) (hr : r.Ok) :
    Calls Try.prog 3 #[.agg #[.int .i64 r.n, .string r.bits]] w fun e w' => e = .returned (.bool true) ∧ Below w.heap.size w w' := by
  obtain ⟨t, v⟩ := r
  obtain ⟨ht, hv⟩ := hr
  have hz := szF_bd v 1048576 (by omega) (by omega)
  go_enter Try.func3, Try.ntmps3
  go_wp2_with fail
  refine (szFilter_any t v _ _ hv (by omega) (by omega)).mono ?_
  rintro e w1 ⟨rfl, hb1⟩
  have hB : w.heap.size < w1.heap.size := by have := hb1.size; simp at this; omega
  have c1 := (At2.new w (.int .i64 t) (.string v) 23).keep hb1 (by simp)
  have hb := (bl1 w _).trans (hb1.mono (by simp))
  clear hb1
  generalize szF v 1048576 = z at *
  rcases hz with rfl | ⟨hz0, hz1⟩
  · go_wp2_with fail
    go_ret
    exact ⟨rfl, hb⟩
  have ⟨x0, x1⟩ := c1
  go_wp2_with fail
  refine (toFilter_any t v _).mono ?_
  rintro e w2 ⟨rfl, hb2⟩
  have c2 := c1.keep hb2 hB
  have hB2 : w.heap.size < w2.heap.size := by have := hb2.size; omega
  replace hb := hb.trans (hb2.mono (by omega))
  clear hb2 c1 x0 x1 hB
  go_wp2_with fail
  refine (specFilterOk_any t v _ hv).mono ?_
  rintro e w3 ⟨rfl, hb3⟩
  have c3 := c2.keep hb3 hB2
  have hB3 : w.heap.size < w3.heap.size := by have := hb3.size; omega
  replace hb := hb.trans (hb3.mono (by omega))
  clear hb3 c2 hB2
  have ⟨x0, x1⟩ := c3
  go_wp2_with fail
  refine (toFilter_any t v _).mono ?_
  rintro e w4 ⟨rfl, hb4⟩
  have hB4 : w.heap.size < w4.heap.size := by have := hb4.size; omega
  replace hb := hb.trans (hb4.mono (by omega))
  clear hb4 c3 hB3 x0 x1
  go_wp2_with fail
  refine (implFilterOk_any t v _ hv).mono ?_
  rintro e w5 ⟨rfl, hb5⟩
  replace hb := hb.trans (hb5.mono (by omega))
  clear hb5 hB4
  go_wp2_with fail
  go_ret
  exact ⟨rfl, hb⟩
end Go.Proofs.Ytbpimgfaceanmaa
