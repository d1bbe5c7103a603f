/-
  laws.FnExactRowBytes returns true for every row: impl.RowBytes and spec.RowBytes return the same string. Condition: the variable internal/bytealg.MaxLen holds some int.
-/
import Derived.Test.YtlalbcdbcalaiabDoorRowBytes
namespace Go.Proofs.YtlalbcdbcalaiabDoor
open Go.RowKit

/-- The three cells of a row at the head of block B. -/
def At3 (w : World) (B : Nat) (x y z : Value) : Prop := w.cell? ⟨B, 0, none⟩ = some x ∧ w.cell? ⟨B, 1, none⟩ = some y ∧ w.cell? ⟨B, 2, none⟩ = some z
theorem At3.keep {w w' : World} {B : Nat} {x y z : Value} (h : At3 w B x y z) (hb : Below w.heap.size w w') (hB : B < w.heap.size) : At3 w' B x y z :=
  ⟨(hb.cell (p := ⟨B, 0, none⟩) hB).trans h.1, (hb.cell (p := ⟨B, 1, none⟩) hB).trans h.2.1, (hb.cell (p := ⟨B, 2, none⟩) hB).trans h.2.2⟩
theorem At3.new (w : World) (x y z : Value) (t : TypeId) : At3 (w.alloc (.cells #[x, y, z] t)) w.heap.size x y z := by
  simp [At3, go_sem]

theorem walk_ExactRowBytes (r : RowV) (w : World) (hr : r.Ok) (m : Int) (hm : w.cell? ⟨0, 0, none⟩ = some (.int .i64 m)) :
    Calls Tryd.prog 4 #[.agg #[.string r.key, .int .i64 r.tag, .string r.val]] w fun e w' => e = .returned (.bool true) ∧ Below w.heap.size w w' := by
  obtain ⟨k, t, v⟩ := r
  obtain ⟨hk, ht, hv⟩ := hr
  have l0 := World.block_lt_of_cell? w _ hm
  have hz := szV_bd k v 1048576 (by omega) (by omega)
  go_enter Tryd.func4, Tryd.ntmps4
  go_wp2_with fail
  refine (szRow_any k v t _ _ hk hv (by omega) (by omega)).mono ?_
  rintro e w1 ⟨rfl, hb1⟩
  have hB : w.heap.size < w1.heap.size := by have := hb1.size; simp at this; omega
  have c1 := (At3.new w (.string k) (.int .i64 t) (.string v) 25).keep hb1 (by simp)
  have hb := (bl1 w _).trans (hb1.mono (by simp))
  clear hb1
  generalize szV k v 1048576 = z at *
  rcases hz with rfl | ⟨hz0, hz1⟩
  · go_wp2_with fail
    go_ret
    exact ⟨rfl, hb⟩
  have ⟨x0, x1, x2⟩ := c1
  go_wp2_with fail
  refine (toRow_any k v t _).mono ?_
  rintro e w2 ⟨rfl, hb2⟩
  have c2 := c1.keep hb2 hB
  have hB2 : w.heap.size < w2.heap.size := by have := hb2.size; omega
  replace hb := hb.trans (hb2.mono (by omega))
  clear hb2 c1 x0 x1 x2 hB
  have m2 := (hb.cell l0).trans hm
  go_wp2_with fail
  refine (specRowBytes_any k v t m _ hk hv m2).mono ?_
  rintro e w3 ⟨rfl, hb3⟩
  have c3 := c2.keep hb3 hB2
  have hB3 : w.heap.size < w3.heap.size := by have := hb3.size; omega
  replace hb := hb.trans (hb3.mono (by omega))
  clear hb3 c2 hB2
  have ⟨x0, x1, x2⟩ := c3
  go_wp2_with fail
  refine (toRow_any k v t _).mono ?_
  rintro e w4 ⟨rfl, hb4⟩
  have hB4 : w.heap.size < w4.heap.size := by have := hb4.size; omega
  replace hb := hb.trans (hb4.mono (by omega))
  clear hb4 c3 hB3 x0 x1 x2
  have m4 := (hb.cell l0).trans hm
  go_wp2_with fail
  refine (implRowBytes_any k v t m _ hk hv m4).mono ?_
  rintro e w5 ⟨rfl, hb5⟩
  replace hb := hb.trans (hb5.mono (by omega))
  clear hb5 hB4
  go_wp2_with fail
  go_ret
  exact ⟨rfl, hb⟩
end Go.Proofs.YtlalbcdbcalaiabDoor
