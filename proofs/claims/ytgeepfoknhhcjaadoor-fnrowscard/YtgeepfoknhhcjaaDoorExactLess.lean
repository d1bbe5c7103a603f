
/-
  laws.FnExactLess returns true for all rows: impl.Less and spec.Less return the same bool. No conditions.
-/
import Derived.Test.YtgeepfoknhhcjaaDoorLess
import Derived.Deep.RegionHeld3
namespace Go.Proofs.YtgeepfoknhhcjaaDoor
open Go.RowKit

def lessR (k : ByteArray) (t : Int) (v : ByteArray) (k2 : ByteArray) (t2 : Int) (v2 : ByteArray) : Bool := okB k t v && okB k2 t2 v2 && lessB k t v k2 t2 v2
theorem specLess_any (k v : ByteArray) (t : Int) (k2 v2 : ByteArray) (t2 : Int) (w : World) (hk : k.size ≤ maxLen) (hv : v.size ≤ maxLen) (hk2 : k2.size ≤ maxLen) (hv2 : v2.size ≤ maxLen) :
    Calls Tryd.prog 29 #[.agg #[.string k, .int .i64 t, .string v], .agg #[.string k2, .int .i64 t2, .string v2]] w fun e w' => e = .returned (.bool (lessR k t v k2 t2 v2)) ∧ Below w.heap.size w w' := by
  have c1 := (At3.new w (.string k) (.int .i64 t) (.string v) 29).keep (bl1 _ (.cells #[.string k2, .int .i64 t2, .string v2] 29)) (by simp)
  have c2 := At3.new (w.alloc (.cells #[.string k, .int .i64 t, .string v] 29)) (.string k2) (.int .i64 t2) (.string v2) 29
  have hb := bl2 w (.cells #[.string k, .int .i64 t, .string v] 29) (.cells #[.string k2, .int .i64 t2, .string v2] 29)
  have hz : w.heap.size + 1 < ((w.alloc (.cells #[.string k, .int .i64 t, .string v] 29)).alloc (.cells #[.string k2, .int .i64 t2, .string v2] 29)).heap.size := by simp
  simp only [World.size_alloc] at c2
  cases h1 : okB k t v
  case false =>
    have E := Lib.hid (show lessR k t v k2 t2 v2 = false by simp [lessR, h1])
    have h1' := Lib.hid h1
    clear h1
    go_enter Tryd.func29, Tryd.ntmps29
    go_wp2_with fail
    refine (specRowOk_b k v t false _ hk hv h1'.out).mono ?_
    rintro e w1 ⟨rfl, hb1⟩
    replace hb := hb.trans (hb1.mono (by omega))
    go_wp2_with fail
    go_ret
    exact ⟨ret_bool E.out.symm, hb⟩
  have h1' := Lib.hid h1
  cases h2 : okB k2 t2 v2
  case false =>
    have E := Lib.hid (show lessR k t v k2 t2 v2 = false by simp [lessR, h2])
    have h2' := Lib.hid h2
    clear h1 h2
    go_enter Tryd.func29, Tryd.ntmps29
    go_wp2_with fail
    refine (specRowOk_b k v t true _ hk hv h1'.out).mono ?_
    rintro e w1 ⟨rfl, hb1⟩
    have ⟨y0, y1, y2⟩ := c2.keep hb1 (by omega)
    replace hb := hb.trans (hb1.mono (by omega))
    replace hz : w.heap.size + 1 < w1.heap.size := by have := hb1.size; omega
    clear hb1
    go_wp2_with fail
    refine (specRowOk_b k2 v2 t2 false _ hk2 hv2 h2'.out).mono ?_
    rintro e w2 ⟨rfl, hb2⟩
    replace hb := hb.trans (hb2.mono (by omega))
    go_wp2_with fail
    go_ret
    exact ⟨ret_bool E.out.symm, hb⟩
  have h2' := Lib.hid h2
  have E := Lib.hid (show lessR k t v k2 t2 v2 = lessB k t v k2 t2 v2 by simp [lessR, h1, h2])
  clear h1 h2
  go_enter Tryd.func29, Tryd.ntmps29
  go_wp2_with fail
  refine (specRowOk_b k v t true _ hk hv h1'.out).mono ?_
  rintro e w1 ⟨rfl, hb1⟩
  replace c1 := c1.keep hb1 (by omega)
  replace c2 := c2.keep hb1 (by omega)
  have ⟨y0, y1, y2⟩ := c2
  replace hb := hb.trans (hb1.mono (by omega))
  replace hz : w.heap.size + 1 < w1.heap.size := by have := hb1.size; omega
  clear hb1
  go_wp2_with fail
  refine (specRowOk_b k2 v2 t2 true _ hk2 hv2 h2'.out).mono ?_
  rintro e w2 ⟨rfl, hb2⟩
  replace c1 := c1.keep hb2 (by omega)
  replace c2 := c2.keep hb2 (by omega)
  clear y0 y1 y2
  have ⟨x0, x1, x2⟩ := c1
  have ⟨y0, y1, y2⟩ := c2
  replace hb := hb.trans (hb2.mono (by omega))
  replace hz : w.heap.size + 1 < w2.heap.size := by have := hb2.size; omega
  clear hb2
  go_wp2_with fail
  refine (l1Less_any k v t k2 v2 t2 _).mono ?_
  rintro e w3 ⟨rfl, hb3⟩
  replace hb := hb.trans (hb3.mono (by omega))
  go_wp2_with fail
  go_ret
  exact ⟨ret_bool E.out.symm, hb⟩
theorem implLess_any (k v : ByteArray) (t : Int) (k2 v2 : ByteArray) (t2 : Int) (w : World) (hk : k.size ≤ maxLen) (hv : v.size ≤ maxLen) (hk2 : k2.size ≤ maxLen) (hv2 : v2.size ≤ maxLen) :
    Calls Tryd.prog 28 #[.agg #[.string k, .int .i64 t, .string v], .agg #[.string k2, .int .i64 t2, .string v2]] w fun e w' => e = .returned (.bool (lessR k t v k2 t2 v2)) ∧ Below w.heap.size w w' := by
  have c1 := (At3.new w (.string k) (.int .i64 t) (.string v) 29).keep (bl1 _ (.cells #[.string k2, .int .i64 t2, .string v2] 29)) (by simp)
  have c2 := At3.new (w.alloc (.cells #[.string k, .int .i64 t, .string v] 29)) (.string k2) (.int .i64 t2) (.string v2) 29
  have hb := bl2 w (.cells #[.string k, .int .i64 t, .string v] 29) (.cells #[.string k2, .int .i64 t2, .string v2] 29)
  have hz : w.heap.size + 1 < ((w.alloc (.cells #[.string k, .int .i64 t, .string v] 29)).alloc (.cells #[.string k2, .int .i64 t2, .string v2] 29)).heap.size := by simp
  simp only [World.size_alloc] at c2
  cases h1 : okB k t v
  case false =>
    have E := Lib.hid (show lessR k t v k2 t2 v2 = false by simp [lessR, h1])
    have h1' := Lib.hid h1
    clear h1
    go_enter Tryd.func28, Tryd.ntmps28
    go_wp2_with fail
    refine (implRowOk_b k v t false _ hk hv h1'.out).mono ?_
    rintro e w1 ⟨rfl, hb1⟩
    replace hb := hb.trans (hb1.mono (by omega))
    go_wp2_with fail
    go_ret
    exact ⟨ret_bool E.out.symm, hb⟩
  have h1' := Lib.hid h1
  cases h2 : okB k2 t2 v2
  case false =>
    have E := Lib.hid (show lessR k t v k2 t2 v2 = false by simp [lessR, h2])
    have h2' := Lib.hid h2
    clear h1 h2
    go_enter Tryd.func28, Tryd.ntmps28
    go_wp2_with fail
    refine (implRowOk_b k v t true _ hk hv h1'.out).mono ?_
    rintro e w1 ⟨rfl, hb1⟩
    have ⟨y0, y1, y2⟩ := c2.keep hb1 (by omega)
    replace hb := hb.trans (hb1.mono (by omega))
    replace hz : w.heap.size + 1 < w1.heap.size := by have := hb1.size; omega
    clear hb1
    go_wp2_with fail
    refine (implRowOk_b k2 v2 t2 false _ hk2 hv2 h2'.out).mono ?_
    rintro e w2 ⟨rfl, hb2⟩
    replace hb := hb.trans (hb2.mono (by omega))
    go_wp2_with fail
    go_ret
    exact ⟨ret_bool E.out.symm, hb⟩
  have h2' := Lib.hid h2
  have E := Lib.hid (show lessR k t v k2 t2 v2 = lessB k t v k2 t2 v2 by simp [lessR, h1, h2])
  clear h1 h2
  go_enter Tryd.func28, Tryd.ntmps28
  go_wp2_with fail
  refine (implRowOk_b k v t true _ hk hv h1'.out).mono ?_
  rintro e w1 ⟨rfl, hb1⟩
  replace c1 := c1.keep hb1 (by omega)
  replace c2 := c2.keep hb1 (by omega)
  have ⟨y0, y1, y2⟩ := c2
  replace hb := hb.trans (hb1.mono (by omega))
  replace hz : w.heap.size + 1 < w1.heap.size := by have := hb1.size; omega
  clear hb1
  go_wp2_with fail
  refine (implRowOk_b k2 v2 t2 true _ hk2 hv2 h2'.out).mono ?_
  rintro e w2 ⟨rfl, hb2⟩
  replace c1 := c1.keep hb2 (by omega)
  replace c2 := c2.keep hb2 (by omega)
  clear y0 y1 y2
  have ⟨x0, x1, x2⟩ := c1
  have ⟨y0, y1, y2⟩ := c2
  replace hb := hb.trans (hb2.mono (by omega))
  replace hz : w.heap.size + 1 < w2.heap.size := by have := hb2.size; omega
  clear hb2
  go_wp2_with fail
  refine (compareRows_any k v t k2 v2 t2 _).mono ?_
  rintro e w3 ⟨rfl, hb3⟩
  have L := Lib.hid (or3_less k t v k2 t2 v2)
  replace hb := hb.trans (hb3.mono (by omega))
  generalize or3 (cmpS k k2) (cmpI t t2) (cmpS v v2) = o at *
  go_wp2_with fail
  go_ret
  exact ⟨ret_bool (L.out.trans E.out.symm), hb⟩

theorem two_keep {w W W' : World} {a b c d e f : Value} (h : Below W.heap.size W W')
    (g : W.cell? ⟨w.heap.size, 0, none⟩ = some a ∧ W.cell? ⟨w.heap.size, 1, none⟩ = some b ∧ W.cell? ⟨w.heap.size, 2, none⟩ = some c ∧ W.cell? ⟨w.heap.size + 1, 0, none⟩ = some d ∧ W.cell? ⟨w.heap.size + 1, 1, none⟩ = some e ∧ W.cell? ⟨w.heap.size + 1, 2, none⟩ = some f ∧ Below w.heap.size w W ∧ w.heap.size + 1 < W.heap.size) :
    W'.cell? ⟨w.heap.size, 0, none⟩ = some a ∧ W'.cell? ⟨w.heap.size, 1, none⟩ = some b ∧ W'.cell? ⟨w.heap.size, 2, none⟩ = some c ∧ W'.cell? ⟨w.heap.size + 1, 0, none⟩ = some d ∧ W'.cell? ⟨w.heap.size + 1, 1, none⟩ = some e ∧ W'.cell? ⟨w.heap.size + 1, 2, none⟩ = some f ∧ Below w.heap.size w W' ∧ w.heap.size + 1 < W'.heap.size := by
  obtain ⟨g0, g1, g2, g3, g4, g5, gb, gz⟩ := g
  have hs := h.size
  exact ⟨(h.cell (by exact Nat.lt_of_succ_lt gz)).trans g0, (h.cell (by exact Nat.lt_of_succ_lt gz)).trans g1, (h.cell (by exact Nat.lt_of_succ_lt gz)).trans g2, (h.cell (by exact gz)).trans g3, (h.cell (by exact gz)).trans g4, (h.cell (by exact gz)).trans g5, gb.trans (h.mono (by omega)), by omega⟩
end Go.Proofs.YtgeepfoknhhcjaaDoor
