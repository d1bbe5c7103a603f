/-
  laws.FnExactLess returns true for all rows: impl.Less and spec.Less return the same bool. No conditions.
-/
import Derived.Test.YtlalbcdbcalaiabLess
import Derived.Deep.RegionHeld3
namespace Go.Proofs.Ytlalbcdbcalaiab
open Go.RowKit

def lessR (k : ByteArray) (t : Int) (v : ByteArray) (k2 : ByteArray) (t2 : Int) (v2 : ByteArray) : Bool := okB k t v && okB k2 t2 v2 && lessB k t v k2 t2 v2
theorem specRowOk_b (k v : ByteArray) (t : Int) (b : Bool) (w : World) (hk : k.size ≤ maxLen) (hv : v.size ≤ maxLen) (h : okB k t v = b) :
    Calls Try.prog 17 #[.agg #[.string k, .int .i64 t, .string v]] w fun e w' => e = .returned (.bool b) ∧ Below w.heap.size w w' := h ▸ specRowOk_any k v t w hk hv
theorem implRowOk_b (k v : ByteArray) (t : Int) (b : Bool) (w : World) (hk : k.size ≤ maxLen) (hv : v.size ≤ maxLen) (h : okB k t v = b) :
    Calls Try.prog 19 #[.agg #[.string k, .int .i64 t, .string v]] w fun e w' => e = .returned (.bool b) ∧ Below w.heap.size w w' := h ▸ implRowOk_any k v t w hk hv
theorem specLess_any (k v : ByteArray) (t : Int) (k2 v2 : ByteArray) (t2 : Int) (w : World) (hk : k.size ≤ maxLen) (hv : v.size ≤ maxLen) (hk2 : k2.size ≤ maxLen) (hv2 : v2.size ≤ maxLen) :
    Calls Try.prog 30 #[.agg #[.string k, .int .i64 t, .string v], .agg #[.string k2, .int .i64 t2, .string v2]] w fun e w' => e = .returned (.bool (lessR k t v k2 t2 v2)) ∧ Below w.heap.size w w' := by
  have c1 := (At3.new w (.string k) (.int .i64 t) (.string v) 32).keep (bl1 _ (.cells #[.string k2, .int .i64 t2, .string v2] 32)) (by simp)
  have c2 := At3.new (w.alloc (.cells #[.string k, .int .i64 t, .string v] 32)) (.string k2) (.int .i64 t2) (.string v2) 32
  have hb := bl2 w (.cells #[.string k, .int .i64 t, .string v] 32) (.cells #[.string k2, .int .i64 t2, .string v2] 32)
  have hz : w.heap.size + 1 < ((w.alloc (.cells #[.string k, .int .i64 t, .string v] 32)).alloc (.cells #[.string k2, .int .i64 t2, .string v2] 32)).heap.size := by simp
  simp only [World.size_alloc] at c2
  cases h1 : okB k t v
  case false =>
    have E := Lib.hid (show lessR k t v k2 t2 v2 = false by simp [lessR, h1])
    have h1' := Lib.hid h1
    clear h1
    go_enter Try.func30, Try.ntmps30
    go_wp2_with fail
    refine (specRowOk_b k v t false _ hk hv h1'.out).mono ?_
    rintro e w1 ⟨rfl, hb1⟩
    replace hb := hb.trans (hb1.mono (by omega))
    go_wp2_with fail
    go_ret
    exact ⟨ret_bool E.out.symm, hb⟩
  have h1' := Lib.hid h1
  cases h2 : okB k2 t2 v2
  case false =>
    have E := Lib.hid (show lessR k t v k2 t2 v2 = false by simp [lessR, h2])
    have h2' := Lib.hid h2
    clear h1 h2
    go_enter Try.func30, Try.ntmps30
    go_wp2_with fail
    refine (specRowOk_b k v t true _ hk hv h1'.out).mono ?_
    rintro e w1 ⟨rfl, hb1⟩
    have ⟨y0, y1, y2⟩ := c2.keep hb1 (by omega)
    replace hb := hb.trans (hb1.mono (by omega))
    replace hz : w.heap.size + 1 < w1.heap.size := by have := hb1.size; omega
    clear hb1
    go_wp2_with fail
    refine (specRowOk_b k2 v2 t2 false _ hk2 hv2 h2'.out).mono ?_
    rintro e w2 ⟨rfl, hb2⟩
    replace hb := hb.trans (hb2.mono (by omega))
    go_wp2_with fail
    go_ret
    exact ⟨ret_bool E.out.symm, hb⟩
  have h2' := Lib.hid h2
  have E := Lib.hid (show lessR k t v k2 t2 v2 = lessB k t v k2 t2 v2 by simp [lessR, h1, h2])
  clear h1 h2
  go_enter Try.func30, Try.ntmps30
  go_wp2_with fail
  refine (specRowOk_b k v t true _ hk hv h1'.out).mono ?_
  rintro e w1 ⟨rfl, hb1⟩
  replace c1 := c1.keep hb1 (by omega)
  replace c2 := c2.keep hb1 (by omega)
  have ⟨y0, y1, y2⟩ := c2
  replace hb := hb.trans (hb1.mono (by omega))
  replace hz : w.heap.size + 1 < w1.heap.size := by have := hb1.size; omega
  clear hb1
  go_wp2_with fail
  refine (specRowOk_b k2 v2 t2 true _ hk2 hv2 h2'.out).mono ?_
  rintro e w2 ⟨rfl, hb2⟩
  replace c1 := c1.keep hb2 (by omega)
  replace c2 := c2.keep hb2 (by omega)
  clear y0 y1 y2
  have ⟨x0, x1, x2⟩ := c1
  have ⟨y0, y1, y2⟩ := c2
  replace hb := hb.trans (hb2.mono (by omega))
  replace hz : w.heap.size + 1 < w2.heap.size := by have := hb2.size; omega
  clear hb2
  go_wp2_with fail
  refine (l1Less_any k v t k2 v2 t2 _).mono ?_
  rintro e w3 ⟨rfl, hb3⟩
  replace hb := hb.trans (hb3.mono (by omega))
  go_wp2_with fail
  go_ret
  exact ⟨ret_bool E.out.symm, hb⟩
theorem implLess_any (k v : ByteArray) (t : Int) (k2 v2 : ByteArray) (t2 : Int) (w : World) (hk : k.size ≤ maxLen) (hv : v.size ≤ maxLen) (hk2 : k2.size ≤ maxLen) (hv2 : v2.size ≤ maxLen) :
    Calls Try.prog 31 #[.agg #[.string k, .int .i64 t, .string v], .agg #[.string k2, .int .i64 t2, .string v2]] w fun e w' => e = .returned (.bool (lessR k t v k2 t2 v2)) ∧ Below w.heap.size w w' := by
  have c1 := (At3.new w (.string k) (.int .i64 t) (.string v) 32).keep (bl1 _ (.cells #[.string k2, .int .i64 t2, .string v2] 32)) (by simp)
  have c2 := At3.new (w.alloc (.cells #[.string k, .int .i64 t, .string v] 32)) (.string k2) (.int .i64 t2) (.string v2) 32
  have hb := bl2 w (.cells #[.string k, .int .i64 t, .string v] 32) (.cells #[.string k2, .int .i64 t2, .string v2] 32)
  have hz : w.heap.size + 1 < ((w.alloc (.cells #[.string k, .int .i64 t, .string v] 32)).alloc (.cells #[.string k2, .int .i64 t2, .string v2] 32)).heap.size := by simp
  simp only [World.size_alloc] at c2
  cases h1 : okB k t v
  case false =>
    have E := Lib.hid (show lessR k t v k2 t2 v2 = false by simp [lessR, h1])
    have h1' := Lib.hid h1
    clear h1
    go_enter Try.func31, Try.ntmps31
    go_wp2_with fail
    refine (implRowOk_b k v t false _ hk hv h1'.out).mono ?_
    rintro e w1 ⟨rfl, hb1⟩
    replace hb := hb.trans (hb1.mono (by omega))
    go_wp2_with fail
    go_ret
    exact ⟨ret_bool E.out.symm, hb⟩
  have h1' := Lib.hid h1
  cases h2 : okB k2 t2 v2
  case false =>
    have E := Lib.hid (show lessR k t v k2 t2 v2 = false by simp [lessR, h2])
    have h2' := Lib.hid h2
    clear h1 h2
    go_enter Try.func31, Try.ntmps31
    go_wp2_with fail
    refine (implRowOk_b k v t true _ hk hv h1'.out).mono ?_
    rintro e w1 ⟨rfl, hb1⟩
    have ⟨y0, y1, y2⟩ := c2.keep hb1 (by omega)
    replace hb := hb.trans (hb1.mono (by omega))
    replace hz : w.heap.size + 1 < w1.heap.size := by have := hb1.size; omega
    clear hb1
    go_wp2_with fail
    refine (implRowOk_b k2 v2 t2 false _ hk2 hv2 h2'.out).mono ?_
    rintro e w2 ⟨rfl, hb2⟩
    replace hb := hb.trans (hb2.mono (by omega))
    go_wp2_with fail
    go_ret
    exact ⟨ret_bool E.out.symm, hb⟩
  have h2' := Lib.hid h2
  have E := Lib.hid (show lessR k t v k2 t2 v2 = lessB k t v k2 t2 v2 by simp [lessR, h1, h2])
  clear h1 h2
  go_enter Try.func31, Try.ntmps31
  go_wp2_with fail
  refine (implRowOk_b k v t true _ hk hv h1'.out).mono ?_
  rintro e w1 ⟨rfl, hb1⟩
  replace c1 := c1.keep hb1 (by omega)
  replace c2 := c2.keep hb1 (by omega)
  have ⟨y0, y1, y2⟩ := c2
  replace hb := hb.trans (hb1.mono (by omega))
  replace hz : w.heap.size + 1 < w1.heap.size := by have := hb1.size; omega
  clear hb1
  go_wp2_with fail
  refine (implRowOk_b k2 v2 t2 true _ hk2 hv2 h2'.out).mono ?_
  rintro e w2 ⟨rfl, hb2⟩
  replace c1 := c1.keep hb2 (by omega)
  replace c2 := c2.keep hb2 (by omega)
  clear y0 y1 y2
  have ⟨x0, x1, x2⟩ := c1
  have ⟨y0, y1, y2⟩ := c2
  replace hb := hb.trans (hb2.mono (by omega))
  replace hz : w.heap.size + 1 < w2.heap.size := by have := hb2.size; omega
  clear hb2
  go_wp2_with fail
  refine (compareRows_any k v t k2 v2 t2 _).mono ?_
  rintro e w3 ⟨rfl, hb3⟩
  have L := Lib.hid (or3_less k t v k2 t2 v2)
  replace hb := hb.trans (hb3.mono (by omega))
  generalize or3 (cmpS k k2) (cmpI t t2) (cmpS v v2) = o at *
  go_wp2_with fail
  go_ret
  exact ⟨ret_bool (L.out.trans E.out.symm), hb⟩

theorem two_keep {w W W' : World} {a b c d e f : Value} (h : Below W.heap.size W W')
    (g : W.cell? ⟨w.heap.size, 0, none⟩ = some a ∧ W.cell? ⟨w.heap.size, 1, none⟩ = some b ∧ W.cell? ⟨w.heap.size, 2, none⟩ = some c ∧ W.cell? ⟨w.heap.size + 1, 0, none⟩ = some d ∧ W.cell? ⟨w.heap.size + 1, 1, none⟩ = some e ∧ W.cell? ⟨w.heap.size + 1, 2, none⟩ = some f ∧ Below w.heap.size w W ∧ w.heap.size + 1 < W.heap.size) :
    W'.cell? ⟨w.heap.size, 0, none⟩ = some a ∧ W'.cell? ⟨w.heap.size, 1, none⟩ = some b ∧ W'.cell? ⟨w.heap.size, 2, none⟩ = some c ∧ W'.cell? ⟨w.heap.size + 1, 0, none⟩ = some d ∧ W'.cell? ⟨w.heap.size + 1, 1, none⟩ = some e ∧ W'.cell? ⟨w.heap.size + 1, 2, none⟩ = some f ∧ Below w.heap.size w W' ∧ w.heap.size + 1 < W'.heap.size := by
  obtain ⟨g0, g1, g2, g3, g4, g5, gb, gz⟩ := g
  have hs := h.size
  exact ⟨(h.cell (by exact Nat.lt_of_succ_lt gz)).trans g0, (h.cell (by exact Nat.lt_of_succ_lt gz)).trans g1, (h.cell (by exact Nat.lt_of_succ_lt gz)).trans g2, (h.cell (by exact gz)).trans g3, (h.cell (by exact gz)).trans g4, (h.cell (by exact gz)).trans g5, gb.trans (h.mono (by omega)), by omega⟩
theorem walk_ExactLess (r r2 : RowV) (w : World) (hr : r.Ok) (hr2 : r2.Ok) :
    Calls Try.prog 8 #[.agg #[.string r.key, .int .i64 r.tag, .string r.val], .agg #[.string r2.key, .int .i64 r2.tag, .string r2.val]] w fun e w' => e = .returned (.bool true) ∧ Below w.heap.size w w' := by
  obtain ⟨k, t, v⟩ := r
  obtain ⟨k2, t2, v2⟩ := r2
  obtain ⟨hk, ht, hv⟩ := hr
  obtain ⟨hk2, ht2, hv2⟩ := hr2
  have c1 := (At3.new w (.string k) (.int .i64 t) (.string v) 29).keep (bl1 _ (.cells #[.string k2, .int .i64 t2, .string v2] 29)) (by simp)
  have c2 := At3.new (w.alloc (.cells #[.string k, .int .i64 t, .string v] 29)) (.string k2) (.int .i64 t2) (.string v2) 29
  have hb := bl2 w (.cells #[.string k, .int .i64 t, .string v] 29) (.cells #[.string k2, .int .i64 t2, .string v2] 29)
  have hz : w.heap.size + 1 < ((w.alloc (.cells #[.string k, .int .i64 t, .string v] 29)).alloc (.cells #[.string k2, .int .i64 t2, .string v2] 29)).heap.size := by simp
  simp only [World.size_alloc] at c2
  have z1 := szV_bd k v 1048576 (by omega) (by omega)
  go_enter Try.func8, Try.ntmps8
  go_wp2_with fail
  refine (szRow_any k v t _ _ hk hv (by omega) (by omega)).mono ?_
  rintro e w1 ⟨rfl, hb1⟩
  replace c1 := c1.keep hb1 (by omega)
  replace c2 := c2.keep hb1 (by omega)
  replace hb := hb.trans (hb1.mono (by omega))
  replace hz : w.heap.size + 1 < w1.heap.size := by have := hb1.size; omega
  clear hb1
  generalize szV k v 1048576 = z at *
  rcases z1 with rfl | ⟨z10, z11⟩
  · go_wp2_with fail
    go_ret
    exact ⟨rfl, hb⟩
  have ⟨y0, y1, y2⟩ := c2
  have z2 := szV_bd k2 v2 z (by omega) (by omega)
  go_wp2_with fail
  refine (szRow_any k2 v2 t2 _ _ hk2 hv2 (by omega) (by omega)).mono ?_
  rintro e w2 ⟨rfl, hb2⟩
  replace c1 := c1.keep hb2 (by omega)
  replace c2 := c2.keep hb2 (by omega)
  replace hb := hb.trans (hb2.mono (by omega))
  replace hz : w.heap.size + 1 < w2.heap.size := by have := hb2.size; omega
  clear hb2 y0 y1 y2
  generalize szV k2 v2 z = z' at *
  rcases z2 with rfl | ⟨z20, z21⟩
  · go_wp2_with fail
    go_ret
    exact ⟨rfl, hb⟩
  have ⟨x0, x1, x2⟩ := c1
  have ⟨y0, y1, y2⟩ := c2
  go_wp2_with fail
  go_region_held3 (fun w' => w'.cell? ⟨w.heap.size, 0, none⟩ = some (.string k) ∧ w'.cell? ⟨w.heap.size, 1, none⟩ = some (.int .i64 t) ∧ w'.cell? ⟨w.heap.size, 2, none⟩ = some (.string v) ∧ w'.cell? ⟨w.heap.size + 1, 0, none⟩ = some (.string k2) ∧ w'.cell? ⟨w.heap.size + 1, 1, none⟩ = some (.int .i64 t2) ∧ w'.cell? ⟨w.heap.size + 1, 2, none⟩ = some (.string v2) ∧ Below w.heap.size w w' ∧ w.heap.size + 1 < w'.heap.size) (first | exact ⟨x0, x1, x2, y0, y1, y2, hb.drew, hz⟩ | exact two_keep hb' (by assumption))
    (first
      | (go_at_call 18; refine (toRow_any _ _ _ _).mono ?_; rintro e w' ⟨rfl, hb'⟩)
      | (go_at_call 30; refine (specLess_any _ _ _ _ _ _ _ hk hv hk2 hv2).mono ?_; rintro e w' ⟨rfl, hb'⟩))
  rename_i hH
  obtain ⟨x0', x1', x2', y0', y1', y2', hB, hZ⟩ := hH
  clear x0 x1 x2 y0 y1 y2 hb hz c1 c2
  clear hb'
  go_wp2_with fail
  go_region_held3 (fun w' => w'.cell? ⟨w.heap.size, 0, none⟩ = some (.string k) ∧ w'.cell? ⟨w.heap.size, 1, none⟩ = some (.int .i64 t) ∧ w'.cell? ⟨w.heap.size, 2, none⟩ = some (.string v) ∧ w'.cell? ⟨w.heap.size + 1, 0, none⟩ = some (.string k2) ∧ w'.cell? ⟨w.heap.size + 1, 1, none⟩ = some (.int .i64 t2) ∧ w'.cell? ⟨w.heap.size + 1, 2, none⟩ = some (.string v2) ∧ Below w.heap.size w w' ∧ w.heap.size + 1 < w'.heap.size) (first | exact ⟨x0', x1', x2', y0', y1', y2', hB.drew, hZ⟩ | exact two_keep hb' (by assumption))
    (first
      | (go_at_call 18; refine (toRow_any _ _ _ _).mono ?_; rintro e w' ⟨rfl, hb'⟩)
      | (go_at_call 31; refine (implLess_any _ _ _ _ _ _ _ hk hv hk2 hv2).mono ?_; rintro e w' ⟨rfl, hb'⟩))
  rename_i hH
  obtain ⟨_, _, _, _, _, _, hB', _⟩ := hH
  clear hb' hB hZ x0' x1' x2' y0' y1' y2'
  go_wp2_with fail
  go_ret
  exact ⟨rfl, hB'⟩
end Go.Proofs.Ytlalbcdbcalaiab
