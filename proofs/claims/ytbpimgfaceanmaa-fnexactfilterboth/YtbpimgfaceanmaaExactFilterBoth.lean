/-
  laws.FnExactFilterBoth returns true for all filters: impl.FilterBoth and spec.FilterBoth return the same. No conditions.
-/
import Derived.Test.YtbpimgfaceanmaaBothSpec
import Derived.Test.YtbpimgfaceanmaaResVar
namespace Go.Proofs.Ytbpimgfaceanmaa
open Go.RowKit

theorem both_same (n : Int) (x : ByteArray) (n2 : Int) (x2 : ByteArray) : bothV n x n2 x2 = bothS n x n2 x2 := by
  unfold bothV bothS
  cases h : bothB n x n2 x2
  · rfl
  simp only [bothB, Bool.and_eq_true, beq_iff_eq] at h
  obtain ⟨⟨h1, h2⟩, rfl⟩ := h
  have e1 := filB_size h1
  have e2 := filB_size h2
  have f1 := filB_facts h1
  have l1 : x.data.toList.length = x.size := by simp
  have l2 : x2.data.toList.length = x2.size := by simp
  have p1 := padL_length x f1.2.2
  have p2 := padL_length x2 (by omega)
  have hm : (n / 8).toNat = x.size := by omega
  have E : bytesOf n (orBytes 32 (padL x) (padL x2)) = orS x x2 := by
    unfold bytesOf orS orBytes
    rw [hm, List.take_of_length_le (l := padL x) (by omega), List.take_of_length_le (l := padL x2) (by omega), show (padL x).drop 32 = [] from List.drop_eq_nil_of_le (by omega), List.append_nil, List.take_zipWith, show x.data.toList.drop x.size = [] from List.drop_eq_nil_of_le (by omega), List.append_nil]
    have g1 : (padL x).take x.size = x.data.toList.take x.size := by unfold padL; rw [List.take_append_of_le_length (by omega)]
    have g2 : (padL x2).take x.size = x2.data.toList.take x.size := by unfold padL; rw [List.take_append_of_le_length (by omega)]
    rw [g1, g2]
  simp only [E, if_true]
def bothN (n : Int) (x : ByteArray) (n2 : Int) (x2 : ByteArray) : Int := if bothB n x n2 x2 then n else 0
def bothT (n : Int) (x : ByteArray) (n2 : Int) (x2 : ByteArray) : ByteArray := if bothB n x n2 x2 then orS x x2 else ⟨#[]⟩
theorem both_form (n : Int) (x : ByteArray) (n2 : Int) (x2 : ByteArray) : bothS n x n2 x2 = .tuple #[.agg #[.int .i64 (bothN n x n2 x2), .string (bothT n x n2 x2)], .bool (bothB n x n2 x2)] := by
  unfold bothS bothN bothT
  cases bothB n x n2 x2 <;> rfl
theorem specBoth_any (n : Int) (x : ByteArray) (n2 : Int) (x2 : ByteArray) (w : World) (hx : x.size ≤ maxLen) (hx2 : x2.size ≤ maxLen) :
    Calls Try.prog 32 #[.agg #[.int .i64 n, .string x], .agg #[.int .i64 n2, .string x2]] w fun e w' => e = .returned (.tuple #[.agg #[.int .i64 (bothN n x n2 x2), .string (bothT n x n2 x2)], .bool (bothB n x n2 x2)]) ∧ Below w.heap.size w w' :=
  both_form n x n2 x2 ▸ specFilterBoth_any n x n2 x2 w hx hx2
theorem implBoth_any (n : Int) (x : ByteArray) (n2 : Int) (x2 : ByteArray) (w : World) (hx : x.size ≤ maxLen) (hx2 : x2.size ≤ maxLen) :
    Calls Try.prog 33 #[.agg #[.int .i64 n, .string x], .agg #[.int .i64 n2, .string x2]] w fun e w' => e = .returned (.tuple #[.agg #[.int .i64 (bothN n x n2 x2), .string (bothT n x n2 x2)], .bool (bothB n x n2 x2)]) ∧ Below w.heap.size w w' :=
  both_form n x n2 x2 ▸ both_same n x n2 x2 ▸ implFilterBoth_any n x n2 x2 w hx hx2
set_option maxRecDepth 100000 in
set_option maxHeartbeats 4000000 in
theorem walk_ExactFilterBoth (p q : FilV) (w : World) (hp : p.Ok) (hq : q.Ok) :
    Calls Try.prog 9 #[.agg #[.int .i64 p.n, .string p.bits], .agg #[.int .i64 q.n, .string q.bits]] w fun e w' => e = .returned (.bool true) ∧ Below w.heap.size w w' := by
  obtain ⟨n, x⟩ := p
  obtain ⟨hn, hx⟩ := hp
  obtain ⟨n2, x2⟩ := q
  obtain ⟨hn2, hx2⟩ := hq
  have hz := szF_bd x 1048576 (by omega) (by omega)
  have c1 := (At2.new w (.int .i64 n) (.string x) 23).keep (bl1 _ (.cells #[.int .i64 n2, .string x2] 23)) (by simp)
  have d1 := At2.new (w.alloc (.cells #[.int .i64 n, .string x] 23)) (.int .i64 n2) (.string x2) 23
  have hb := bl2 w (.cells #[.int .i64 n, .string x] 23) (.cells #[.int .i64 n2, .string x2] 23)
  have hB : w.heap.size + 1 < ((w.alloc (.cells #[.int .i64 n, .string x] 23)).alloc (.cells #[.int .i64 n2, .string x2] 23)).heap.size := by simp
  simp only [World.size_alloc] at d1
  go_enter Try.func9, Try.ntmps9
  go_wp2_with fail
  generalize (w.alloc (.cells #[.int .i64 n, .string x] 23)).alloc (.cells #[.int .i64 n2, .string x2] 23) = w0 at *
  refine (szFilter_any n x _ _ hx (by omega) (by omega)).mono ?_
  rintro e w1 ⟨rfl, hb1⟩
  replace c1 := c1.keep hb1 (by omega)
  replace d1 := d1.keep hb1 hB
  replace hB : w.heap.size + 1 < w1.heap.size := by have := hb1.size; omega
  replace hb := hb.trans (hb1.mono hb.size)
  clear hb1
  generalize szF x 1048576 = z at *
  rcases hz with rfl | ⟨hz0, hz1⟩
  · go_wp2_with fail
    go_ret
    exact ⟨rfl, hb⟩
  have hy := szF_bd x2 z hz0 hz1
  have ⟨v0, v1⟩ := d1
  go_wp2_with fail
  refine (szFilter_any n2 x2 _ _ hx2 hz1 hz0).mono ?_
  rintro e w2 ⟨rfl, hb1⟩
  clear v0 v1
  replace c1 := c1.keep hb1 (by omega)
  replace d1 := d1.keep hb1 hB
  replace hB : w.heap.size + 1 < w2.heap.size := by have := hb1.size; omega
  replace hb := hb.trans (hb1.mono hb.size)
  clear hb1
  generalize szF x2 z = y' at *
  rcases hy with rfl | ⟨hy0, hy1⟩
  · go_wp2_with fail
    go_ret
    exact ⟨rfl, hb⟩
  have ⟨u0, u1⟩ := c1
  have ⟨v0, v1⟩ := d1
  have hC := Lib.hid (show ∀ w', Below w2.heap.size w2 w' → w'.cell? ⟨w.heap.size, 0, none⟩ = some (.int .i64 n) ∧ w'.cell? ⟨w.heap.size, 1, none⟩ = some (.string x) ∧ w'.cell? ⟨w.heap.size + 1, 0, none⟩ = some (.int .i64 n2) ∧ w'.cell? ⟨w.heap.size + 1, 1, none⟩ = some (.string x2) from fun w' h => ⟨(h.cell (p := ⟨w.heap.size, 0, none⟩) (Nat.lt_of_succ_lt hB)).trans u0, (h.cell (p := ⟨w.heap.size, 1, none⟩) (Nat.lt_of_succ_lt hB)).trans u1, (h.cell (p := ⟨w.heap.size + 1, 0, none⟩) hB).trans v0, (h.cell (p := ⟨w.heap.size + 1, 1, none⟩) hB).trans v1⟩)
  have hw' := Lib.hid (Nat.le_refl w2.drew.heap.size)
  go_wp2_with fail
  refine region_via (fun a' w' => ∃ p, Got w2 w' p (.int .i64 (bothN n x n2 x2)) (.string (bothT n x n2 x2)) ∧ Below w2.heap.size w2 w' ∧ a' = ⟨#[Value.agg #[Value.int IntKind.i64 n, Value.string x], Value.agg #[Value.int IntKind.i64 n2, Value.string x2], Value.pointer (some ⟨w.heap.size, 0, none⟩), Value.pointer (some ⟨w.heap.size + 1, 0, none⟩), Value.bool false, Value.int IntKind.i64 y', Value.pointer (some ⟨p, 0, none⟩), Value.bool (bothB n x n2 x2), undef, undef, Value.agg #[Value.int IntKind.i64 n, Value.string x], Value.int IntKind.i64 1048576, Value.int IntKind.i64 z, Value.int IntKind.i64 z, Value.bool (decide (z < 0)), Value.agg #[Value.int IntKind.i64 n2, Value.string x2], Value.int IntKind.i64 z, Value.int IntKind.i64 y', Value.int IntKind.i64 y', Value.bool (decide (y' < 0)), Value.tuple #[Value.agg #[Value.int IntKind.i64 (bothN n x n2 x2), Value.string (bothT n x n2 x2)], Value.bool (bothB n x n2 x2)], Value.agg #[Value.int IntKind.i64 n, Value.string x], Value.agg #[Value.int IntKind.i64 n, Value.string x], Value.agg #[Value.int IntKind.i64 n2, Value.string x2], Value.agg #[Value.int IntKind.i64 n2, Value.string x2], Value.tuple #[Value.agg #[Value.int IntKind.i64 (bothN n x n2 x2), Value.string (bothT n x n2 x2)], Value.bool (bothB n x n2 x2)], Value.agg #[Value.int IntKind.i64 (bothN n x n2 x2), Value.string (bothT n x n2 x2)], Value.bool (bothB n x n2 x2), undef, undef, undef, undef, undef, undef, undef, undef, undef, undef, undef, undef, undef, undef, undef, undef, undef], []⟩) ?_ ?_
  · go_region_held3 (fun w' => (w'.cell? ⟨w.heap.size, 0, none⟩ = some (.int .i64 n) ∧ w'.cell? ⟨w.heap.size, 1, none⟩ = some (.string x) ∧ w'.cell? ⟨w.heap.size + 1, 0, none⟩ = some (.int .i64 n2) ∧ w'.cell? ⟨w.heap.size + 1, 1, none⟩ = some (.string x2)) ∧ Below w2.heap.size w2 w') (first | exact keepStart hC.out | exact keepCall hC.out hb' (by assumption) | exact keepAlloc hC.out (by assumption) | exact keepSwap hC.out hw'.out (by assumption) | exact keepStore hC.out A.out (by assumption))
      (first
        | (go_at_call 17; refine (toFilter_any _ _ _).mono ?_; rintro e w' ⟨rfl, hb'⟩; (first | (have A := Lib.hid (FN.new_first hb'); have ⟨a0, a1, a2, a3, _, _⟩ := A.out) | (have A := Lib.hid (FN.new_below hw'.out hb'); have ⟨a0, a1, a2, a3, _, _⟩ := A.out) | (have A := Lib.hid (A.out.below hb'); have ⟨a0, a1, a2, a3, _, _⟩ := A.out) | skip); have hw' := Lib.hid (keepSize hC.out hb' (by assumption)))
        | (go_at_call 32; refine (specBoth_any _ _ _ _ _ hx hx2).mono ?_; rintro e w' ⟨rfl, hb'⟩; (first | (have A := Lib.hid (FN.new_first hb'); have ⟨a0, a1, a2, a3, _, _⟩ := A.out) | (have A := Lib.hid (FN.new_below hw'.out hb'); have ⟨a0, a1, a2, a3, _, _⟩ := A.out) | (have A := Lib.hid (A.out.below hb'); have ⟨a0, a1, a2, a3, _, _⟩ := A.out) | skip); have hw' := Lib.hid (keepSize hC.out hb' (by assumption))))
    all_goals exact ⟨rfl, _, (by first | exact Got.new hw'.out | exact Got.store A.out), keepBelow hC.out (by assumption), rfl⟩
  clear hw'
  rintro a' w3 ⟨p, hG, hb2, rfl⟩
  replace hB : w.heap.size + 1 < w3.heap.size := by have := hb2.size; omega
  replace hb := hb.trans (hb2.mono hb.size)
  have hU := hC.out w3 hb2
  clear u0 u1 v0 v1 c1 d1 hC hb2
  obtain ⟨u0, u1, v0, v1⟩ := hU
  have hC := Lib.hid (show ∀ w', Below w3.heap.size w3 w' → w'.cell? ⟨w.heap.size, 0, none⟩ = some (.int .i64 n) ∧ w'.cell? ⟨w.heap.size, 1, none⟩ = some (.string x) ∧ w'.cell? ⟨w.heap.size + 1, 0, none⟩ = some (.int .i64 n2) ∧ w'.cell? ⟨w.heap.size + 1, 1, none⟩ = some (.string x2) from fun w' h => ⟨(h.cell (p := ⟨w.heap.size, 0, none⟩) (Nat.lt_of_succ_lt hB)).trans u0, (h.cell (p := ⟨w.heap.size, 1, none⟩) (Nat.lt_of_succ_lt hB)).trans u1, (h.cell (p := ⟨w.heap.size + 1, 0, none⟩) hB).trans v0, (h.cell (p := ⟨w.heap.size + 1, 1, none⟩) hB).trans v1⟩)
  have hw' := Lib.hid (Nat.le_refl w3.drew.heap.size)
  go_wp2_with fail
  refine region_via (fun a' w' => ∃ q, Got w3 w' q (.int .i64 (bothN n x n2 x2)) (.string (bothT n x n2 x2)) ∧ Below w3.heap.size w3 w' ∧ a' = ⟨#[Value.agg #[Value.int IntKind.i64 n, Value.string x], Value.agg #[Value.int IntKind.i64 n2, Value.string x2], Value.pointer (some ⟨w.heap.size, 0, none⟩), Value.pointer (some ⟨w.heap.size + 1, 0, none⟩), Value.bool false, Value.int IntKind.i64 y', Value.pointer (some ⟨p, 0, none⟩), Value.bool (bothB n x n2 x2), Value.pointer (some ⟨q, 0, none⟩), Value.bool (bothB n x n2 x2), Value.agg #[Value.int IntKind.i64 n, Value.string x], Value.int IntKind.i64 1048576, Value.int IntKind.i64 z, Value.int IntKind.i64 z, Value.bool (decide (z < 0)), Value.agg #[Value.int IntKind.i64 n2, Value.string x2], Value.int IntKind.i64 z, Value.int IntKind.i64 y', Value.int IntKind.i64 y', Value.bool (decide (y' < 0)), Value.tuple #[Value.agg #[Value.int IntKind.i64 (bothN n x n2 x2), Value.string (bothT n x n2 x2)], Value.bool (bothB n x n2 x2)], Value.agg #[Value.int IntKind.i64 n, Value.string x], Value.agg #[Value.int IntKind.i64 n, Value.string x], Value.agg #[Value.int IntKind.i64 n2, Value.string x2], Value.agg #[Value.int IntKind.i64 n2, Value.string x2], Value.tuple #[Value.agg #[Value.int IntKind.i64 (bothN n x n2 x2), Value.string (bothT n x n2 x2)], Value.bool (bothB n x n2 x2)], Value.agg #[Value.int IntKind.i64 (bothN n x n2 x2), Value.string (bothT n x n2 x2)], Value.bool (bothB n x n2 x2), Value.tuple #[Value.agg #[Value.int IntKind.i64 (bothN n x n2 x2), Value.string (bothT n x n2 x2)], Value.bool (bothB n x n2 x2)], Value.agg #[Value.int IntKind.i64 n, Value.string x], Value.agg #[Value.int IntKind.i64 n, Value.string x], Value.agg #[Value.int IntKind.i64 n2, Value.string x2], Value.agg #[Value.int IntKind.i64 n2, Value.string x2], Value.tuple #[Value.agg #[Value.int IntKind.i64 (bothN n x n2 x2), Value.string (bothT n x n2 x2)], Value.bool (bothB n x n2 x2)], Value.agg #[Value.int IntKind.i64 (bothN n x n2 x2), Value.string (bothT n x n2 x2)], Value.bool (bothB n x n2 x2), undef, undef, undef, undef, undef, undef, undef, undef, undef], []⟩) ?_ ?_
  · go_region_held3 (fun w' => (w'.cell? ⟨w.heap.size, 0, none⟩ = some (.int .i64 n) ∧ w'.cell? ⟨w.heap.size, 1, none⟩ = some (.string x) ∧ w'.cell? ⟨w.heap.size + 1, 0, none⟩ = some (.int .i64 n2) ∧ w'.cell? ⟨w.heap.size + 1, 1, none⟩ = some (.string x2)) ∧ Below w3.heap.size w3 w') (first | exact keepStart hC.out | exact keepCall hC.out hb' (by assumption) | exact keepAlloc hC.out (by assumption) | exact keepSwap hC.out hw'.out (by assumption) | exact keepStore hC.out A.out (by assumption))
      (first
        | (go_at_call 17; refine (toFilter_any _ _ _).mono ?_; rintro e w' ⟨rfl, hb'⟩; (first | (have A := Lib.hid (FN.new_first hb'); have ⟨a0, a1, a2, a3, _, _⟩ := A.out) | (have A := Lib.hid (FN.new_below hw'.out hb'); have ⟨a0, a1, a2, a3, _, _⟩ := A.out) | (have A := Lib.hid (A.out.below hb'); have ⟨a0, a1, a2, a3, _, _⟩ := A.out) | skip); have hw' := Lib.hid (keepSize hC.out hb' (by assumption)))
        | (go_at_call 33; refine (implBoth_any _ _ _ _ _ hx hx2).mono ?_; rintro e w' ⟨rfl, hb'⟩; (first | (have A := Lib.hid (FN.new_first hb'); have ⟨a0, a1, a2, a3, _, _⟩ := A.out) | (have A := Lib.hid (FN.new_below hw'.out hb'); have ⟨a0, a1, a2, a3, _, _⟩ := A.out) | (have A := Lib.hid (A.out.below hb'); have ⟨a0, a1, a2, a3, _, _⟩ := A.out) | skip); have hw' := Lib.hid (keepSize hC.out hb' (by assumption))))
    all_goals exact ⟨rfl, _, (by first | exact Got.new hw'.out | exact Got.store A.out), keepBelow hC.out (by assumption), rfl⟩
  clear hw'
  rintro a' w4 ⟨q, hG2, hb2, rfl⟩
  replace hb := hb.trans (hb2.mono hb.size)
  replace hG := hG.1.keep hb2 hG.2.1
  clear u0 u1 v0 v1 hC hb2 hB
  replace hG2 := hG2.1
  generalize bothN n x n2 x2 = rn at *
  generalize bothT n x n2 x2 = rt at *
  generalize bothB n x n2 x2 = rb at *
  have ⟨u0, u1⟩ := hG
  have ⟨v0, v1⟩ := hG2
  go_wp2_with fail
  refine (eqFilter_any rn rt _).mono ?_
  rintro e w5 ⟨rfl, hb5⟩
  replace hb := hb.trans (hb5.mono hb.size)
  have hne : (rb != rb) = false := by simp
  have hne2 : (!rb == rb) = false := by simp
  clear u0 u1 v0 v1 hb5 hG hG2
  go_wp2_with fail
  go_ret
  exact ⟨rfl, hb⟩
end Go.Proofs.Ytbpimgfaceanmaa
